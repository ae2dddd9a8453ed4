/-
  Walks of what copies a list of grants
  Walks of the program's lists: a copy
  Walks of the program's lists: a copy, and who is woken
  Walks of the program's lines: LineOk, PlaceOf, Join, Leave, Wake
-/
import Derived.Test.YtfgknbflgmblmaaZPq1
import Derived.Deep.Upon
namespace Go.Proofs.Ytfgknbflgmblmaa
open Go.RowKit Pl Il
theorem infoGc : (Try.prog.info? 44).map (fun i => (i.zero, i.size, i.bytes)) = some (some (.agg #[.int .i64 0, .bool false]), 2, 16) := by kernel_rfl
/-- Timers are appended to an own row. -/
theorem append_grs (B : Nat) (v : Value) (m : Nat) (ys : List (Int × Bool)) (a : Option Addr) (n cap : Nat) (ts : List (Int × Bool)) (w : World) (ho : w.ownsRow B 44 2 v m (gflat ys)) (hB : B ≤ w.heap.size) (hI : GrAt w a n ts) (hn : m + n ≤ 4194304) : ∃ (v' : Value) (w' : World),
    (Builtin.append_ #[25, 25] 25 #[v, .slice a n cap]).run Try.prog w = .ok v' w' ∧ w'.ownsRow B 44 2 v' (m + n) (gflat (ys ++ ts)) ∧ w.grownBy w' v.ownBlock := by
  obtain ⟨i, hi, hz0, hz1, hz2⟩ := info_parts infoGc
  obtain ⟨hlen, h0⟩ := hI
  rcases Nat.eq_zero_or_pos n with rfl | hpos
  · have hx : ts = [] := List.length_eq_zero_iff.1 hlen
    subst hx
    have hg : w.grownBy w v.ownBlock := ⟨rfl, rfl, rfl, Nat.le_refl _, fun _ _ _ => rfl⟩
    have hform : ∃ q c, v = .slice q m c ∧ m ≤ c := by
      obtain ⟨_, ⟨rfl, rfl⟩ | ⟨g, cp, cur, rfl, _, _, hc, _⟩⟩ := id ho
      · exact ⟨_, _, rfl, Nat.le_refl _⟩
      · exact ⟨_, _, rfl, hc⟩
    obtain ⟨q, c, rfl, hmc⟩ := hform
    refine ⟨_, _, run_append_nothing w 25 25 25 44 i Try.underlying25 hi q m c hmc _ ?_, by rw [Nat.add_zero, List.append_nil]; exact ho, hg⟩
    rcases a with _ | ad
    · exact Src.ofNil _ Try.underlying25 cap
    · exact Src.ofSlice _ Try.underlying25 ad 0 cap [] (by simp) (fun j u h => by simp at h) (fun u h => by cases h)
  · rcases h0 with h0 | ⟨b, off, rfl, hb, hcell⟩
    · omega
    · obtain ⟨g', c', w', hr, hown, hgrow, _, _⟩ := run_append_lies (P := Try.prog) w 25 25 B 44 i _ 2 16 Try.underlying25 hi hz0 hz1 hz2 rfl (by omega) v m _ ho ⟨b, off, none⟩ n cap (gflat ts) (by rw [length_gflat, hlen])
        (fun j u h => by
          rw [Addr.add_lit]
          have hj : j < n * 2 := by
            have := (List.getElem?_eq_some_iff.1 h).1
            rw [length_gflat, hlen] at this
            exact this
          obtain ⟨q1, q2⟩ := hcell (j / 2) (by omega)
          have e := gflat_at ts (j / 2) (j % 2) (by omega) (by omega)
          have ej : j / 2 * 2 + j % 2 = j := by omega
          rw [ej, h] at e
          rcases Nat.mod_two_eq_zero_or_one j with hm | hm
          · rw [hm] at e
            rw [show off + j = off + j / 2 * 2 by omega, q1]
            simpa [gC] using e.symm
          · rw [hm] at e
            rw [show off + j = off + j / 2 * 2 + 1 by omega, q2]
            simpa [gC] using e.symm)
        (fun u hu => by
          simp only [gflat, List.mem_flatMap, gC, List.mem_cons, List.not_mem_nil, or_false] at hu
          obtain ⟨p, _, rfl | rfl⟩ := hu <;> rfl) hpos (by unfold maxLen; omega) (by omega) hB _ rfl
      exact ⟨_, w', hr, by rw [gflat_append]; exact hown, hgrow⟩
theorem copiedG_any (a : Option Addr) (n cap : Nat) (ts : List (Int × Bool)) (w : World) (hI : GrAt w a n ts) (hn : n ≤ 2097152) :
    Calls Try.prog 75 #[.slice a n cap] w fun e w' => ∃ a' c', e = .returned (.slice a' n c') ∧ w'.ownsRow w.heap.size 44 2 (.slice a' n c') n (gflat ts) ∧ Below w.heap.size w w' := by
  obtain ⟨v, w', hr, ho, hg⟩ := append_grs w.heap.size (.slice none 0 0) 0 [] a n cap ts w (World.ownsRow_nil _ _ _ _) (Nat.le_refl _) hI (by omega)
  rw [Nat.zero_add, List.nil_append] at ho
  have hb : Below w.heap.size w w' := (Below.refl _ _).grown hg (Nat.le_refl _) (fun k hk => by cases hk)
  obtain ⟨a', c', rfl, _, _⟩ := ownG_of ho ts rfl
  have Hr := hidOf hr
  have HO := hidOf ho
  clear hr ho hI hg
  go_enter Try.func75, Try.ntmps75
  go_wp2_with (at_builtin; refine wpList_append_run rfl _ _ 25 rfl _ _ _ rfl rfl Hr.out ?_)
  go_ret
  exact ⟨_, _, rfl, HO.out, hb⟩
open Go.RowKit Pl Il
theorem copied_run (a : Option Addr) (n cap : Nat) (xs : List Int) (w : World) (hI : IntsAt w a n xs) (hn : n ≤ 2097152) : ∃ (v : Value) (w' : World),
    (Builtin.append_ #[24, 24] 24 #[.slice none 0 0, .slice a n cap]).run Try.prog w = .ok v w' ∧ w'.ownsRow w.heap.size 3 1 v n (xs.map (Value.int .i64)) ∧ Below w.heap.size w w' := by
  obtain ⟨i, hi, hz0, hz1, hz2⟩ := info_parts info3
  have hnil : w.ownsRow w.heap.size 3 1 (.slice none 0 0) 0 [] := ⟨rfl, .inl ⟨rfl, rfl⟩⟩
  obtain ⟨hlen, h0⟩ := hI
  rcases Nat.eq_zero_or_pos n with rfl | hpos
  · have hx : xs = [] := List.length_eq_zero_iff.1 hlen
    subst hx
    refine ⟨_, _, run_append_nothing w 24 24 24 3 i Try.underlying24 hi none 0 0 (Nat.le_refl _) _ ?_, hnil, Below.refl _ _⟩
    rcases a with _ | ad
    · exact Src.ofNil _ Try.underlying24 cap
    · exact Src.ofSlice _ Try.underlying24 ad 0 cap [] (by simp) (fun j u h => by simp at h) (fun u h => by cases h)
  · rcases h0 with h0 | ⟨b, off, rfl, hb, hcell⟩
    · omega
    · obtain ⟨g', c', w', hr, hown, hgrow, _, _⟩ := run_append_lies (P := Try.prog) w 24 24 w.heap.size 3 i (.int .i64 0) 1 8 Try.underlying24 hi hz0 hz1 hz2 rfl (by omega) _ 0 _ hnil ⟨b, off, none⟩ n cap (xs.map (Value.int .i64)) (by simp [hlen])
        (fun j u h => by
          rw [Addr.add_lit]
          have hj : j < n := by
            have := (List.getElem?_eq_some_iff.1 h).1
            simpa [hlen] using this
          rw [hcell j hj]
          simp only [List.getElem?_map] at h
          rw [List.getElem?_eq_getElem (by omega)] at h
          simp only [Option.map_some, Option.some.injEq] at h
          rw [← h]
          simp [List.getD, List.getElem?_eq_getElem (show j < xs.length by omega)])
        (fun u hu => by obtain ⟨_, _, rfl⟩ := List.mem_map.1 hu; rfl) hpos (by unfold maxLen; omega) (by omega) (Nat.le_refl _) _ rfl
      rw [Nat.zero_add] at hr hown
      rw [List.nil_append] at hown
      exact ⟨_, w', hr, hown, (Below.refl _ _).grown hgrow (Nat.le_refl _) (fun k hk => by cases hk)⟩
theorem copied_any2 (a : Option Addr) (n cap : Nat) (xs : List Int) (w : World) (hI : IntsAt w a n xs) (hn : n ≤ 2097152) :
    Calls Try.prog 74 #[.slice a n cap] w fun e w' => ∃ a' c', e = .returned (.slice a' n c') ∧ Il.OwnAt w.heap.size w' a' n xs ∧ Below w.heap.size w w' ∧ n ≤ c' := by
  obtain ⟨v, w', hr, ho, hb⟩ := copied_run a n cap xs w hI hn
  obtain ⟨a', c', rfl, hO⟩ := own_of ho xs rfl
  have hcp := own_cap ho
  have Hr := hidOf hr
  clear hr ho hI
  go_enter Try.func74, Try.ntmps74
  go_wp2_with (at_builtin; refine wpList_append_run rfl _ _ 24 rfl _ _ _ rfl rfl Hr.out ?_)
  go_ret
  exact ⟨a', c', rfl, hO, hb, hcp⟩
end Go.Proofs.Ytfgknbflgmblmaa
namespace Go.Proofs.Ytfgknbflgmblmaa
open Go.RowKit Go.Maps Pl Il
theorem Il.OwnAt.grown {B : Nat} {w w' : World} {a : Option Addr} {n mb : Nat} {xs : List Int} (h : Il.OwnAt B w a n xs) (hg : w.grownBy w' (some mb)) (hm : mb < B) : Il.OwnAt B w' a n xs := by
  have key : ∀ b, b < w.heap.size → B ≤ b → w'.heap[b]? = w.heap[b]? := fun b hb hB => hg.block b hb (by intro e; cases e; omega)
  obtain ⟨⟨hl, hr⟩, ho⟩ := h
  rcases hr with h0 | ⟨b, off, rfl, hlt, hc⟩
  · exact ⟨⟨hl, .inl h0⟩, .inl h0⟩
  · rcases ho with h0 | ⟨b', off', e, hB, hf⟩
    · exact ⟨⟨hl, .inl h0⟩, .inl h0⟩
    · cases e
      refine ⟨⟨hl, .inr ⟨b, off, rfl, Nat.lt_of_lt_of_le hlt hg.size, fun i hi => ?_⟩⟩, .inr ⟨b, off, rfl, hB, fun i hi => ?_⟩⟩
      · rw [← hc i hi]; exact World.cell?_of_block (key b hlt hB)
      · rw [← hf i hi]; exact World.frozen?_of_block (key b hlt hB)
theorem Il.OwnAt.take {B : Nat} {w : World} {a : Option Addr} {n : Nat} {xs : List Int} (h : Il.OwnAt B w a n xs) (i : Nat) (hi : i ≤ n) : Il.OwnAt B w a i (xs.take i) := by
  refine ⟨h.ints.take i hi, ?_⟩
  rcases h.own with h0 | ⟨b, off, rfl, hB, hf⟩
  · exact .inl (by omega)
  · exact .inr ⟨b, off, rfl, hB, fun j hj => hf j (by omega)⟩
theorem QParts.mlt {B : Nat} {w : World} {qb mb : Nat} {cv : Value} {D : DataW Unit} {xs gone : List Int} (h : QParts B w qb mb cv D xs gone) : mb < w.heap.size := h.mem.map.lt
theorem grown_trans {w w1 w2 : World} {b : Nat} (h : w.grownBy w1 (some b)) (k : w1.grownBy w2 (some b)) : w.grownBy w2 (some b) :=
  ⟨k.os.trans h.os, k.tape.trans h.tape, k.output.trans h.output, Nat.le_trans h.size k.size, fun i hi hn => (k.block i (Nat.lt_of_lt_of_le hi h.size) hn).trans (h.block i hi hn)⟩
/-- The first of the line leave, and are told. -/
theorem wake_any (B qb : Nat) (xs : List Int) (m : Nat) (w : World) (hQ : QAt B w qb xs []) (hw : wfL xs) (hd : xs.Nodup) (hn : xs.length ≤ 32) (hm : m ≤ xs.length) (k : Int) (hk : k = (m : Int) ∨ m = xs.length ∧ (m : Int) ≤ k) :
  Calls Try.prog 91 #[.pointer (some ⟨qb, 0, none⟩), .int .i64 k] w fun e w' => ∃ a c, e = .returned (.slice a m c) ∧ Il.OwnAt w.heap.size w' a m (xs.take m) ∧ QAt B w' qb xs (xs.take m) ∧ Below B w w' := by
 have hBs : B ≤ w.heap.size := by obtain ⟨_, _, _, h⟩ := hQ; exact h.mem.size
 have hst := stand_full hd
 have hS := standing_any B qb xs [] w hQ hw (by omega)
 rw [hst] at hS
 obtain ⟨mb, cv, D, hq⟩ := hQ
 have hmb := hq.mlt
 have hge := hq.mem.ge'
 have HS := hidOf hS
 have HQ := hidOf hq
 clear hS hq hst
 go_enter Try.func91, Try.ntmps91
 go_wp2_with fail
 refine HS.out.mono ?_
 rintro e w1 ⟨v, rfl, ho, hb1⟩
 have HP := hidOf (show QParts B w1 qb mb cv D xs [] from ⟨HQ.out.mem.keep hb1, HQ.out.rd⟩)
 clear HS HQ
 by_cases hlt : m < xs.length
 ·obtain rfl : k = (m : Int) := by omega
  obtain ⟨g, cap, rfl, _⟩ := ho.form (by omega)
  have hcap := (owns_parts ho).2.2.2.1
  have hO := Il.OwnAt.take (owns_parts ho).2.2.2.2.2 m (by omega)
  have HO := hidOf hO
  have i1 : (m : Int) < (xs.length : Int) := by omega
  have i2 : (0 : Int) ≤ (m : Int) := by omega
  have i3 : (m : Int) ≤ (cap : Int) := by omega
  clear hO ho hk
  go_wp2
  go_loopw [19] (fun i wr => ∃ (j : Nat) (D' : DataW Unit), j ≤ m ∧ i = .int .i64 j ∧ QParts B wr qb mb cv D' xs ((xs.take m).take j) ∧ w1.grownBy wr (some mb)) (fun i _ => m - (intOf i).toNat)
  case atStart => exact ⟨0, D, Nat.zero_le _, rfl, by rw [List.take_zero]; exact HP.out, ⟨rfl, rfl, rfl, Nat.le_refl _, fun _ _ _ => rfl⟩⟩
  case round =>
   obtain ⟨j, D', hj, rfl, hp, hg⟩ := hrel
   have hO2 := Il.OwnAt.grown HO.out hg hmb
   by_cases hlt : j < m
   ·obtain ⟨_, h0 | ⟨b', off', e', hb', hcell⟩⟩ := id hO2.ints
    ·omega
    ·cases e'
     have hc := hcell j hlt
     rw [Nat.zero_add] at hc
     have hwj := wf_at (wf_take hw m) (k := j) (by rw [List.length_take]; omega)
     have hcall := leave_parts B qb mb cv D' xs _ ((xs.take m).getD j 0) _ hp hwj
     have hst' : (xs.take m).take j ++ [(xs.take m).getD j 0] = (xs.take m).take (j + 1) := by
      have hl : j < (xs.take m).length := by rw [List.length_take]; omega
      rw [List.take_succ_eq_append_getElem hl]
      simp only [List.getD, List.getElem?_eq_getElem hl, Option.getD_some]
     rw [hst'] at hcall
     generalize (xs.take m).getD j 0 = y at hc hcall
     have HC := hidOf hcall
     have Hg := hidOf hg
     have hjm : (j : Int) < (m : Int) := by omega
     clear hcell hcall hp hO2 hg hst'
     go_wp2_with fail
     refine (HC.out).mono ?_
     rintro e w2 ⟨rfl, hp1, hg1⟩
     go_wp2
     go_roundw
     case rel => exact ⟨j + 1, _, by omega, by go_num, hp1, grown_trans Hg.out hg1⟩
     case measure => simp [intOf]; omega
   ·obtain rfl : j = m := by omega
    rw [List.take_take, Nat.min_self] at hp
    have Hp := hidOf hp
    have HO2 := hidOf hO2
    have Hb := (hb1.mono hBs).grown (row := some mb) hg (Nat.le_trans hBs hb1.size) (fun k hk => by cases hk; exact hge)
    clear hp hO2
    go_wp2
    go_ret
    exact ⟨_, _, rfl, HO2.out, ⟨_, _, _, Hp.out⟩, Hb⟩
 ·have hmx : m = xs.length := by omega
  have hk' : ¬ k < (m : Int) := by omega
  have htk : xs.take m = xs := by rw [hmx]; exact List.take_length
  rw [← hmx] at ho
  rcases Nat.eq_zero_or_pos m with h0 | hpos
  ·obtain ⟨a, c, rfl, hO⟩ := own_of ho xs rfl
   have HO := hidOf (show Il.OwnAt w.heap.size w1 a m (xs.take m) by rw [htk]; exact hO)
   have HP2 := hidOf (show QParts B w1 qb mb cv D xs (xs.take m) by rw [h0, List.take_zero]; exact HP.out)
   have Hb : Below B w w1 := hb1.mono hBs
   have hm0 : ¬ (0 : Int) < (m : Int) := by omega
   clear hO ho hk htk hmx
   go_wp2
   go_loop [19] (fun i => i = .int .i64 0) (fun _ => 0)
   case atStart => rfl
   case round =>
    subst hrel
    go_wp2
    go_ret
    exact ⟨_, ⟨_, rfl⟩, ⟨⟨rfl, .inl rfl⟩, .inl rfl⟩, ⟨_, _, _, HP.out⟩, Hb⟩
  ·obtain ⟨g, cap, rfl, _⟩ := ho.form hpos
   have hO := Il.OwnAt.take (owns_parts ho).2.2.2.2.2 m (Nat.le_refl _)
   have HO := hidOf hO
   have Hm := hidOf hmx
   clear hO ho hk htk hmx
   go_wp2
   go_loopw [19] (fun i wr => ∃ (j : Nat) (D' : DataW Unit), j ≤ m ∧ i = .int .i64 j ∧ QParts B wr qb mb cv D' xs ((xs.take m).take j) ∧ w1.grownBy wr (some mb)) (fun i _ => m - (intOf i).toNat)
   case atStart => exact ⟨0, D, Nat.zero_le _, rfl, by rw [List.take_zero]; exact HP.out, ⟨rfl, rfl, rfl, Nat.le_refl _, fun _ _ _ => rfl⟩⟩
   case round =>
    obtain ⟨j, D', hj, rfl, hp, hg⟩ := hrel
    have hO2 := Il.OwnAt.grown HO.out hg hmb
    by_cases hlt : j < m
    ·obtain ⟨_, h0 | ⟨b', off', e', hb', hcell⟩⟩ := id hO2.ints
     ·omega
     ·cases e'
      have hc := hcell j hlt
      rw [Nat.zero_add] at hc
      have hwj := wf_at (wf_take hw m) (k := j) (by rw [List.length_take]; omega)
      have hcall := leave_parts B qb mb cv D' xs _ ((xs.take m).getD j 0) _ hp hwj
      have hst' : (xs.take m).take j ++ [(xs.take m).getD j 0] = (xs.take m).take (j + 1) := by
       have hl : j < (xs.take m).length := by rw [List.length_take]; omega
       rw [List.take_succ_eq_append_getElem hl]
       simp only [List.getD, List.getElem?_eq_getElem hl, Option.getD_some]
      rw [hst'] at hcall
      generalize (xs.take m).getD j 0 = y at hc hcall
      have HC := hidOf hcall
      have Hg := hidOf hg
      have hjm : (j : Int) < (m : Int) := by omega
      clear hcell hcall hp hO2 hg hst'
      go_wp2_with fail
      refine (HC.out).mono ?_
      rintro e w2 ⟨rfl, hp1, hg1⟩
      go_wp2
      go_roundw
      case rel => exact ⟨j + 1, _, by omega, by go_num, hp1, grown_trans Hg.out hg1⟩
      case measure => simp [intOf]; omega
    ·obtain rfl : j = m := by omega
     rw [List.take_take, Nat.min_self] at hp
     have Hp := hidOf hp
     have HO2 := hidOf hO2
     have Hb := (hb1.mono hBs).grown (row := some mb) hg (Nat.le_trans hBs hb1.size) (fun k hk => by cases hk; exact hge)
     clear hp hO2
     go_wp2
     go_ret
     exact ⟨_, _, rfl, HO2.out, ⟨_, _, _, Hp.out⟩, Hb⟩
open Go.RowKit Go.Maps Pl Il
theorem implLineOk_any (a : Option Addr) (n cap : Nat) (xs : List Int) (w : World) (hI : IntsAt w a n xs) (hn : n ≤ 2097152) (hw : wfL xs) :
    Calls Try.prog 89 #[.slice a n cap] w fun e w' => e = .returned (.bool (lineL xs)) ∧ Below w.heap.size w w' := by
  go_enter Try.func89, Try.ntmps89
  go_wp2_with fail
  refine (lineQueue_any a n cap xs _ hI hn hw).mono ?_
  rintro e w1 ⟨p, rfl, _, hb⟩
  go_wp2
  go_ret
  exact ⟨rfl, hb⟩
/-- A list handed back: in new memory. -/
structure Back (w : World) (a : Option Addr) (n : Nat) (ys : List Int) (w' : World) : Prop where
  own : Il.OwnAt w.heap.size w' a n ys
  below : Below w.heap.size w w'
theorem Back.of {w w1 w2 : World} {a : Option Addr} {n : Nat} {ys : List Int} (h1 : Below w.heap.size w w1) (ho : Il.OwnAt w1.heap.size w2 a n ys) (h2 : Below w1.heap.size w1 w2) : Back w a n ys w2 := ⟨ho.mono h1.size, bl_trans h1 h2⟩
theorem implLeave_any2 (a : Option Addr) (n cap : Nat) (xs : List Int) (x : Int) (w : World) (hI : IntsAt w a n xs) (hn : n ≤ 2097152) (hw : wfL xs) (hx : (Lit.int .i64 x).wf = true) :
    Calls Try.prog 50 #[.slice a n cap, .int .i64 x] w fun e w' => ∃ a' m c', e = .returned (.tuple #[.slice a' m c', .int .i64 (leaveL xs x).2]) ∧ Back w a' m (leaveL xs x).1 w' ∧ m ≤ c' := by
  have hlen := hI.len
  go_enter Try.func50, Try.ntmps50
  go_wp2_with fail
  refine (lineQueue_any a n cap xs _ hI hn hw).mono ?_
  rintro e w1 ⟨p, rfl, hq, hb⟩
  have HI := hidOf (hI.keep hb)
  clear hI
  cases hl : lineL xs
  · clear hq
    go_wp2_with fail
    refine (copied_any2 a n cap xs _ HI.out hn).mono ?_
    rintro e w2 ⟨a', c', rfl, ho, hb2, hcp⟩
    have HB := hidOf (Back.of hb ho hb2)
    clear ho hb2
    go_wp2
    go_ret2
    rw [leave_bad hl]
    exact ⟨_, _, _, rfl, HB.out, hcp⟩
  · obtain ⟨qb, rfl, hQ⟩ := hq hl
    have hnd := nodup_line hl
    have h32 := line_len hl
    go_wp2_with fail
    refine (placeOf_any _ qb xs [] x _ hQ hx).mono ?_
    rintro e w3 ⟨rfl, rfl⟩
    have hs := place_isSome xs x
    generalize hgp : placeG xs [] x = pp at hs
    cases hh : hasL xs x
    · rw [hh] at hs
      go_wp2_with fail
      refine (copied_any2 a n cap xs _ HI.out hn).mono ?_
      rintro e w4 ⟨a', c', rfl, ho, hb2, hcp⟩
      have HB := hidOf (Back.of hb ho hb2)
      clear ho hb2 hQ
      go_wp2
      go_ret2
      rw [leave_none hl hh]
      exact ⟨_, _, _, rfl, HB.out, hcp⟩
    · rw [hh] at hs
      go_wp2_with fail
      refine (leave_any _ qb xs [] x _ hQ hx).mono ?_
      rintro e w4 ⟨rfl, hQ4, hb4⟩
      have hS := standing_any _ qb xs [x] w4 hQ4 hw (by omega)
      rw [stand_less hnd x] at hS
      have HS := hidOf hS
      clear hS hQ4 hQ
      go_wp2_with fail
      refine HS.out.mono ?_
      rintro e w5 ⟨v, rfl, ho, hb5⟩
      obtain ⟨a', c', rfl, hO⟩ := own_of ho _ rfl
      have hcp := own_cap ho
      have HB := hidOf (Back.of (hb.trans hb4) hO hb5)
      clear ho hO
      go_wp2
      go_ret2
      rw [leave_done hl hh]
      exact ⟨_, _, _, rfl, HB.out, hcp⟩
open Go.RowKit Go.Maps Pl Il
/-- What Wake leaves of the line. -/
def wakeRest (xs : List Int) (k : Int) : List Int := if lineL xs && decide (0 ≤ k) then xs.drop (wakeN xs k) else xs
/-- Whom Wake wakes. -/
def wakeOut (xs : List Int) (k : Int) : List Int := if lineL xs && decide (0 ≤ k) then xs.take (wakeN xs k) else []
theorem wake_bad {xs : List Int} {k : Int} (h : lineL xs = false ∨ k < 0) : wakeRest xs k = xs ∧ wakeOut xs k = [] := by
  rcases h with h | h
  · simp [wakeRest, wakeOut, h]
  · have : ¬ 0 ≤ k := by omega
    simp [wakeRest, wakeOut, this]
theorem wake_good {xs : List Int} {k : Int} (h : lineL xs = true) (hk : 0 ≤ k) : wakeRest xs k = xs.drop (wakeN xs k) ∧ wakeOut xs k = xs.take (wakeN xs k) := by
  simp [wakeRest, wakeOut, h, hk]
/-- Two lists that the call has made, apart from one another. -/
structure Apart (w : World) (a1 : Option Addr) (m1 : Nat) (ys : List Int) (a2 : Option Addr) (m2 : Nat) (zs : List Int) (w' : World) : Prop where
  one : Il.OwnAt w.heap.size w' a1 m1 ys
  two : Il.OwnAt w.heap.size w' a2 m2 zs
  apart : m1 = 0 ∨ m2 = 0 ∨ ∀ b off b' off', a1 = some ⟨b, off, none⟩ → a2 = some ⟨b', off', none⟩ → b ≠ b'
  below : Below w.heap.size w w'
theorem implWake_any2 (a : Option Addr) (n cap : Nat) (xs : List Int) (k : Int) (w : World) (hI : IntsAt w a n xs) (hn : n ≤ 2097152) (hw : wfL xs) :
  Calls Try.prog 76 #[.slice a n cap, .int .i64 k] w fun e w' => ∃ a1 m1 c1 a2 m2 c2, e = .returned (.tuple #[.slice a1 m1 c1, .slice a2 m2 c2]) ∧ Apart w a1 m1 (wakeRest xs k) a2 m2 (wakeOut xs k) w' ∧ m1 ≤ c1 := by
 have hlen := hI.len
 go_enter Try.func76, Try.ntmps76
 go_wp2_with fail
 refine (lineQueue_any a n cap xs _ hI hn hw).mono ?_
 rintro e w1 ⟨p, rfl, hq, hb⟩
 have HI := hidOf (hI.keep hb)
 clear hI
 cases hl : lineL xs
 ·clear hq
  go_wp2_with fail
  refine (copied_any2 a n cap xs _ HI.out hn).mono ?_
  rintro e w2 ⟨a', c', rfl, ho, hb2, hcp⟩
  have HB := hidOf (Back.of hb ho hb2)
  have HW := hidOf (wake_bad (k := k) (.inl hl))
  clear ho hb2
  go_wp2
  go_ret2
  rw [HW.out.1, HW.out.2]
  exact ⟨_, _, _, _, _, _, rfl, ⟨HB.out.own, ⟨⟨rfl, .inl rfl⟩, .inl rfl⟩, .inr (.inl rfl), HB.out.below⟩, hcp⟩
 ·obtain ⟨qb, rfl, hQ⟩ := hq hl
  have hnd := nodup_line hl
  have h32 := line_len hl
  by_cases hk : k < 0
  ·have HW := hidOf (wake_bad (xs := xs) (.inr hk))
   clear hQ hq
   go_wp2_with fail
   refine (copied_any2 a n cap xs _ HI.out hn).mono ?_
   rintro e w2 ⟨a', c', rfl, ho, hb2, hcp⟩
   have HB := hidOf (Back.of hb ho hb2)
   clear ho hb2
   go_wp2
   go_ret2
   rw [HW.out.1, HW.out.2]
   exact ⟨_, _, _, _, _, _, rfl, ⟨HB.out.own, ⟨⟨rfl, .inl rfl⟩, .inl rfl⟩, .inr (.inl rfl), HB.out.below⟩, hcp⟩
  ·have hk0 : 0 ≤ k := by omega
   have HW := hidOf (wake_good hl hk0)
   have hwk := wake_any _ qb xs (wakeN xs k) w1 hQ hw hnd h32 (wakeN_le xs k hk0) k (by
    by_cases h : k > (xs.length : Int)
    ·right; rw [wakeN_over h]; omega
    ·left; rw [wakeN_in h]; omega)
   have HWk := hidOf hwk
   clear hwk hQ hq
   go_wp2_with fail
   refine HWk.out.mono ?_
   rintro e w2 ⟨a2, c2, rfl, ho2, hQ2, hb2⟩
   have hS := standing_any _ qb xs (xs.take (wakeN xs k)) w2 hQ2 hw (by omega)
   rw [stand_rest hnd] at hS
   have HS := hidOf hS
   have HO2 := hidOf ho2
   clear hS hQ2 HWk ho2
   generalize wakeN xs k = m at *
   go_wp2_with fail
   refine HS.out.mono ?_
   rintro e w3 ⟨v, rfl, ho, hb3⟩
   generalize (xs.drop m).length = ml at ho
   obtain ⟨a1, c1, rfl, hO⟩ := own_of ho _ rfl
   have hcp := own_cap ho
   have hb12 : Below w.heap.size w w2 := hb.trans hb2
   have hAp : Apart w a1 ml (xs.drop m) a2 m (xs.take m) w3 := by
    refine ⟨hO.mono hb12.size, (HO2.out.keep hb3).mono hb.size, ?_, bl_trans hb12 hb3⟩
    rcases hO.own with h0 | ⟨b, off, rfl, hB, _⟩
    ·exact .inl h0
    ·rcases HO2.out.ints.row with h0 | ⟨b', off', rfl, hlt, _⟩
     ·exact .inr (.inl h0)
     ·refine .inr (.inr fun x ox y oy e e' => ?_)
      cases e; cases e'
      omega
   have HB := hidOf hAp
   clear ho hO hAp
   go_wp2
   go_ret2
   rw [HW.out.1, HW.out.2]
   exact ⟨_, _, _, _, _, _, rfl, HB.out, hcp⟩
open Go.RowKit Go.Maps Pl Il
theorem ownsRow_keep {B : Nat} {w w' : World} {v : Value} {n s : Nat} {t : TypeId} {xs : List Value} (h : w.ownsRow B t s v n xs) (hb : Below w.heap.size w w') : w'.ownsRow B t s v n xs := by
  obtain ⟨hl, hn | ⟨g, cap, cur, rfl, hB, hg, hr⟩⟩ := h
  · exact ⟨hl, .inl hn⟩
  · have hlt : g < w.heap.size := by
      rcases Nat.lt_or_ge g w.heap.size with k | k
      · exact k
      · rw [Array.getElem?_eq_none k] at hg; cases hg
    exact ⟨hl, .inr ⟨g, cap, cur, rfl, hB, by rw [hb.block g hlt]; exact hg, hr⟩⟩
theorem isCount_any (x : Int) (w : World) :
    Calls Try.prog 68 #[.int .i64 x] w fun e w' => e = .returned (.bool (cnt x)) ∧ w' = w := by
  go_enter Try.func68, Try.ntmps68
  go_wp2
  all_goals go_ret
  all_goals (refine ⟨rbool ?_, rfl⟩; simp [cnt]; try omega)
theorem waitersOk_any (a : Option Addr) (n cap : Nat) (ls : List Int) (a' : Option Addr) (n' cap' : Nat) (ts : List Int) (w : World) (hI : IntsAt w a n ls) (hJ : IntsAt w a' n' ts) (hn : n ≤ 2097152) (hn' : n' ≤ 2097152) (hw : wfL ls) (hw' : wfL ts) :
  Calls Try.prog 66 #[.slice a n cap, .slice a' n' cap'] w fun e w' => e = .returned (.bool (waitL ls ts)) ∧ Below w.heap.size w w' := by
 go_enter Try.func66, Try.ntmps66
 go_wp2_with fail
 refine (lineQueue_any a n cap ls _ hI hn hw).mono ?_
 rintro e w1 ⟨p, rfl, hq, hb1⟩
 cases h1 : lineL ls
 ·clear hq
  go_wp2
  go_ret
  exact ⟨rbool (by simp [waitL, h1]), hb1⟩
 ·obtain ⟨qb, rfl, hQ⟩ := hq h1
  go_wp2_with fail
  refine (implLineOk_any a' n' cap' ts _ (hJ.keep hb1) hn' hw').mono ?_
  rintro e w2 ⟨rfl, hb2⟩
  have hB2 := bl_trans hb1 hb2
  cases h2 : lineL ts
  ·clear hq hQ
   go_wp2
   go_ret
   exact ⟨rbool (by simp [waitL, h2]), hB2⟩
  ·have HQ := hidOf (hQ)
   have H1 := hidOf h1
   have H2 := hidOf h2
   have HB2 := hidOf hB2
   have hQ2 : QAt w.heap.size w2 qb ls [] := QAt.keep hQ hb2
   have HQ2 := hidOf hQ2
   have hJ2 := hJ.keep hB2
   clear hq hQ hQ2 HQ hI hJ h1 h2 hB2 hb1
   obtain ⟨hlen, h0 | ⟨b, off, rfl, hb, hcell⟩⟩ := hJ2
   ·subst h0
    have : ts = [] := List.length_eq_zero_iff.1 hlen
    subst this
    go_wp2_with fail
    go_loop [25] (fun i => i = .int .i64 0) (fun _ => 0)
    case atStart => rfl
    case round =>
     subst hrel
     go_wp2
     go_ret
     exact ⟨rbool (by simp [waitL, H1.out, H2.out, apartL]), HB2.out⟩
   ·have HL := hidOf hlen
    clear hlen
    go_wp2_with fail
    go_loop [25] (fun i => ∃ k : Nat, k ≤ n' ∧ i = .int .i64 k ∧ apartL ls (ts.take k) = true) (fun i => n' - (intOf i).toNat)
    case atStart => exact ⟨0, Nat.zero_le _, rfl, rfl⟩
    case round =>
     obtain ⟨k, hk, rfl, hap⟩ := hrel
     have HAp := hidOf hap
     clear hap
     by_cases hlt : k < n'
     ·have hc := hcell k hlt
      have hkl : k < ts.length := by rw [HL.out]; exact hlt
      have hwf := wf_at hw' (k := k) hkl
      generalize hy : ts.getD k 0 = y at hc hwf
      have HY := hidOf hy
      have hki : (0 : Int) ≤ (k : Int) ∧ (k : Int) < (n' : Int) := by omega
      have hps := place_isSome ls y
      have HPs := hidOf hps
      clear hy hcell hps
      cases hpl : placeG ls [] y with
      | none =>
       go_wp2_with (go_at_call 78; refine (placeOf_any _ qb ls [] y _ HQ2.out hwf).mono ?_; rintro e w3 ⟨rfl, rfl⟩; rw [hpl])
       go_round
       case rel => exact ⟨k + 1, by omega, by go_num, apart_step hkl HY.out HAp.out (by rw [← HPs.out, hpl]; rfl)⟩
       case measure => simp [intOf]; omega
      | some j =>
       go_wp2_with (go_at_call 78; refine (placeOf_any _ qb ls [] y _ HQ2.out hwf).mono ?_; rintro e w3 ⟨rfl, rfl⟩; rw [hpl])
       go_ret
       exact ⟨rbool (by rw [waitL, apart_bad hkl HY.out (by rw [← HPs.out, hpl]; rfl)]; simp), HB2.out⟩
     ·obtain rfl : k = n' := by omega
      clear hcell
      go_wp2
      go_ret
      exact ⟨rbool (by rw [waitL, H1.out, H2.out, apart_end (by rw [HL.out]; exact Nat.le_refl _) HAp.out]; rfl), HB2.out⟩
open Go.RowKit Go.Maps Pl Il
set_option maxHeartbeats 1000000 in
theorem whosOf_any (a : Option Addr) (n cap : Nat) (gs : List (Int × Bool)) (w : World) (hI : GrAt w a n gs) (hn : n ≤ 2097152) :
  Calls Try.prog 67 #[.slice a n cap] w fun e w' => ∃ a' c', e = .returned (.slice a' n c') ∧ Il.OwnAt w.heap.size w' a' n (whosL gs) ∧ Below w.heap.size w w' := by
 obtain ⟨hlen, h0 | ⟨b, off, rfl, hb, hcell⟩⟩ := hI
 ·subst h0
  have : gs = [] := List.length_eq_zero_iff.1 hlen
  subst this
  go_enter Try.func67, Try.ntmps67
  go_wp2
  go_loop [3, 8] (fun v i => v = .slice none 0 0 ∧ i = .int .i64 0) (fun _ _ => 0)
  case atStart => exact ⟨rfl, rfl⟩
  case round =>
   obtain ⟨rfl, rfl⟩ := hrel
   go_wp2
   go_ret
   exact ⟨none, ⟨0, rfl⟩, ⟨⟨rfl, .inl rfl⟩, .inl rfl⟩, Below.refl _ _⟩
 ·have HL := hidOf hlen
  clear hlen
  go_enter Try.func67, Try.ntmps67
  go_wp2_with fail
  go_loopw [3, 8] (fun v i wr => ∃ k : Nat, k ≤ n ∧ i = .int .i64 k ∧ wr.ownsRow w.heap.size 3 1 v k ((whosL (gs.take k)).map (Value.int .i64)) ∧ Below w.heap.size w wr) (fun _ i _ => n - (intOf i).toNat)
  case atStart => exact ⟨0, Nat.zero_le _, rfl, ⟨rfl, .inl ⟨rfl, rfl⟩⟩, Below.refl _ _⟩
  case round =>
   rename_i wr
   obtain ⟨k, hk, rfl, ho, hbr⟩ := hrel
   by_cases hlt : k < n
   ·have hc : wr.cell? ⟨b, off + k * 2, none⟩ = some (.int .i64 (gg gs k).1) := by rw [hbr.cell (p := ⟨b, off + k * 2, none⟩) hb]; exact (hcell k hlt).1
    have hc2 : wr.cell? ⟨b, off + k * 2 + 1, none⟩ = some (.bool (gg gs k).2) := by rw [hbr.cell (p := ⟨b, off + k * 2 + 1, none⟩) hb]; exact (hcell k hlt).2
    have hsn : whosL (gs.take (k + 1)) = whosL (gs.take k) ++ [(gg gs k).1] := by rw [take_gg (by have := HL.out; omega), whos_snoc]
    obtain ⟨⟨y1, yb⟩, hy⟩ : ∃ y, gg gs k = y := ⟨_, rfl⟩
    rw [hy] at hc hc2 hsn
    simp only at hc hc2 hsn
    have hbA : Below w.heap.size w (wr.alloc (.cells #[.int .i64 y1, .bool yb] 44)) := bl_alloc hbr _
    have hoA : (wr.alloc (.cells #[.int .i64 y1, .bool yb] 44)).ownsRow w.heap.size 3 1 u3 k ((whosL (gs.take k)).map (Value.int .i64)) := ownsRow_keep ho (bl_alloc (Below.refl _ _) _)
    obtain ⟨g', c', w', hr, ho', hb'⟩ := append_more w.heap.size _ u3 _ y1 _ w rfl hoA hbA (by omega)
    rw [show (wr.alloc (.cells #[.int .i64 y1, .bool yb] 44)).heap.size = wr.heap.size + 1 by simp] at hr
    have Hr := hidOf hr
    have HSn := hidOf hsn
    have Ho' := hidOf ho'
    have Hb' := hidOf hb'
    have hki : (0 : Int) ≤ (k : Int) ∧ (k : Int) < (n : Int) := by omega
    clear hy hcell hr ho ho' hb' hsn hoA hbA
    go_wp2_with (at_builtin; refine wpList_append_run rfl _ _ 24 rfl _ _ _ rfl rfl Hr.out ?_)
    go_roundw
    case rel => exact ⟨k + 1, by omega, by go_num, by rw [HSn.out]; exact Ho'.out, Hb'.out⟩
    case measure => simp [intOf]; omega
   ·obtain rfl : k = n := by omega
    clear hcell
    have hke : gs.take k = gs := List.take_of_length_le (by rw [HL.out]; exact Nat.le_refl _)
    rw [hke] at ho
    obtain ⟨a', c', rfl, hO⟩ := own_of ho (whosL gs) rfl
    go_wp2
    go_ret
    exact ⟨_, _, rfl, hO, hbr⟩
set_option maxHeartbeats 1000000 in
theorem tellingsHeld_any (A : Na) (x : Nt) (w : World) (hI : NIn w A x) (hn' : A.n' ≤ 32) (c1 : cnt x.sp = true) (c2 : cnt x.tk = true) :
  Calls Try.prog 69 #[.agg #[.bool x.pm, .slice A.a A.n A.c, .slice A.a' A.n' A.c', .int .i64 x.on, .int .i64 x.sp, .int .i64 x.tk]] w fun e w' => e = .returned (.int .i64 (heldN x)) ∧ Below w.heap.size w w' := by
 generalize hW : w.alloc (.cells #[.bool x.pm, .slice A.a A.n A.c, .slice A.a' A.n' A.c', .int .i64 x.on, .int .i64 x.sp, .int .i64 x.tk] 27) = W
 have b0 : Below w.heap.size w W := by subst hW; exact bl_alloc (Below.refl _ _) _
 have x0 : NBox w.heap.size A x W := by subst hW; exact NBox.new w A x _
 obtain ⟨_, p0, p1, p2, p3, p4, p5, _⟩ := id x0
 have X0 := hidOf x0
 have B0 := hidOf b0
 have hI0 := hI.grs.keep b0
 have hd1 : 0 ≤ x.sp ∧ x.sp ≤ 1000000000 := by simpa [cnt] using c1
 have hd2 : 0 ≤ x.tk ∧ x.tk ≤ 1000000000 := by simpa [cnt] using c2
 have hhd : heldN x = x.tk + x.sp + onesL x.gs + permI x.pm := rfl
 have HHd := hidOf hhd
 clear c1 c2 x0 b0 hI hhd
 have hlen := hI0.len
 have hr : A.n' = 0 ∨ 0 < A.n' ∧ ∃ b off, A.a' = some ⟨b, off, none⟩ ∧ b < W.heap.size ∧ ∀ i, i < A.n' → W.cell? ⟨b, off + i * 2, none⟩ = some (.int .i64 (gg x.gs i).1) ∧ W.cell? ⟨b, off + i * 2 + 1, none⟩ = some (.bool (gg x.gs i).2) := by
  rcases Nat.eq_zero_or_pos A.n' with h | h
  ·exact .inl h
  ·rcases hI0.row with h' | h'
   ·exact .inl h'
   ·exact .inr ⟨h, h'⟩
 have HL := hidOf hlen
 clear hlen hI0
 obtain ⟨a, n, c, a', n', c'⟩ := A
 simp only at *
 go_enter Try.func69, Try.ntmps69
 go_wp2_with fail
 go_loopw [3, 14] (fun v i wr => ∃ k : Nat, k ≤ n' ∧ i = .int .i64 k ∧ v = .int .i64 (x.tk + x.sp + onesL (x.gs.take k)) ∧ Below W.heap.size W wr) (fun _ i _ => n' - (intOf i).toNat)
 case atStart => exact ⟨0, Nat.zero_le _, rfl, by rw [show onesL (x.gs.take 0) = 0 from rfl]; first | go_num | simp, Below.refl _ _⟩
 case round =>
  rename_i wr
  obtain ⟨k, hk, rfl, rfl, hbr⟩ := hrel
  have hkk : onesL (x.gs.take k) ≤ 32 ∧ 0 ≤ onesL (x.gs.take k) := by
   have := ones_bd (x.gs.take k)
   have h9 : (x.gs.take k).length ≤ k := by simp; omega
   omega
  by_cases hlt : k < n'
  ·rcases hr with h' | ⟨_, b, off, rfl, hb, hcell⟩
   ·omega
   have hkl : k < x.gs.length := by rw [HL.out]; exact hlt
   have hc : wr.cell? ⟨b, off + k * 2, none⟩ = some (.int .i64 (gg x.gs k).1) := by rw [hbr.cell (p := ⟨b, off + k * 2, none⟩) hb]; exact (hcell k hlt).1
   have hc2 : wr.cell? ⟨b, off + k * 2 + 1, none⟩ = some (.bool (gg x.gs k).2) := by rw [hbr.cell (p := ⟨b, off + k * 2 + 1, none⟩) hb]; exact (hcell k hlt).2
   have hsn := ones_snoc (x.gs.take k) (gg x.gs k)
   rw [← take_gg hkl] at hsn
   obtain ⟨⟨y1, yb⟩, hy⟩ : ∃ y, gg x.gs k = y := ⟨_, rfl⟩
   rw [hy] at hc hc2 hsn
   simp only at hc hc2 hsn
   generalize hos : onesL (x.gs.take k) = os at hsn hkk ⊢
   have HSn := hidOf hsn
   have HB := hidOf (bl_trans hbr (bl_alloc (Below.refl wr.heap.size wr) (.cells #[.int .i64 y1, .bool yb] 44)))
   have hki : (0 : Int) ≤ (k : Int) ∧ (k : Int) < (n' : Int) := by omega
   clear hy hcell hsn hkl p0 p1 p2 p3 p4 p5 hos
   cases yb
   ·go_wp2
    go_roundw
    case rel => exact ⟨k + 1, by omega, by go_num, by rw [HSn.out]; first | go_num | simp, HB.out⟩
    case measure => simp [intOf]; omega
   ·go_wp2
    go_roundw
    case rel => exact ⟨k + 1, by omega, by go_num, by rw [HSn.out]; first | go_num | simp, HB.out⟩
    case measure => simp [intOf]; omega
  ·obtain rfl : k = n' := by omega
   have hke : x.gs.take k = x.gs := List.take_of_length_le (by rw [HL.out]; exact Nat.le_refl _)
   rw [hke] at hkk ⊢
   obtain ⟨_, q0, q1, q2, q3, q4, q5, _⟩ := X0.out.keep hbr
   have HB := hidOf (bl_trans B0.out hbr)
   clear hr p0 p1 p2 p3 p4 p5 hke hbr
   generalize onesL x.gs = os at *
   cases hpm : x.pm
   ·rw [hpm] at q0
    go_wp2
    go_ret
    exact ⟨by rw [HHd.out, hpm]; simp [permI], HB.out⟩
   ·rw [hpm] at q0
    go_wp2
    go_ret
    exact ⟨by rw [HHd.out, hpm]; simp [permI], HB.out⟩
open Go.RowKit Go.Maps Pl Il
/-- What a call on a notification holds on to: the argument's variable, what was there ahead. -/
abbrev NS (N : Nat) (A : Na) (x : Nt) (w w' : World) : Prop :=
  w'.cell? ⟨N, 0, none⟩ = some (.bool x.pm) ∧ w'.cell? ⟨N, 1, none⟩ = some (.slice A.a A.n A.c) ∧ w'.cell? ⟨N, 2, none⟩ = some (.slice A.a' A.n' A.c') ∧ w'.cell? ⟨N, 3, none⟩ = some (.int .i64 x.on) ∧ w'.cell? ⟨N, 4, none⟩ = some (.int .i64 x.sp) ∧ w'.cell? ⟨N, 5, none⟩ = some (.int .i64 x.tk) ∧ NBox N A x w' ∧ NIn w' A x ∧ Below w.heap.size w w'
theorem NS.mk' {N : Nat} {A : Na} {x : Nt} {w w' : World} (hb : NBox N A x w') (hi : NIn w' A x) (hB : Below w.heap.size w w') : NS N A x w w' := ⟨hb.c0, hb.c1, hb.c2, hb.c3, hb.c4, hb.c5, hb, hi, hB⟩
theorem NS.keep {N : Nat} {A : Na} {x : Nt} {w u u' : World} (h : NS N A x w u) (hb : Below u.heap.size u u') : NS N A x w u' := NS.mk' (h.2.2.2.2.2.2.1.keep hb) (h.2.2.2.2.2.2.2.1.keep hb) (bl_trans h.2.2.2.2.2.2.2.2 hb)
theorem NS.drew {N : Nat} {A : Na} {x : Nt} {w u : World} (h : NS N A x w u) : NS N A x w u.drew := h.keep (Below.refl _ _).drew
theorem cnt_bd' {x : Int} (h : cnt x = true) : 0 ≤ x ∧ x ≤ 1000000000 := by simpa [cnt] using h
theorem okN_wait {x : Nt} (h : waitL x.ln (whosL x.gs) = false) : okN x = false := by simp [okN, h]
theorem okN_perm' {x : Nt} (hp : x.pm = true) (hl : 0 < x.ln.length) : okN x = false := by
  have : (x.pm && decide (0 < x.ln.length)) = true := by rw [hp, decide_eq_true hl]; rfl
  unfold okN
  rw [this]; simp
theorem okN_cnt' {x : Nt} (h : cnt x.on = false ∨ cnt x.sp = false ∨ cnt x.tk = false) : okN x = false := by
  unfold okN
  rcases h with h | h | h <;> simp [h]
theorem okN_end' {x : Nt} (hw : waitL x.ln (whosL x.gs) = true) (h3 : x.pm = true → x.ln.length = 0) (c1 : cnt x.on = true) (c2 : cnt x.sp = true) (c3 : cnt x.tk = true) : okN x = decide (x.on = heldN x) := by
  have hp : (x.pm && decide (0 < x.ln.length)) = false := by
    cases e : x.pm
    · rfl
    · rw [h3 e]; rfl
  unfold okN
  rw [hw, hp, c1, c2, c3]; rfl
theorem wait_len {ls ts : List Int} (h : waitL ls ts = true) : ls.length ≤ 32 ∧ ts.length ≤ 32 := by
  simp only [waitL, Bool.and_eq_true, lineL, decide_eq_true_eq] at h
  exact ⟨h.1.1.1, h.1.2.1⟩
theorem NS.nin {N : Nat} {A : Na} {x : Nt} {w u : World} (h : NS N A x w u) : NIn u A x := h.2.2.2.2.2.2.2.1
theorem NS.grs {N : Nat} {A : Na} {x : Nt} {w u : World} (h : NS N A x w u) : GrAt u A.a' A.n' x.gs := h.2.2.2.2.2.2.2.1.grs
theorem NS.ints {N : Nat} {A : Na} {x : Nt} {w u : World} (h : NS N A x w u) : IntsAt u A.a A.n x.ln := h.2.2.2.2.2.2.2.1.ints
set_option maxRecDepth 100000 in
set_option maxHeartbeats 4000000 in
theorem implNotifyOk_any (A : Na) (x : Nt) (w : World) (hI : NIn w A x) (hn : A.n ≤ 2097152) (hn' : A.n' ≤ 2097152) (hw : NWf x) :
  Calls Try.prog 31 #[.agg #[.bool x.pm, .slice A.a A.n A.c, .slice A.a' A.n' A.c', .int .i64 x.on, .int .i64 x.sp, .int .i64 x.tk]] w fun e w' => e = .returned (.bool (okN x)) ∧ Below w.heap.size w w' := by
 generalize hW : w.alloc (.cells #[.bool x.pm, .slice A.a A.n A.c, .slice A.a' A.n' A.c', .int .i64 x.on, .int .i64 x.sp, .int .i64 x.tk] 27) = W
 have hS : NS w.heap.size A x w W := by
  have b0 : Below w.heap.size w W := by subst hW; exact bl_alloc (Below.refl _ _) _
  exact NS.mk' (by subst hW; exact NBox.new w A x _) (hI.keep b0) b0
 have HL1 := hidOf hI.ints.len
 have HL2 := hidOf hI.grs.len
 clear hI
 obtain ⟨pm, ln, gs, on, sp, tk⟩ := x
 obtain ⟨p0, p1, p2, p3, p4, p5, _, _, _⟩ := id hS
 clear p0 p1 p2 p3 p4 p5
 go_enter Try.func31, Try.ntmps31
 cases h1 : waitL ln (whosL gs)
 ·have hr := hidOf (okN_wait (x := ⟨pm, ln, gs, on, sp, tk⟩) h1)
  obtain ⟨p0, p1, p2, p3, p4, p5, _, _, _⟩ := id hS
  have CW := hidOf (whosOf_any A.a' A.n' A.c' gs W.drew (NS.grs hS.drew) hn')
  have HS := hidOf hS
  have hun : (undef : Value) = .tuple #[] := rfl
  clear hS
  go_wp2_with fail
  first | (go_region_with (first
   | (go_at_call 67; refine (CW.out).mono ?_; rintro e w1 ⟨a1, c1, rfl, ho1, hb1⟩; have hT1 := NS.keep (HS.out.drew) hb1; have C2 := hidOf (waitersOk_any A.a A.n A.c ln a1 A.n' c1 (whosL gs) w1 (NS.ints hT1) ho1.ints hn hn' hw.ln hw.gs); have HT1 := hidOf hT1; obtain ⟨q0, q1, q2, q3, q4, q5, _, _, _⟩ := id hT1; clear hT1 ho1 hb1)
   | (go_at_call 66; refine (C2.out).mono ?_; rintro e w2 ⟨rfl, hb2⟩; rw [h1]; have hT := NS.keep (HT1.out) hb2; obtain ⟨r0, r1, r2, r3, r4, r5, _, _, hB⟩ := id hT; have HT := hidOf hT; clear hT hb2))) | fail
  all_goals go_wp2
  all_goals go_ret
  all_goals exact ⟨rbool hr.out.symm, hB⟩
 ·have H1 := hidOf h1
  have hl := wait_len h1
  rw [HL1.out, whos_len, HL2.out] at hl
  cases pm
  ·have H3 : Hid (false = true → ln.length = 0) := hidOf (fun h => by cases h)
   obtain ⟨p0, p1, p2, p3, p4, p5, _, _, _⟩ := id hS
   have CW := hidOf (whosOf_any A.a' A.n' A.c' gs W.drew (NS.grs hS.drew) hn')
   have HS := hidOf hS
   have hun : (undef : Value) = .tuple #[] := rfl
   clear hS
   go_wp2_with fail
   first | (go_region_with (first
    | (go_at_call 67; refine (CW.out).mono ?_; rintro e w1 ⟨a1, c1, rfl, ho1, hb1⟩; have hT1 := NS.keep (HS.out.drew) hb1; have C2 := hidOf (waitersOk_any A.a A.n A.c ln a1 A.n' c1 (whosL gs) w1 (NS.ints hT1) ho1.ints hn hn' hw.ln hw.gs); have HT1 := hidOf hT1; obtain ⟨q0, q1, q2, q3, q4, q5, _, _, _⟩ := id hT1; clear hT1 ho1 hb1)
    | (go_at_call 66; refine (C2.out).mono ?_; rintro e w2 ⟨rfl, hb2⟩; rw [h1]; have hT := NS.keep (HT1.out) hb2; obtain ⟨r0, r1, r2, r3, r4, r5, _, _, hB⟩ := id hT; have HT := hidOf hT; clear hT hb2))) | fail
   all_goals
    cases c1 : cnt on
    ·have hr := hidOf (okN_cnt' (x := ⟨false, ln, gs, on, sp, tk⟩) (.inl c1))
     go_wp2_with (go_at_call 68; refine (isCount_any _ _).mono ?_; rintro e w5 ⟨rfl, rfl⟩; first | rw [c1] | skip)
     go_ret
     exact ⟨rbool hr.out.symm, hB⟩
    ·cases c2 : cnt sp
     ·have hr := hidOf (okN_cnt' (x := ⟨false, ln, gs, on, sp, tk⟩) (.inr (.inl c2)))
      go_wp2_with (go_at_call 68; refine (isCount_any _ _).mono ?_; rintro e w5 ⟨rfl, rfl⟩; first | rw [c1] | rw [c2])
      go_ret
      exact ⟨rbool hr.out.symm, hB⟩
     ·cases c3 : cnt tk
      ·have hr := hidOf (okN_cnt' (x := ⟨false, ln, gs, on, sp, tk⟩) (.inr (.inr c3)))
       go_wp2_with (go_at_call 68; refine (isCount_any _ _).mono ?_; rintro e w5 ⟨rfl, rfl⟩; first | rw [c1] | rw [c2] | rw [c3])
       go_ret
       exact ⟨rbool hr.out.symm, hB⟩
      ·have hr := hidOf (okN_end' (x := ⟨false, ln, gs, on, sp, tk⟩) H1.out (fun h => by first | exact H3.out h | exact H3.out trivial) c1 c2 c3)
       go_wp2_with (go_at_call 68; refine (isCount_any _ _).mono ?_; rintro e w5 ⟨rfl, rfl⟩; first | rw [c1] | rw [c2] | rw [c3])
       go_region_held3 (fun w' => NS w.heap.size A ⟨false, ln, gs, on, sp, tk⟩ w w') (first | (exact HT.out.drew) | assumption | (exact NS.keep (by assumption) (by assumption)))
        (first
         | (go_at_call 69; refine (tellingsHeld_any A ⟨false, ln, gs, on, sp, tk⟩ _ (NS.nin (by assumption)) (by omega) c2 c3).mono ?_; rintro e w6 ⟨rfl, hb6⟩))
       rename_i hU
       have hBU := hU.2.2.2.2.2.2.2.2
       go_wp2
       go_ret
       exact ⟨rbool (by rw [hr.out, Bool.eq_iff_iff]; simp), hBU⟩
  ·by_cases h3 : (0 : Int) < (A.n : Int)
   ·have hr := hidOf (okN_perm' (x := ⟨true, ln, gs, on, sp, tk⟩) rfl (by rw [HL1.out]; omega))
    go_wp2_with fail
    first | (go_region_held3 (fun w' => NS w.heap.size A ⟨true, ln, gs, on, sp, tk⟩ w w') (first | (exact hS.drew) | assumption | (exact NS.keep (by assumption) (by assumption)))
     (first
      | (go_at_call 67; refine (whosOf_any A.a' A.n' A.c' gs _ (NS.grs (by assumption)) hn').mono ?_; rintro e w1 ⟨a1, c1, rfl, ho1, hb1⟩)
      | (go_at_call 66; refine (waitersOk_any A.a A.n A.c ln a1 A.n' c1 (whosL gs) _ (NS.ints (by assumption)) ho1.ints hn hn' hw.ln hw.gs).mono ?_; rintro e w2 ⟨rfl, hb2⟩; rw [h1]))) | fail
    rename_i hT
    obtain ⟨r0, r1, r2, r3, r4, r5, _, _, hB⟩ := id hT
    have HT := hidOf hT
    clear hT hb2 hb1 ho1
    go_wp2
    go_ret
    exact ⟨rbool hr.out.symm, hB⟩
   ·have H3 : Hid (true = true → ln.length = 0) := hidOf (fun _ => by rw [HL1.out]; omega)
    go_wp2_with fail
    first | (go_region_held3 (fun w' => NS w.heap.size A ⟨true, ln, gs, on, sp, tk⟩ w w') (first | (exact hS.drew) | assumption | (exact NS.keep (by assumption) (by assumption)))
     (first
      | (go_at_call 67; refine (whosOf_any A.a' A.n' A.c' gs _ (NS.grs (by assumption)) hn').mono ?_; rintro e w1 ⟨a1, c1, rfl, ho1, hb1⟩)
      | (go_at_call 66; refine (waitersOk_any A.a A.n A.c ln a1 A.n' c1 (whosL gs) _ (NS.ints (by assumption)) ho1.ints hn hn' hw.ln hw.gs).mono ?_; rintro e w2 ⟨rfl, hb2⟩; rw [h1]))) | fail
    rename_i hT
    obtain ⟨r0, r1, r2, r3, r4, r5, _, _, hB⟩ := id hT
    have HT := hidOf hT
    clear hT hb2 hb1 ho1
    cases c1 : cnt on
    ·have hr := hidOf (okN_cnt' (x := ⟨true, ln, gs, on, sp, tk⟩) (.inl c1))
     go_wp2_with (go_at_call 68; refine (isCount_any _ _).mono ?_; rintro e w5 ⟨rfl, rfl⟩; first | rw [c1] | skip)
     go_ret
     exact ⟨rbool hr.out.symm, hB⟩
    ·cases c2 : cnt sp
     ·have hr := hidOf (okN_cnt' (x := ⟨true, ln, gs, on, sp, tk⟩) (.inr (.inl c2)))
      go_wp2_with (go_at_call 68; refine (isCount_any _ _).mono ?_; rintro e w5 ⟨rfl, rfl⟩; first | rw [c1] | rw [c2])
      go_ret
      exact ⟨rbool hr.out.symm, hB⟩
     ·cases c3 : cnt tk
      ·have hr := hidOf (okN_cnt' (x := ⟨true, ln, gs, on, sp, tk⟩) (.inr (.inr c3)))
       go_wp2_with (go_at_call 68; refine (isCount_any _ _).mono ?_; rintro e w5 ⟨rfl, rfl⟩; first | rw [c1] | rw [c2] | rw [c3])
       go_ret
       exact ⟨rbool hr.out.symm, hB⟩
      ·have hr := hidOf (okN_end' (x := ⟨true, ln, gs, on, sp, tk⟩) H1.out (fun h => by first | exact H3.out h | exact H3.out trivial) c1 c2 c3)
       go_wp2_with (go_at_call 68; refine (isCount_any _ _).mono ?_; rintro e w5 ⟨rfl, rfl⟩; first | rw [c1] | rw [c2] | rw [c3])
       go_region_held3 (fun w' => NS w.heap.size A ⟨true, ln, gs, on, sp, tk⟩ w w') (first | (exact HT.out.drew) | assumption | (exact NS.keep (by assumption) (by assumption)))
        (first
         | (go_at_call 69; refine (tellingsHeld_any A ⟨true, ln, gs, on, sp, tk⟩ _ (NS.nin (by assumption)) (by omega) c2 c3).mono ?_; rintro e w6 ⟨rfl, hb6⟩))
       rename_i hU
       have hBU := hU.2.2.2.2.2.2.2.2
       go_wp2
       go_ret
       exact ⟨rbool (by rw [hr.out, Bool.eq_iff_iff]; simp), hBU⟩
end Go.Proofs.Ytfgknbflgmblmaa
