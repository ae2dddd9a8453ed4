/-
  Walks of the program's lists: a copy, and who is woken.
-/
import Derived.Test.YtfgknbflgmblmaaQ4
import Derived.Test.YtfgknbflgmblmaaCP
import Derived.Deep.Upon
namespace Go.Proofs.Ytfgknbflgmblmaa
open Go.RowKit Go.Maps Pl Il

theorem Il.OwnAt.grown {B : Nat} {w w' : World} {a : Option Addr} {n mb : Nat} {xs : List Int} (h : Il.OwnAt B w a n xs) (hg : w.grownBy w' (some mb)) (hm : mb < B) : Il.OwnAt B w' a n xs := by
  have key : ∀ b, b < w.heap.size → B ≤ b → w'.heap[b]? = w.heap[b]? := fun b hb hB => hg.block b hb (by intro e; cases e; omega)
  obtain ⟨⟨hl, hr⟩, ho⟩ := h
  rcases hr with h0 | ⟨b, off, rfl, hlt, hc⟩
  · exact ⟨⟨hl, .inl h0⟩, .inl h0⟩
  · rcases ho with h0 | ⟨b', off', e, hB, hf⟩
    · exact ⟨⟨hl, .inl h0⟩, .inl h0⟩
    · cases e
      refine ⟨⟨hl, .inr ⟨b, off, rfl, Nat.lt_of_lt_of_le hlt hg.size, fun i hi => ?_⟩⟩, .inr ⟨b, off, rfl, hB, fun i hi => ?_⟩⟩
      · rw [← hc i hi]; exact World.cell?_of_block (key b hlt hB)
      · rw [← hf i hi]; exact World.frozen?_of_block (key b hlt hB)
theorem Il.OwnAt.take {B : Nat} {w : World} {a : Option Addr} {n : Nat} {xs : List Int} (h : Il.OwnAt B w a n xs) (i : Nat) (hi : i ≤ n) : Il.OwnAt B w a i (xs.take i) := by
  refine ⟨h.ints.take i hi, ?_⟩
  rcases h.own with h0 | ⟨b, off, rfl, hB, hf⟩
  · exact .inl (by omega)
  · exact .inr ⟨b, off, rfl, hB, fun j hj => hf j (by omega)⟩

theorem QParts.mlt {B : Nat} {w : World} {qb mb : Nat} {cv : Value} {D : DataW Unit} {xs gone : List Int} (h : QParts B w qb mb cv D xs gone) : mb < w.heap.size := h.mem.map.lt

theorem grown_trans {w w1 w2 : World} {b : Nat} (h : w.grownBy w1 (some b)) (k : w1.grownBy w2 (some b)) : w.grownBy w2 (some b) :=
  ⟨k.os.trans h.os, k.tape.trans h.tape, k.output.trans h.output, Nat.le_trans h.size k.size, fun i hi hn => (k.block i (Nat.lt_of_lt_of_le hi h.size) hn).trans (h.block i hi hn)⟩

/-- The first of the line leave, and are told. -/
theorem wake_any (B qb : Nat) (xs : List Int) (m : Nat) (w : World) (hQ : QAt B w qb xs []) (hw : wfL xs) (hd : xs.Nodup) (hn : xs.length ≤ 32) (hm : m ≤ xs.length) (k : Int) (hk : k = (m : Int) ∨ m = xs.length ∧ (m : Int) ≤ k) :
    Calls Try.prog 91 #[.pointer (some ⟨qb, 0, none⟩), .int .i64 k] w fun e w' => ∃ a c, e = .returned (.slice a m c) ∧ Il.OwnAt w.heap.size w' a m (xs.take m) ∧ QAt B w' qb xs (xs.take m) ∧ Below B w w' := by
  have hBs : B ≤ w.heap.size := by obtain ⟨_, _, _, h⟩ := hQ; exact h.mem.size
  have hst := stand_full hd
  have hS := standing_any B qb xs [] w hQ hw (by omega)
  rw [hst] at hS
  obtain ⟨mb, cv, D, hq⟩ := hQ
  have hmb := hq.mlt
  have hge := hq.mem.ge'
  have HS := hidOf hS
  have HQ := hidOf hq
  clear hS hq hst
  go_enter Try.func91, Try.ntmps91
  go_wp2_with fail
  refine HS.out.mono ?_
  rintro e w1 ⟨v, rfl, ho, hb1⟩
  have HP := hidOf (show QParts B w1 qb mb cv D xs [] from ⟨HQ.out.mem.keep hb1, HQ.out.rd⟩)
  clear HS HQ
  by_cases hlt : m < xs.length
  · obtain rfl : k = (m : Int) := by omega
    obtain ⟨g, cap, rfl, _⟩ := ho.form (by omega)
    have hcap := (owns_parts ho).2.2.2.1
    have hO := Il.OwnAt.take (owns_parts ho).2.2.2.2.2 m (by omega)
    have HO := hidOf hO
    have i1 : (m : Int) < (xs.length : Int) := by omega
    have i2 : (0 : Int) ≤ (m : Int) := by omega
    have i3 : (m : Int) ≤ (cap : Int) := by omega
    clear hO ho hk
    go_wp2
    go_loopw [19] (fun i wr => ∃ (j : Nat) (D' : DataW Unit), j ≤ m ∧ i = .int .i64 j ∧ QParts B wr qb mb cv D' xs ((xs.take m).take j) ∧ w1.grownBy wr (some mb)) (fun i _ => m - (intOf i).toNat)
    case atStart => exact ⟨0, D, Nat.zero_le _, rfl, by rw [List.take_zero]; exact HP.out, ⟨rfl, rfl, rfl, Nat.le_refl _, fun _ _ _ => rfl⟩⟩
    case round =>
      obtain ⟨j, D', hj, rfl, hp, hg⟩ := hrel
      have hO2 := Il.OwnAt.grown HO.out hg hmb
      by_cases hlt : j < m
      · obtain ⟨_, h0 | ⟨b', off', e', hb', hcell⟩⟩ := id hO2.ints
        · omega
        · cases e'
          have hc := hcell j hlt
          rw [Nat.zero_add] at hc
          have hwj := wf_at (wf_take hw m) (k := j) (by rw [List.length_take]; omega)
          have hcall := leave_parts B qb mb cv D' xs _ ((xs.take m).getD j 0) _ hp hwj
          have hst' : (xs.take m).take j ++ [(xs.take m).getD j 0] = (xs.take m).take (j + 1) := by
            have hl : j < (xs.take m).length := by rw [List.length_take]; omega
            rw [List.take_succ_eq_append_getElem hl]
            simp only [List.getD, List.getElem?_eq_getElem hl, Option.getD_some]
          rw [hst'] at hcall
          generalize (xs.take m).getD j 0 = y at hc hcall
          have HC := hidOf hcall
          have Hg := hidOf hg
          have hjm : (j : Int) < (m : Int) := by omega
          clear hcell hcall hp hO2 hg hst'
          go_wp2_with fail
          refine (HC.out).mono ?_
          rintro e w2 ⟨rfl, hp1, hg1⟩
          go_wp2
          go_roundw
          case rel => exact ⟨j + 1, _, by omega, by go_num, hp1, grown_trans Hg.out hg1⟩
          case measure => simp [intOf]; omega
      · obtain rfl : j = m := by omega
        rw [List.take_take, Nat.min_self] at hp
        have Hp := hidOf hp
        have HO2 := hidOf hO2
        have Hb := (hb1.mono hBs).grown (row := some mb) hg (Nat.le_trans hBs hb1.size) (fun k hk => by cases hk; exact hge)
        clear hp hO2
        go_wp2
        go_ret
        exact ⟨_, _, rfl, HO2.out, ⟨_, _, _, Hp.out⟩, Hb⟩
  · have hmx : m = xs.length := by omega
    have hk' : ¬ k < (m : Int) := by omega
    have htk : xs.take m = xs := by rw [hmx]; exact List.take_length
    rw [← hmx] at ho
    rcases Nat.eq_zero_or_pos m with h0 | hpos
    · obtain ⟨a, c, rfl, hO⟩ := own_of ho xs rfl
      have HO := hidOf (show Il.OwnAt w.heap.size w1 a m (xs.take m) by rw [htk]; exact hO)
      have HP2 := hidOf (show QParts B w1 qb mb cv D xs (xs.take m) by rw [h0, List.take_zero]; exact HP.out)
      have Hb : Below B w w1 := hb1.mono hBs
      have hm0 : ¬ (0 : Int) < (m : Int) := by omega
      clear hO ho hk htk hmx
      go_wp2
      go_loop [19] (fun i => i = .int .i64 0) (fun _ => 0)
      case atStart => rfl
      case round =>
        subst hrel
        go_wp2
        go_ret
        exact ⟨_, ⟨_, rfl⟩, ⟨⟨rfl, .inl rfl⟩, .inl rfl⟩, ⟨_, _, _, HP.out⟩, Hb⟩
    · obtain ⟨g, cap, rfl, _⟩ := ho.form hpos
      have hO := Il.OwnAt.take (owns_parts ho).2.2.2.2.2 m (Nat.le_refl _)
      have HO := hidOf hO
      have Hm := hidOf hmx
      clear hO ho hk htk hmx
      go_wp2
      go_loopw [19] (fun i wr => ∃ (j : Nat) (D' : DataW Unit), j ≤ m ∧ i = .int .i64 j ∧ QParts B wr qb mb cv D' xs ((xs.take m).take j) ∧ w1.grownBy wr (some mb)) (fun i _ => m - (intOf i).toNat)
      case atStart => exact ⟨0, D, Nat.zero_le _, rfl, by rw [List.take_zero]; exact HP.out, ⟨rfl, rfl, rfl, Nat.le_refl _, fun _ _ _ => rfl⟩⟩
      case round =>
        obtain ⟨j, D', hj, rfl, hp, hg⟩ := hrel
        have hO2 := Il.OwnAt.grown HO.out hg hmb
        by_cases hlt : j < m
        · obtain ⟨_, h0 | ⟨b', off', e', hb', hcell⟩⟩ := id hO2.ints
          · omega
          · cases e'
            have hc := hcell j hlt
            rw [Nat.zero_add] at hc
            have hwj := wf_at (wf_take hw m) (k := j) (by rw [List.length_take]; omega)
            have hcall := leave_parts B qb mb cv D' xs _ ((xs.take m).getD j 0) _ hp hwj
            have hst' : (xs.take m).take j ++ [(xs.take m).getD j 0] = (xs.take m).take (j + 1) := by
              have hl : j < (xs.take m).length := by rw [List.length_take]; omega
              rw [List.take_succ_eq_append_getElem hl]
              simp only [List.getD, List.getElem?_eq_getElem hl, Option.getD_some]
            rw [hst'] at hcall
            generalize (xs.take m).getD j 0 = y at hc hcall
            have HC := hidOf hcall
            have Hg := hidOf hg
            have hjm : (j : Int) < (m : Int) := by omega
            clear hcell hcall hp hO2 hg hst'
            go_wp2_with fail
            refine (HC.out).mono ?_
            rintro e w2 ⟨rfl, hp1, hg1⟩
            go_wp2
            go_roundw
            case rel => exact ⟨j + 1, _, by omega, by go_num, hp1, grown_trans Hg.out hg1⟩
            case measure => simp [intOf]; omega
        · obtain rfl : j = m := by omega
          rw [List.take_take, Nat.min_self] at hp
          have Hp := hidOf hp
          have HO2 := hidOf hO2
          have Hb := (hb1.mono hBs).grown (row := some mb) hg (Nat.le_trans hBs hb1.size) (fun k hk => by cases hk; exact hge)
          clear hp hO2
          go_wp2
          go_ret
          exact ⟨_, _, rfl, HO2.out, ⟨_, _, _, Hp.out⟩, Hb⟩
end Go.Proofs.Ytfgknbflgmblmaa
