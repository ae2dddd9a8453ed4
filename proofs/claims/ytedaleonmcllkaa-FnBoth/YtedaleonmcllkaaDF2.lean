/-
  Walks of the specification's draws: a filter.
-/
import Derived.Test.YtedaleonmcllkaaDF1
namespace Go.Proofs.Ytedaleonmcllkaa
open Go.RowKit Pl Il Dr

theorem Drawn.grown {c : Nat} {a : Option Addr} {len cap : Nat} {w u u' : World} {g : Nat} (h : Drawn c a len cap w u) (hC : Cur c a len cap w) (hg : u.grownBy u' (some g)) (hge : w.heap.size ≤ g) : Drawn c a len cap w u' := by
  have hlt := hC.lt
  have key : ∀ b, b < u.heap.size → b ≠ g → u'.heap[b]? = u.heap[b]? := fun b hb hn => hg.block b hb (by simpa using hn)
  have hcell : ∀ o, u'.cell? ⟨c, o, none⟩ = u.cell? ⟨c, o, none⟩ := fun o => World.cell?_of_block (key c h.cur.lt (by omega))
  have hfr : ∀ o, u'.frozen? ⟨c, o, none⟩ = u.frozen? ⟨c, o, none⟩ := fun o => World.frozen?_of_block (key c h.cur.lt (by omega))
  refine ⟨⟨Nat.lt_of_lt_of_le h.cur.lt hg.size, ?_, by rw [hcell]; exact h.cur.at0, by rw [hcell]; exact h.cur.at1, by rw [hcell]; exact h.cur.at2, by rw [hfr]; exact h.cur.fr1, by rw [hfr]; exact h.cur.fr2⟩, ?_⟩
  · obtain ⟨hl, hm, k | ⟨b, off, rfl, hb, hn, hc⟩⟩ := h.cur.bytes
    · exact ⟨hl, hm, .inl k⟩
    · obtain ⟨_, _, k | ⟨b', off', e, hb', _⟩⟩ := hC.bytes
      · exact ⟨hl, hm, .inl k⟩
      · cases e
        refine ⟨hl, hm, .inr ⟨b, off, rfl, Nat.lt_of_lt_of_le hb hg.size, hn, fun i hi => ?_⟩⟩
        have : u'.cell? ⟨b, off + i, none⟩ = u.cell? ⟨b, off + i, none⟩ := World.cell?_of_block (key b hb (by omega))
        rw [this]; exact hc i hi
  · refine ⟨hg.os.trans h.ex.os, hg.tape.trans h.ex.tape, hg.output.trans h.ex.output, Nat.le_trans h.ex.size hg.size, fun i hi hn => ?_⟩
    rw [key i (Nat.lt_of_lt_of_le hi h.ex.size) (by omega)]
    exact h.ex.block i hi hn
/-- A list of terms while it is drawn. -/
structure FV (w : World) (c : Nat) (a : Option Addr) (len cap : Nat) (v : Value) (m : Nat) (l : List Tm) (u : World) : Prop where
  D : Drawn c a len cap w u
  row : u.ownsRow w.heap.size 57 3 v m (qflat l)
  short : ∀ p, p ∈ l → p.2.2.size ≤ maxLen
theorem rowF_ex {B c : Nat} {u u' : World} {t : TypeId} {v : Value} {m : Nat} {xs : List Value} (h : u.ownsRow B t 3 v m xs) (hx : Ex c u u') (hc : c < B) : u'.ownsRow B t 3 v m xs := by
  refine h.kept (row := some c) hx ?_
  cases e : v.ownBlock with
  | none => exact .inl rfl
  | some q => exact .inr (fun e' => by cases e'; have := (h.lt _ e).1; omega)
theorem FV.draw {w : World} {c : Nat} {a : Option Addr} {len cap : Nat} {v : Value} {m : Nat} {l : List Tm} {u u' : World} (h : FV w c a len cap v m l u) (hd : Drawn c a len cap u u') (hc : c < w.heap.size) : FV w c a len cap v m l u' :=
  ⟨h.D.trans hd, rowF_ex h.row hd.ex hc, h.short⟩
theorem FV.alloc {w : World} {c : Nat} {a : Option Addr} {len cap : Nat} {v : Value} {m : Nat} {l : List Tm} {u : World} (h : FV w c a len cap v m l u) (o : Obj) : FV w c a len cap v m l (u.alloc o) :=
  ⟨h.D.alloc o, h.row.alloc o, h.short⟩
theorem FV.app {w : World} {c : Nat} {a : Option Addr} {len cap : Nat} {v : Value} {m : Nat} {l : List Tm} {u : World} (h : FV w c a len cap v m l u) (hC : Cur c a len cap w) (q : Nat) (news : List Tm) (cs : Array Value) (hI : TmAt (u.alloc (.cells cs 57)) (some ⟨u.heap.size, 0, none⟩) q news) (hs : m + q ≤ 4194304) :
    ∃ (a' : Option Addr) (c' : Nat) (w' : World), (Builtin.append_ #[24, 24] 24 #[v, .slice (some ⟨u.heap.size, 0, none⟩) q q]).run Try.prog (u.alloc (.cells cs 57)) = .ok (.slice a' (m + q) c') w' ∧ FV w c a len cap (.slice a' (m + q) c') (m + q) (l ++ news) w' := by
  have hA := h.alloc (.cells cs 57)
  obtain ⟨v', w', hr, ho, hg⟩ := append_tms w.heap.size v m l _ q q news _ hA.row hA.D.ex.size hI hs
  obtain ⟨a', c', rfl⟩ := slice_form ho
  refine ⟨a', c', w', hr, ⟨?_, ho, short_app h.short hI.short⟩⟩
  cases e : v.ownBlock with
  | some g =>
    rw [e] at hg
    exact hA.D.grown hC hg (h.row.lt g e).1
  | none =>
    rw [e] at hg
    have hb : Below (u.alloc (.cells cs 57)).heap.size (u.alloc (.cells cs 57)) w' := ⟨hg.os, hg.tape, hg.output, hg.size, fun k hk => hg.block k hk (by simp)⟩
    exact ⟨hA.D.cur.keep hb, hA.D.ex.trans (Ex.of hb)⟩
theorem new1 (u : World) (t : Tm) (ht : t.2.2.size ≤ maxLen) : TmAt (u.alloc (.cells #[.int .i64 t.1, .int .i64 t.2.1, .string t.2.2] 57)) (some ⟨u.heap.size, 0, none⟩) 1 [t] :=
  ⟨rfl, fun p hp => by simp only [List.mem_singleton] at hp; subst hp; exact ht, .inr ⟨u.heap.size, 0, rfl, by simp, fun i hi => by
    obtain rfl : i = 0 := by omega
    simp [qg]⟩⟩
theorem new2 (u : World) (t t' : Tm) (ht : t.2.2.size ≤ maxLen) (ht' : t'.2.2.size ≤ maxLen) : TmAt (u.alloc (.cells #[.int .i64 t.1, .int .i64 t.2.1, .string t.2.2, .int .i64 t'.1, .int .i64 t'.2.1, .string t'.2.2] 57)) (some ⟨u.heap.size, 0, none⟩) 2 [t, t'] :=
  ⟨rfl, fun p hp => by
    simp only [List.mem_cons, List.not_mem_nil, or_false] at hp
    rcases hp with rfl | rfl
    · exact ht
    · exact ht', .inr ⟨u.heap.size, 0, rfl, by simp, fun i hi => by
    have h : i = 0 ∨ i = 1 := by omega
    rcases h with rfl | rfl
    · simp [qg]
    · simp [qg]⟩⟩
theorem FV.form {w : World} {c : Nat} {a : Option Addr} {len cap : Nat} {v : Value} {m : Nat} {l : List Tm} {u : World} (h : FV w c a len cap v m l u) : ∃ a' c', v = .slice a' m c' := slice_form h.row
theorem small40 {s : ByteArray} (h : s.size ≤ 40) : s.size ≤ maxLen := by unfold maxLen; omega
/-- A drawn list of terms is answered. -/
def FilP (w : World) (c : Nat) (a : Option Addr) (len cap K : Nat) (e : Ending) (w' : World) : Prop := ∃ (a' : Option Addr) (m c' : Nat) (l : List Tm), e = .returned (.slice a' m c') ∧ m ≤ K ∧ FV w c a len cap (.slice a' m c') m l w'
set_option maxRecDepth 100000 in
set_option maxHeartbeats 8000000 in
theorem l8Filter_any (a : Option Addr) (len cap : Nat) (c : Nat) (w : World) (hC : Cur c a len cap w) :
    Calls Try.prog 44 #[.pointer (some ⟨c, 0, none⟩), .int .i64 6] w fun e w' => FilP w c a len cap 12 e w' := by
  have hlt := hC.lt
  have HC := hidOf hC
  have V0 : FV w c a len cap (.slice (some ⟨w.heap.size, 0, none⟩) 0 0) 0 [] (w.alloc (.cells #[] 57)) :=
    ⟨(Drawn.start hC).alloc _, World.ownsRow_made w #[] 0 (Nat.le_refl _) (by unfold maxLen; omega) (by simp), fun p hp => by cases hp⟩
  have HV0 := hidOf V0
  clear hC V0
  go_enter Try.func44, Try.ntmps44
  go_wp2_with fail
  refine (below_any a len cap c _ _ HV0.out.D.cur (by omega) (by omega)).mono ?_
  rintro e w1 ⟨n, rfl, n0, n1, hd1⟩
  have HV1 := hidOf (HV0.out.draw hd1 hlt)
  clear hd1 HV0
  go_wp2_with fail
  go_loopw [5, 7] (fun v i wr => ∃ (j m : Nat) (l : List Tm), (j : Int) ≤ n ∧ i = .int .i64 j ∧ m ≤ 2 * j ∧ FV w c a len cap v m l wr) (fun _ i _ => n.toNat - (intOf i).toNat)
  case atStart => exact ⟨0, 0, [], by omega, rfl, Nat.le_refl _, HV1.out⟩
  case round =>
    rename_i wr
    obtain ⟨j, m, l, hj, rfl, hmj, hV⟩ := hrel
    clear HV1
    obtain ⟨a1, c1, rfl⟩ := hV.form
    have HV := hidOf hV
    clear hV
    by_cases hlt' : (j : Int) < n
    · by_cases hj0 : j = 0
      · subst hj0
        go_wp2_with fail
        refine (l8Leaf_any a len cap c _ HV.out.D.cur).mono ?_
        rintro e w2 ⟨t, rfl, ht, hd2⟩
        have V2 := HV.out.draw hd2 hlt
        obtain ⟨a3, c3, w3, hr3, hV3⟩ := V2.app HC.out 1 [t] _ (new1 w2 t (small40 ht)) (by omega)
        have Hr := hidOf hr3
        have HV3 := hidOf hV3
        clear hd2 V2 hr3 hV3 HV
        go_wp2_with (at_builtin; refine wpList_append_run rfl _ _ 24 rfl _ _ _ rfl rfl Hr.out ?_)
        go_roundw
        case rel => exact ⟨0 + 1, m + 1, _, by omega, by go_num, by omega, HV3.out⟩
        case measure => simp [intOf]; omega
      · have e0 : ((j : Int) == 0) = false := by simp; omega
        go_wp2_with fail
        refine (below_any a len cap c _ _ HV.out.D.cur (by omega) (by omega)).mono ?_
        rintro e w2 ⟨x, rfl, x0, x1, hd2⟩
        have HV2 := hidOf (HV.out.draw hd2 hlt)
        clear hd2 HV
        by_cases hx0 : x = 0
        · subst hx0
          obtain ⟨a3, c3, w3, hr3, hV3⟩ := HV2.out.app HC.out 1 [(8, 0, ⟨#[]⟩)] _ (new1 w2 (8, 0, ⟨#[]⟩) (by exact Nat.zero_le _)) (by omega)
          have Hr := hidOf hr3
          have HV3 := hidOf hV3
          clear hr3 hV3 HV2
          go_wp2_with (at_builtin; refine wpList_append_run rfl _ _ 24 rfl _ _ _ rfl rfl Hr.out ?_)
          go_roundw
          case rel => exact ⟨j + 1, m + 1, _, by omega, by go_num, by omega, HV3.out⟩
          case measure => simp [intOf]; omega
        have ex0 : (x == 0) = false := by simp [hx0]
        by_cases hx1 : x = 1
        · subst hx1
          go_wp2_with fail
          refine (l8Leaf_any a len cap c _ HV2.out.D.cur).mono ?_
          rintro e w4 ⟨t, rfl, ht, hd4⟩
          have V4 := HV2.out.draw hd4 hlt
          obtain ⟨a3, c3, w3, hr3, hV3⟩ := V4.app HC.out 2 [t, (9, 0, ⟨#[]⟩)] _ (new2 w4 t (9, 0, ⟨#[]⟩) (small40 ht) (by exact Nat.zero_le _)) (by omega)
          have Hr := hidOf hr3
          have HV3 := hidOf hV3
          clear hd4 V4 hr3 hV3 HV2
          go_wp2_with (at_builtin; refine wpList_append_run rfl _ _ 24 rfl _ _ _ rfl rfl Hr.out ?_)
          go_roundw
          case rel => exact ⟨j + 1, m + 2, _, by omega, by go_num, by omega, HV3.out⟩
          case measure => simp [intOf]; omega
        · have ex1 : (x == 1) = false := by simp [hx1]
          go_wp2_with fail
          refine (l8Leaf_any a len cap c _ HV2.out.D.cur).mono ?_
          rintro e w4 ⟨t, rfl, ht, hd4⟩
          have V4 := HV2.out.draw hd4 hlt
          obtain ⟨a3, c3, w3, hr3, hV3⟩ := V4.app HC.out 2 [t, (10, 0, ⟨#[]⟩)] _ (new2 w4 t (10, 0, ⟨#[]⟩) (small40 ht) (by exact Nat.zero_le _)) (by omega)
          have Hr := hidOf hr3
          have HV3 := hidOf hV3
          clear hd4 V4 hr3 hV3 HV2
          go_wp2_with (at_builtin; refine wpList_append_run rfl _ _ 24 rfl _ _ _ rfl rfl Hr.out ?_)
          go_roundw
          case rel => exact ⟨j + 1, m + 2, _, by omega, by go_num, by omega, HV3.out⟩
          case measure => simp [intOf]; omega
    · have h12 : ¬ 12 < (m : Int) := by omega
      go_wp2
      go_ret
      exact ⟨a1, m, c1, l, rfl, by omega, HV.out⟩
def lenOf : Value → Nat
  | .slice _ n _ => n
  | _ => 0
set_option maxRecDepth 100000 in
set_option maxHeartbeats 8000000 in
theorem l8Some_any (a : Option Addr) (len cap : Nat) (c : Nat) (w : World) (hC : Cur c a len cap w) :
    Calls Try.prog 31 #[.pointer (some ⟨c, 0, none⟩)] w fun e w' => FilP w c a len cap 13 e w' := by
  have hlt := hC.lt
  have HC := hidOf hC
  clear hC
  go_enter Try.func31, Try.ntmps31
  go_wp2_with fail
  refine (l8Filter_any a len cap c _ HC.out).mono ?_
  rintro e w1 ⟨a1, m, c1, l, rfl, hm, hV1⟩
  have HV1 := hidOf hV1
  clear hV1
  go_wp2_with fail
  refine (once_any a len cap c _ _ HV1.out.D.cur (by omega) (by omega)).mono ?_
  rintro e w2 ⟨b, rfl, hd2⟩
  have HV2 := hidOf (HV1.out.draw hd2 hlt)
  clear hd2 HV1
  cases b
  · go_wp2
    go_ret
    exact ⟨a1, m, c1, l, rfl, by omega, HV2.out⟩
  go_wp2_with fail
  refine (below_any a len cap c _ _ HV2.out.D.cur (by omega) (by omega)).mono ?_
  rintro e w3 ⟨x, rfl, x0, x1, hd3⟩
  have HV3 := hidOf (HV2.out.draw hd3 hlt)
  clear hd3 HV2
  by_cases hx0 : x = 0
  · subst hx0
    go_wp2_with fail
    refine (below_any a len cap c _ _ HV3.out.D.cur (by omega) (by omega)).mono ?_
    rintro e w4 ⟨y, rfl, y0, y1, hd4⟩
    have V4 := HV3.out.draw hd4 hlt
    obtain ⟨a5, c5, w5, hr5, hV5⟩ := V4.app HC.out 1 [(y, 0, ⟨#[]⟩)] _ (new1 w4 (y, 0, ⟨#[]⟩) (by exact Nat.zero_le _)) (by omega)
    have Hr := hidOf hr5
    have HV5 := hidOf hV5
    clear hd4 V4 hr5 hV5 HV3
    go_wp2_with (at_builtin; refine wpList_append_run rfl _ _ 24 rfl _ _ _ rfl rfl Hr.out ?_)
    go_ret
    exact ⟨a5, m + 1, c5, _, rfl, by omega, HV5.out⟩
  have ex0 : (x == 0) = false := by simp [hx0]
  by_cases hx1 : x = 1
  · subst hx1
    go_wp2_with fail
    refine (below_any a len cap c _ _ HV3.out.D.cur (by omega) (by omega)).mono ?_
    rintro e w4 ⟨y, rfl, y0, y1, hd4⟩
    have V4 := HV3.out.draw hd4 hlt
    obtain ⟨a5, c5, w5, hr5, hV5⟩ := V4.app HC.out 1 [(5, y, ⟨#[]⟩)] _ (new1 w4 (5, y, ⟨#[]⟩) (by exact Nat.zero_le _)) (by omega)
    have Hr := hidOf hr5
    have HV5 := hidOf hV5
    clear hd4 V4 hr5 hV5 HV3
    go_wp2_with (at_builtin; refine wpList_append_run rfl _ _ 24 rfl _ _ _ rfl rfl Hr.out ?_)
    go_ret
    exact ⟨a5, m + 1, c5, _, rfl, by omega, HV5.out⟩
  have ex1 : (x == 1) = false := by simp [hx1]
  by_cases hx2 : x = 2
  · subst hx2
    go_wp2_with fail
    refine (pick_any a len cap c w3.heap.size 3 _ (HV3.out.D.cur.alloc _) (by simp) (by have := HV3.out.D.cur.lt; omega) (by omega) (by omega) (row_strs _ _ _ _ (by decide))).mono ?_
    rintro e w4 ⟨t, rfl, ht, hd4⟩
    have V4 := (HV3.out.alloc _).draw hd4 hlt
    obtain ⟨a5, c5, w5, hr5, hV5⟩ := V4.app HC.out 1 [(7, 0, t)] _ (new1 w4 (7, 0, t) (small40 ht)) (by omega)
    have Hr := hidOf hr5
    have HV5 := hidOf hV5
    clear hd4 V4 hr5 hV5 HV3
    go_wp2_with (at_builtin; refine wpList_append_run rfl _ _ 24 rfl _ _ _ rfl rfl Hr.out ?_)
    go_ret
    exact ⟨a5, m + 1, c5, _, rfl, by omega, HV5.out⟩
  have ex2 : (x == 2) = false := by simp [hx2]
  go_wp2_with fail
  go_loopw [3] (fun v wr => ∃ (q : Nat) (l' : List Tm), q ≤ 13 ∧ FV w c a len cap v q l' wr) (fun v _ => 14 - lenOf v)
  case atStart => exact ⟨m, l, by omega, HV3.out⟩
  case round =>
    rename_i wr
    obtain ⟨q, l', hq, hV⟩ := hrel
    clear HV3
    obtain ⟨a4, c4, rfl⟩ := hV.form
    have HV := hidOf hV
    clear hV
    by_cases hq0 : q = 0
    · subst hq0
      go_wp2
      go_ret
      exact ⟨a4, 0, c4, l', rfl, by omega, HV.out⟩
    have hqp : 0 < (q : Int) := by omega
    go_wp2_with fail
    refine (below_any a len cap c _ _ HV.out.D.cur (by omega) (by omega)).mono ?_
    rintro e w4 ⟨y, rfl, y0, y1, hd4⟩
    have HV4 := hidOf (HV.out.draw hd4 hlt)
    clear hd4 HV
    by_cases hqy : (q : Int) < 12 + y
    · obtain ⟨a5, c5, w5, hr5, hV5⟩ := HV4.out.app HC.out 1 [(8, 0, ⟨#[]⟩)] _ (new1 w4 (8, 0, ⟨#[]⟩) (by exact Nat.zero_le _)) (by omega)
      have Hr := hidOf hr5
      have HV5 := hidOf hV5
      clear hr5 hV5 HV4
      go_wp2_with (at_builtin; refine wpList_append_run rfl _ _ 24 rfl _ _ _ rfl rfl Hr.out ?_)
      go_roundw
      case rel => exact ⟨q + 1, _, by omega, HV5.out⟩
      case measure => simp [lenOf]; omega
    · go_wp2
      go_ret
      exact ⟨a4, q, c4, l', rfl, by omega, HV4.out⟩
end Go.Proofs.Ytedaleonmcllkaa
