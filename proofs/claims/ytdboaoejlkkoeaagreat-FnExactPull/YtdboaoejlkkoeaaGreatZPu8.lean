/-
  Walks of the laws' own helpers on subscribers: marked, and held
-/
import Derived.Test.YtdboaoejlkkoeaaGreatZPu7
namespace Go.Proofs.YtdboaoejlkkoeaaGreat
open Go.RowKit Pl Il
theorem far_of {xs : List Sa} (h : xs.Pairwise fun x y => Far x.a x.n y.a y.n) {i j : Nat} (hi : i < xs.length) (hj : j < xs.length) (hne : i ≠ j) : Far (sg xs i).a (sg xs i).n (sg xs j).a (sg xs j).n := by
  rw [List.pairwise_iff_getElem] at h
  rw [sg_eq hi, sg_eq hj]
  rcases Nat.lt_or_ge i j with k | k
  · exact h i j hi hj k
  · exact (h j i hj hi (by omega)).symm
abbrev six (K : Nat) : List Value := [.int .i64 (K : Int), .int .i64 ((K + 1 : Nat) : Int), .int .i64 ((K + 2 : Nat) : Int), .int .i64 ((K + 3 : Nat) : Int), .int .i64 ((K + 4 : Nat) : Int), .int .i64 ((K + 5 : Nat) : Int)]
theorem OwnS.mark {B : Nat} {wr u : World} {b off n k m : Nat} {xs : List Sa} (h : OwnS B wr (some ⟨b, off, none⟩) n (mkTo k m xs)) (hm : m < n) (hb : b < wr.heap.size)
  (hF : OwnF B u (sg xs m).a (sg xs m).n (marksF (k + cntS (xs.take m) + 6) (sg xs m).n)) (hT : TurnF (sg xs m).a (sg xs m).n (setL wr b (off + m * 7) (six (k + cntS (xs.take m)))) u) :
  OwnS B u (some ⟨b, off, none⟩) n (mkTo k (m + 1) xs) ∧ TurnL ((some ⟨b, off, none⟩, n) :: xs.map fun x => (x.a, x.n)) wr u := by
 have hl : xs.length = n := by have := h.sub.len; rwa [mkTo_len] at this
 obtain ⟨X, hX⟩ : ∃ X, X = setL wr b (off + m * 7) (six (k + cntS (xs.take m))) := ⟨_, rfl⟩
 rw [← hX] at hT
 have t1 : TurnL [(some ⟨b, off, none⟩, n)] wr X := by
  rw [hX]
  exact TurnL.ofGrown (by omega) rfl (setL_grown ⟨rfl, rfl, rfl, Nat.le_refl _, fun _ _ _ => rfl⟩)
 have t2 := TurnL.ofF hT
 have hmx : m < xs.length := by omega
 have farA : ∀ i, i < n → Far (some ⟨b, off, none⟩) n (sg xs i).a (sg xs i).n := fun i hi => by
  have := h.apa (sg (mkTo k m xs) i) (sg_mem (by rw [mkTo_len]; omega))
  have e := mkTo_same (k := k) (m := m) (show i < xs.length by omega)
  rwa [e.1, e.2] at this
 have farF : ∀ i, i < n → i ≠ m → Far (sg xs m).a (sg xs m).n (sg xs i).a (sg xs i).n := fun i hi hne => by
  have := far_of h.apt (i := m) (j := i) (by rw [mkTo_len]; omega) (by rw [mkTo_len]; omega) (fun e => hne e.symm)
  have e := mkTo_same (k := k) (m := m) (show i < xs.length by omega)
  have e' := mkTo_same (k := k) (m := m) hmx
  rwa [e.1, e.2, e'.1, e'.2] at this
 have fil : ∀ i, i < n → OwnF B u (sg (mkTo k (m + 1) xs) i).a (sg (mkTo k (m + 1) xs) i).n (sg (mkTo k (m + 1) xs) i).s.fl := fun i hi => by
  have hix : i < xs.length := by omega
  by_cases e : i = m
  ·subst e
   rw [mkTo_get hix, if_pos (by omega)]
   exact hF
  ·have e1 : sg (mkTo k (m + 1) xs) i = sg (mkTo k m xs) i := by
    rw [mkTo_get hix, mkTo_get hix]
    by_cases h1 : i < m
    ·rw [if_pos (by omega), if_pos h1]
    ·rw [if_neg (by omega), if_neg h1]
   rw [e1]
   have e2 := mkTo_same (k := k) (m := m) hix
   refine ((h.fow _ (sg_mem (by rw [mkTo_len]; exact hix))).turn t1 (fun p hp => ?_)).turn t2 (fun p hp => ?_)
   ·rw [List.mem_singleton.1 hp, e2.1, e2.2]
    exact farA i hi
   ·rw [List.mem_singleton.1 hp, e2.1, e2.2]
    exact farF i hi e
 obtain ⟨hB, hfr⟩ : B ≤ b ∧ ∀ o, wr.frozen? ⟨b, o, none⟩ = false := by
  rcases h.own with h0 | ⟨b', off', e, hB, hf⟩
  ·omega
  ·cases e; exact ⟨hB, hf⟩
 have hbX : b < X.heap.size := Nat.lt_of_lt_of_le hb t1.size
 have keyB : u.heap[b]? = X.heap[b]? := t2.keepB (off := off) hbX (show 0 < n by omega) (fun p hp => by rw [List.mem_singleton.1 hp]; exact (farA m hm).symm)
 have cells : ∀ i, i < n → SCell u b (off + i * 7) (sg (mkTo k (m + 1) xs) i) := fun i hi => by
  have hix : i < xs.length := by omega
  rcases h.sub.row with h0 | ⟨b', off', e, _, hc⟩
  ·omega
  cases e
  have hci := hc i hi
  refine SCell.same (w := X) ?_ (fun j _ => World.cell?_of_block keyB)
  by_cases e : i = m
  ·subst e
   have hs := setL_same (g := b) (vs := six (k + cntS (xs.take i))) (w := wr) (o := off + i * 7) (fun j hj => by
    have hj6 : j < 6 := by simpa using hj
    rcases (show j = 0 ∨ j = 1 ∨ j = 2 ∨ j = 3 ∨ j = 4 ∨ j = 5 by omega) with rfl | rfl | rfl | rfl | rfl | rfl
    ·exact ⟨_, hci.c0⟩
    ·exact ⟨_, hci.c1⟩
    ·exact ⟨_, hci.c2⟩
    ·exact ⟨_, hci.c3⟩
    ·exact ⟨_, hci.c4⟩
    ·exact ⟨_, hci.c5⟩)
   rw [mkTo_get hix, if_pos (by omega), hX]
   refine ⟨hs 0 (by simp), hs 1 (by simp), hs 2 (by simp), hs 3 (by simp), hs 4 (by simp), hs 5 (by simp), ?_⟩
   rw [setL_other (by right; simp)]
   have h6 := hci.c6
   rw [mkTo_get hix, if_neg (by omega)] at h6
   exact h6
  ·have e1 : sg (mkTo k (m + 1) xs) i = sg (mkTo k m xs) i := by
    rw [mkTo_get hix, mkTo_get hix]
    by_cases h1 : i < m
    ·rw [if_pos (by omega), if_pos h1]
    ·rw [if_neg (by omega), if_neg h1]
   rw [e1, hX]
   refine hci.same fun j hj => setL_other ?_
   simp only [List.length_cons, List.length_nil]
   omega
 have mem : ∀ y, y ∈ mkTo k (m + 1) xs → ∃ i, i < n ∧ y = sg (mkTo k (m + 1) xs) i := fun y hy => by
  obtain ⟨i, hi, _, _, e⟩ := mkTo_mem hy
  exact ⟨i, by omega, e⟩
 refine ⟨⟨⟨by rw [mkTo_len]; exact hl, fun y hy => ?_, .inr ⟨b, off, rfl, Nat.lt_of_lt_of_le hbX t2.size, cells⟩⟩, .inr ⟨b, off, rfl, hB, fun o => ?_⟩, fun y hy => ?_, ?_, fun y hy => ?_⟩, ?_⟩
 ·obtain ⟨i, hi, rfl⟩ := mem y hy
  exact (fil i hi).tm
 ·rw [World.frozen?_of_block (w := X) (a := ⟨b, o, none⟩) keyB, hX, setL_fr]
  exact hfr o
 ·obtain ⟨i, hi, rfl⟩ := mem y hy
  exact fil i hi
 ·rw [List.pairwise_iff_getElem]
  intro i j hi hj hij
  rw [mkTo_len] at hi hj
  rw [← sg_eq (by rw [mkTo_len]; exact hi), ← sg_eq (by rw [mkTo_len]; exact hj)]
  have e := mkTo_same (k := k) (m := m + 1) hi
  have e' := mkTo_same (k := k) (m := m + 1) hj
  have := far_of h.apt (i := i) (j := j) (by rw [mkTo_len]; omega) (by rw [mkTo_len]; omega) (by omega)
  have f := mkTo_same (k := k) (m := m) hi
  have f' := mkTo_same (k := k) (m := m) hj
  rw [f.1, f.2, f'.1, f'.2] at this
  rw [e.1, e.2, e'.1, e'.2]
  exact this
 ·obtain ⟨i, hi, rfl⟩ := mem y hy
  have e := mkTo_same (k := k) (m := m + 1) (show i < xs.length by omega)
  rw [e.1, e.2]
  exact farA i hi
 ·refine (t1.mono fun p hp => ?_).trans (t2.mono fun p hp => ?_)
  ·rw [List.mem_singleton.1 hp]; simp
  ·rw [List.mem_singleton.1 hp]
   exact List.mem_cons_of_mem _ (List.mem_map.2 ⟨sg xs m, sg_mem hmx, rfl⟩)
set_option maxRecDepth 100000 in
set_option maxHeartbeats 4000000 in
theorem markSubS_any (B : Nat) (a : Option Addr) (n cap : Nat) (xs : List Sa) (k : Nat) (w : World) (hO : OwnS B w a n xs) (hn : n ≤ 2097152) (hf : ∀ x, x ∈ xs → x.n ≤ 2097152) (k0 : 0 < k) (k1 : k ≤ 3900000000000000000) :
  Calls Tryz.prog 122 #[.slice a n cap, .int .i64 (k : Int)] w fun e w' => e = .returned (.int .i64 ((k + cntS xs : Nat) : Int)) ∧ OwnS B w' a n (mkSs k xs) ∧ TurnL ((a, n) :: xs.map fun x => (x.a, x.n)) w w' := by
 have hl := hO.sub.len
 have HL := hidOf hl
 have HF := hidOf hf
 have HCt := hidOf (fun i => cntS_le (xs := xs) (K := 2097152) hf i)
 rcases Nat.eq_zero_or_pos n with h0 | hpos
 ·subst h0
  have hx : xs = [] := List.length_eq_zero_iff.1 hl
  subst hx
  have HO := hidOf hO
  clear hO hl
  go_enter Tryz.func122, Tryz.ntmps122
  go_wp2
  go_loop [1, 5] (fun x i => x = .int .i64 (k : Int) ∧ i = .int .i64 0) (fun _ _ => 0)
  case atStart => exact ⟨rfl, rfl⟩
  case round =>
   obtain ⟨rfl, rfl⟩ := hrel
   go_wp2
   go_ret
   exact ⟨rint (by simp [cntS]), HO.out, TurnL.refl _ _⟩
 obtain hr | ⟨b, off, rfl, hb, hcell⟩ := hO.sub.row
 ·omega
 have HS := hidOf (show OwnS B w (some ⟨b, off, none⟩) n (mkTo k 0 xs) by rw [mkTo_zero]; exact hO)
 clear hO hcell hb hl hf
 go_enter Tryz.func122, Tryz.ntmps122
 go_wp2_with fail
 go_loopw [1, 5] (fun x i wr => ∃ m : Nat, m ≤ n ∧ i = .int .i64 m ∧ x = .int .i64 ((k + cntS (xs.take m) : Nat) : Int) ∧ OwnS B wr (some ⟨b, off, none⟩) n (mkTo k m xs) ∧ TurnL ((some ⟨b, off, none⟩, n) :: xs.map fun x => (x.a, x.n)) w wr) (fun _ i _ => n - (intOf i).toNat)
 case atStart => exact ⟨0, Nat.zero_le _, rfl, by simp [cntS], HS.out, TurnL.refl _ _⟩
 case round =>
  rename World => wr
  obtain ⟨m, hm, rfl, rfl, hM, hT⟩ := hrel
  clear HS
  have HT := hidOf hT
  by_cases hlt : m < n
  ·have hmx : m < xs.length := by rw [HL.out]; exact hlt
   have hc := HCt.out m
   have hxn := HF.out _ (sg_mem hmx)
   have HNx := hidOf (cntS_next hmx)
   obtain hr | ⟨b', off', e, hb, hcell⟩ := hM.sub.row
   ·omega
   cases e
   obtain ⟨c0, c1, c2, c3, c4, c5, c6⟩ := hcell m hlt
   have hfr : ∀ o, wr.frozen? ⟨b, o, none⟩ = false := by
    rcases hM.own with h0 | ⟨b', off', e, _, hf⟩
    ·omega
    ·cases e; exact hf
   have e0 := mkTo_get (k := k) (m := m) hmx
   rw [if_neg (by omega)] at e0
   rw [e0] at c0 c1 c2 c3 c4 c5 c6
   have HSt := hidOf (fun (u : World) => OwnS.mark (u := u) hM hlt hb)
   have hFl : OwnF B (setL wr b (off + m * 7) (six (k + cntS (xs.take m)))) (sg xs m).a (sg xs m).n (sg xs m).s.fl := by
    have := hM.fow _ (sg_mem (show m < (mkTo k m xs).length by rw [mkTo_len]; exact hmx))
    have ha := hM.apa _ (sg_mem (show m < (mkTo k m xs).length by rw [mkTo_len]; exact hmx))
    rw [e0] at this ha
    exact this.turn (TurnL.ofGrown (a := some ⟨b, off, none⟩) (n := n) hpos rfl (setL_grown ⟨rfl, rfl, rfl, Nat.le_refl _, fun _ _ _ => rfl⟩)) (fun p hp => by rw [List.mem_singleton.1 hp]; exact ha)
   obtain ⟨K, hK⟩ : ∃ K, k + cntS (xs.take m) = K := ⟨_, rfl⟩
   rw [hK] at HSt hFl ⊢
   have hK0 : 0 < K ∧ K ≤ 3950000000000000000 := by omega
   have HKn := hidOf (show k + cntS (xs.take (m + 1)) = K + 6 + 3 * (sg xs m).n by rw [HNx.out, ← hK]; omega)
   obtain ⟨x, hx⟩ : ∃ x, sg xs m = x := ⟨_, rfl⟩
   rw [hx] at c0 c1 c2 c3 c4 c5 c6 HSt hFl hxn HKn
   obtain ⟨X, hX⟩ : ∃ X, X = setL wr b (off + m * 7) (six K) := ⟨_, rfl⟩
   rw [← hX] at HSt hFl
   have HC := hidOf (markTermS_any B x.a x.n x.c x.s.fl (K + 6) X hFl hxn (by omega) (by omega))
   rw [show ((K + 6 : Nat) : Int) = (K : Int) + 1 + 1 + 1 + 1 + 1 + 1 by omega] at HC
   have hX6 : X.cell? ⟨b, off + m * 7 + 6, none⟩ = some (.slice x.a x.n x.c) := by
    rw [hX, setL_other (by right; simp)]
    exact c6
   have hX' : (((((wr.setCell ⟨b, off + m * 7, none⟩ (.int .i64 (K : Int))).setCell ⟨b, off + m * 7 + 1, none⟩ (.int .i64 ((K : Int) + 1))).setCell ⟨b, off + m * 7 + 2, none⟩ (.int .i64 ((K : Int) + 1 + 1))).setCell ⟨b, off + m * 7 + 3, none⟩ (.int .i64 ((K : Int) + 1 + 1 + 1))).setCell ⟨b, off + m * 7 + 4, none⟩ (.int .i64 ((K : Int) + 1 + 1 + 1 + 1))).setCell ⟨b, off + m * 7 + 5, none⟩ (.int .i64 ((K : Int) + 1 + 1 + 1 + 1 + 1)) = X := by
    rw [hX]
    rfl
   clear hM hT hcell e0 hmx hc hK hx hX hFl HNx
   go_wp2_with fail
   refine (HC.out).mono ?_
   rintro e u ⟨rfl, hF, hTF⟩
   have HSt2 := hidOf (HSt.out u hF hTF)
   clear hF hTF HC HSt hX' hX6 c0 c1 c2 c3 c4 c5 c6 hfr
   go_wp2
   go_roundw
   case rel => exact ⟨m + 1, by omega, by go_num, by rw [HKn.out]; go_num, HSt2.out.1, HT.out.trans HSt2.out.2⟩
   case measure => simp [intOf]; omega
  ·have hmn : m = xs.length := by rw [HL.out]; omega
   have HM := hidOf (show OwnS B wr (some ⟨b, off, none⟩) n (mkSs k xs) by rw [← mkTo_all, ← hmn]; exact hM)
   have HE := hidOf (show k + cntS (xs.take m) = k + cntS xs by rw [hmn, List.take_length])
   clear hM hT hmn
   go_wp2
   go_ret
   exact ⟨rint (by have := HE.out; omega), HM.out, HT.out⟩
set_option maxRecDepth 100000 in
set_option maxHeartbeats 4000000 in
theorem heldSubS_marks (a : Option Addr) (n cap k : Nat) (xs : List Sa) (w : World) (hI : SubAt w a n (mkSs k xs)) (hn : n ≤ 2097152) (hf : ∀ x, x ∈ xs → x.n ≤ 2097152) (k0 : 0 < k) (k1 : k ≤ 3900000000000000000) :
  Calls Tryz.prog 124 #[.slice a n cap, .int .i64 (k : Int)] w fun e w' => e = .returned (.int .i64 ((k + cntS xs : Nat) : Int)) ∧ Below w.heap.size w w' := by
 have hl : xs.length = n := by have := hI.len; rwa [mkSs_len] at this
 have HL := hidOf hl
 have HF := hidOf hf
 have HI := hidOf hI
 have HCt := hidOf (fun i => cntS_le (xs := xs) (K := 2097152) hf i)
 clear hI hl hf
 go_enter Tryz.func124, Tryz.ntmps124
 go_wp2_with fail
 go_loopw [1, 5] (fun x i wr => ∃ m : Nat, m ≤ n ∧ i = .int .i64 m ∧ x = .int .i64 ((k + cntS (xs.take m) : Nat) : Int) ∧ Below w.heap.size w wr) (fun _ i _ => n - (intOf i).toNat)
 case atStart => exact ⟨0, Nat.zero_le _, rfl, by simp [cntS], Below.refl _ _⟩
 case round =>
  rename World => wr
  obtain ⟨m, hm, rfl, rfl, hB⟩ := hrel
  have HB := hidOf hB
  by_cases hlt : m < n
  ·have hmx : m < xs.length := by rw [HL.out]; exact hlt
   have hc := HCt.out m
   have hxn := HF.out _ (sg_mem hmx)
   have HNx := hidOf (cntS_next hmx)
   have hIr := HI.out.keep hB
   obtain hr | ⟨b, off, rfl, hb, hcell⟩ := hIr.row
   ·omega
   obtain ⟨c0, c1, c2, c3, c4, c5, c6⟩ := hcell m hlt
   have hfl := hIr.fil _ (sg_mem (show m < (mkSs k xs).length by rw [mkSs_len]; exact hmx))
   rw [mkSs_get hmx] at c0 c1 c2 c3 c4 c5 c6 hfl
   obtain ⟨K, hK⟩ : ∃ K, k + cntS (xs.take m) = K := ⟨_, rfl⟩
   rw [hK] at c0 c1 c2 c3 c4 c5 c6 hfl ⊢
   have hK0 : 0 < K ∧ K ≤ 3950000000000000000 := by omega
   have HKn := hidOf (show k + cntS (xs.take (m + 1)) = K + 6 + 3 * (sg xs m).n by rw [HNx.out, ← hK]; omega)
   obtain ⟨x, hx⟩ : ∃ x, sg xs m = x := ⟨_, rfl⟩
   rw [hx] at c0 c1 c2 c3 c4 c5 c6 hfl hxn HKn
   simp only [mkSa] at c0 c1 c2 c3 c4 c5 c6 hfl
   rw [show ((K + 1 : Nat) : Int) = (K : Int) + 1 by omega] at c1
   rw [show ((K + 2 : Nat) : Int) = (K : Int) + 1 + 1 by omega] at c2
   rw [show ((K + 3 : Nat) : Int) = (K : Int) + 1 + 1 + 1 by omega] at c3
   rw [show ((K + 4 : Nat) : Int) = (K : Int) + 1 + 1 + 1 + 1 by omega] at c4
   rw [show ((K + 5 : Nat) : Int) = (K : Int) + 1 + 1 + 1 + 1 + 1 by omega] at c5
   have HC := hidOf (heldTermS_marks x.a x.n x.c (K + 6) wr hfl hxn (by omega) (by omega))
   rw [show ((K + 6 : Nat) : Int) = (K : Int) + 1 + 1 + 1 + 1 + 1 + 1 by omega] at HC
   have n0 : ∀ z : Int, (z != z) = false := fun z => by simp
   have hneg : ¬ ((K + 6 + 3 * x.n : Nat) : Int) < 0 := by omega
   clear hB hcell hmx hc hK hx hfl HNx hIr hb
   go_wp2_with fail
   refine (HC.out).mono ?_
   rintro e u ⟨rfl, hbu⟩
   have HBu := hidOf (bl_trans HB.out hbu)
   clear hbu HC HB c0 c1 c2 c3 c4 c5 c6
   go_wp2
   go_roundw
   case rel => exact ⟨m + 1, by omega, by go_num, by rw [HKn.out]; go_num, HBu.out⟩
   case measure => simp [intOf]; omega
  ·have HE := hidOf (show k + cntS (xs.take m) = k + cntS xs by rw [List.take_of_length_le (by have := HL.out; omega)])
   clear hB
   go_wp2
   go_ret
   exact ⟨rint (by have := HE.out; omega), HB.out⟩
end Go.Proofs.YtdboaoejlkkoeaaGreat
