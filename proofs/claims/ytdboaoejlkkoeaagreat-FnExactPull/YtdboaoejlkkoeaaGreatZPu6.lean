/-
  Walks of the laws' own helpers on terms: marks
-/
import Derived.Test.YtdboaoejlkkoeaaGreatZPu2
import Derived.Laws.BytesArg
namespace Go.Proofs.YtdboaoejlkkoeaaGreat
open Go.RowKit Pl Il
theorem mGo_succ {f k : Nat} {o : ByteArray} (h : 0 < k) : mGo (f + 1) k o = mGo f (k / 10) (digB k ++ o) := by
  rw [mGo, if_neg (by omega)]
theorem conv1F (w : World) (x : Int) : (convert 22 9 (.slice (some ⟨w.heap.size, 0, none⟩) 1 1)).run Tryz.prog (w.alloc (.cells #[.int .u8 x] 5)) = .ok (.string (strOfNums [x])) (w.alloc (.cells #[.int .u8 x] 5)) :=
  run_convert_bytes_arg _ 22 5 Tryz.underlying22 Tryz.underlying5 w.heap.size 0 1 1 [x] rfl (fun i hi => by
    obtain rfl : i = 0 := by omega
    simp) 9 Tryz.underlying9
theorem small_oneF (x : Int) : (strOfNums [x]).size = 1 := rfl
set_option maxRecDepth 20000 in
set_option maxHeartbeats 1000000 in
theorem markText_any (K : Nat) (w : World) (h0 : 0 < K) (h1 : K ≤ 4000000000000000000) :
    Calls Tryz.prog 131 #[.int .i64 (K : Int)] w fun e w' => e = .returned (.string (mkT K)) ∧ Below w.heap.size w w' := by
  have e0 : ¬ (K : Int) ≤ 0 := by omega
  go_enter Tryz.func131, Tryz.ntmps131
  go_wp2
  go_loopw [0, 3] (fun x o wr => ∃ (k f : Nat) (s : ByteArray), x = .int .i64 (k : Int) ∧ o = .string s ∧ k ≤ f ∧ mGo f k s = mGo K K ⟨#[]⟩ ∧ s.size + k ≤ K ∧ Below w.heap.size w wr) (fun x _ _ => (intOf x).toNat)
  case atStart => exact ⟨K, K, ⟨#[]⟩, rfl, rfl, Nat.le_refl _, rfl, by have : (ByteArray.mk #[]).size = 0 := rfl; omega, Below.refl _ _⟩
  case round =>
    rename_i wr
    obtain ⟨k, f, s, rfl, rfl, hkf, hm, hsk, hB⟩ := hrel
    by_cases hk : 0 < k
    · have hki : 0 < (k : Int) := by omega
      have cv := conv1F
      have s1 := small_oneF
      go_wp2
      refine ⟨⟨k / 10, f - 1, _, congrArg (Value.int .i64) (by omega), rfl, by omega, ?_, ?_, bl_alloc hB _⟩, by simp only [intOf]; omega⟩
      · rw [← hm]
        obtain ⟨g, rfl⟩ : ∃ g, f = g + 1 := ⟨f - 1, by omega⟩
        rw [mGo_succ hk]
        rfl
      · rw [ByteArray.size_append, small_oneF]
        omega
    · obtain rfl : k = 0 := by omega
      rw [mGo_zero] at hm
      subst hm
      go_wp2
      go_ret
      exact ⟨rfl, hB⟩
theorem MarkF.step' {w : World} {b off n k m : Nat} {wr X u : World} (h : MarkF w b off n k m wr) (hX : X = (wr.setCell ⟨b, off + m * 3, none⟩ (.int .i64 ((k + 3 * m : Nat) : Int))).setCell ⟨b, off + m * 3 + 1, none⟩ (.int .i64 ((k + 3 * m + 1 : Nat) : Int))) (hb : Below X.heap.size X u) :
  MarkF w b off n k (m + 1) (u.setCell ⟨b, off + m * 3 + 2, none⟩ (.string (mkT (k + 3 * m + 2)))) := by
 have hXs : X.heap.size = wr.heap.size := by rw [hX]; simp
 have hbX : b < X.heap.size := by rw [hXs]; exact h.lt
 have hXf : ∀ o, X.frozen? ⟨b, o, none⟩ = false := fun o => by rw [hX]; simpa using h.fr o
 have hXg : w.grownBy X (some b) := by
  obtain ⟨h1, h2, h3, h4, h5⟩ := h.ex
  refine ⟨by rw [hX]; exact h1, by rw [hX]; exact h2, by rw [hX]; exact h3, by rw [hXs]; exact h4, fun j hj hne => ?_⟩
  rw [hX, Below.heap_setCell _ _ _ _ (by rintro rfl; exact hne rfl), Below.heap_setCell _ _ _ _ (by rintro rfl; exact hne rfl)]
  exact h5 j hj hne
 have hXo : ∀ p, p ≠ off + m * 3 → p ≠ off + m * 3 + 1 → X.cell? ⟨b, p, none⟩ = wr.cell? ⟨b, p, none⟩ := fun p h1 h2 => by
  rw [hX, World.cell?_setCell_other _ _ _ _ (by intro e'; injection e' with _ e2; omega), World.cell?_setCell_other _ _ _ _ (by intro e'; injection e' with _ e2; omega)]
 have hu : ∀ p, p ≠ off + m * 3 + 2 → (u.setCell ⟨b, off + m * 3 + 2, none⟩ (.string (mkT (k + 3 * m + 2)))).cell? ⟨b, p, none⟩ = X.cell? ⟨b, p, none⟩ := fun p h1 => by
  rw [World.cell?_setCell_other _ _ _ _ (by intro e'; injection e' with _ e2; omega), hb.cell (p := ⟨b, p, none⟩) hbX]
 refine ⟨?_, ?_, fun j hj => ?_, fun o => ?_⟩
 ·obtain ⟨h1, h2, h3, h4, h5⟩ := grown_keep hXg hb
  exact ⟨h1, h2, h3, by simpa using h4, fun j hj hne => by rw [Below.heap_setCell _ _ _ _ (by rintro rfl; exact hne rfl)]; exact h5 j hj hne⟩
 ·have := hb.size
  simp only [World.size_setCell]
  omega
 ·obtain ⟨v0, v1, v2, h0, h1, h2, hk⟩ := h.cells j hj
  by_cases e : j = m
  ·subst e
   have x1 : (wr.setCell ⟨b, off + j * 3, none⟩ (.int .i64 ((k + 3 * j : Nat) : Int))).cell? ⟨b, off + j * 3 + 1, none⟩ = some v1 := by
    rw [World.cell?_setCell_other _ _ _ _ (by intro e'; injection e' with _ e2; omega)]; exact h1
   have y0 : X.cell? ⟨b, off + j * 3, none⟩ = some (.int .i64 ((k + 3 * j : Nat) : Int)) := by
    rw [hX, World.cell?_setCell_other _ _ _ _ (by intro e'; injection e' with _ e2; omega)]; exact World.cell?_setCell_same _ _ _ h0
   have y1 : X.cell? ⟨b, off + j * 3 + 1, none⟩ = some (.int .i64 ((k + 3 * j + 1 : Nat) : Int)) := by
    rw [hX]; exact World.cell?_setCell_same _ _ _ x1
   have y2 : u.cell? ⟨b, off + j * 3 + 2, none⟩ = some v2 := by
    rw [hb.cell (p := ⟨b, off + j * 3 + 2, none⟩) hbX, hXo _ (by omega) (by omega)]; exact h2
   exact ⟨_, _, _, (hu _ (by omega)).trans y0, (hu _ (by omega)).trans y1, World.cell?_setCell_same _ _ _ y2, fun _ => ⟨rfl, rfl, rfl⟩⟩
  ·exact ⟨v0, v1, v2, by rw [hu _ (by omega), hXo _ (by omega) (by omega)]; exact h0, by rw [hu _ (by omega), hXo _ (by omega) (by omega)]; exact h1, by rw [hu _ (by omega), hXo _ (by omega) (by omega)]; exact h2, fun hlt => hk (by omega)⟩
 ·have e : (u.setCell ⟨b, off + m * 3 + 2, none⟩ (.string (mkT (k + 3 * m + 2)))).frozen? ⟨b, o, none⟩ = u.frozen? ⟨b, o, none⟩ := by simp
  rw [e, hb.frozen (p := ⟨b, o, none⟩) hbX]
  exact hXf o
set_option maxHeartbeats 2000000 in
theorem markTermS_any (B : Nat) (a : Option Addr) (n cap : Nat) (ts : List Tm) (k : Nat) (w : World) (hO : OwnF B w a n ts) (hn : n ≤ 2097152) (k0 : 0 < k) (k1 : k + 3 * n ≤ 4000000000000000000) :
  Calls Tryz.prog 61 #[.slice a n cap, .int .i64 (k : Int)] w fun e w' => e = .returned (.int .i64 ((k + 3 * n : Nat) : Int)) ∧ OwnF B w' a n (marksF k n) ∧ TurnF a n w w' := by
 by_cases h0 : n = 0
 ·subst h0
  clear hO
  go_enter Tryz.func61, Tryz.ntmps61
  go_wp2
  go_loop [1, 5] (fun x i => x = .int .i64 (k : Int) ∧ i = .int .i64 0) (fun _ _ => 0)
  case atStart => exact ⟨rfl, rfl⟩
  case round =>
   obtain ⟨rfl, rfl⟩ := hrel
   go_wp2
   go_ret
   exact ⟨rint (by omega), ⟨⟨marksF_len _ _, marksF_short k1, .inl rfl⟩, .inl rfl⟩, .inl ⟨rfl, Below.refl _ _⟩⟩
 ·obtain ⟨⟨hlen, _, hr | ⟨b, off, rfl, hb, hcell⟩⟩, hown⟩ := hO
  ·omega
  obtain ⟨hB, hfr⟩ : B ≤ b ∧ ∀ o, w.frozen? ⟨b, o, none⟩ = false := by
   rcases hown with h0' | ⟨b', off', e, hB, hf⟩
   ·omega
   ·cases e; exact ⟨hB, hf⟩
  have hS := hidOf (MarkF.mk (k := k) (m := 0) ⟨rfl, rfl, rfl, Nat.le_refl _, fun _ _ _ => rfl⟩ hb (fun j hj => ⟨_, _, _, (hcell j hj).1, (hcell j hj).2.1, (hcell j hj).2.2, fun h => by omega⟩) hfr)
  clear hcell hfr hown hlen
  go_enter Tryz.func61, Tryz.ntmps61
  go_wp2
  go_loopw [1, 5] (fun x i wr => ∃ m : Nat, m ≤ n ∧ i = .int .i64 m ∧ x = .int .i64 ((k + 3 * m : Nat) : Int) ∧ MarkF w b off n k m wr) (fun _ i _ => n - (intOf i).toNat)
  case atStart => exact ⟨0, Nat.zero_le _, rfl, by simp, hS.out⟩
  case round =>
   rename_i wr
   obtain ⟨m, hm, rfl, rfl, hM⟩ := hrel
   clear hS
   by_cases hlt : m < n
   ·obtain ⟨q, hq⟩ : ∃ q, q = k + 3 * m := ⟨_, rfl⟩
    have hq1 : 0 < q ∧ q + 3 ≤ 4000000000000000000 := by omega
    obtain ⟨v0, v1, v2, hv0, hv1, hv2, _⟩ := hM.cells m hlt
    have hf := hM.fr
    have hb2 := hM.lt
    have hst := fun (X u : World) => MarkF.step' (X := X) (u := u) hM
    have hn3 : ((k + 3 * (m + 1) : Nat) : Int) = (q : Int) + 1 + 1 + 1 := by omega
    have q2 : (q : Int) + 1 + 1 = ((q + 2 : Nat) : Int) := by omega
    have q1 : (q : Int) + 1 = ((q + 1 : Nat) : Int) := by omega
    rw [← hq] at hst ⊢
    obtain ⟨X, hX⟩ : ∃ X, X = (wr.setCell ⟨b, off + m * 3, none⟩ (.int .i64 (q : Int))).setCell ⟨b, off + m * 3 + 1, none⟩ (.int .i64 ((q : Int) + 1)) := ⟨_, rfl⟩
    have hst2 := fun u => hst X u (by rw [hX, q1])
    have hX2 : X.cell? ⟨b, off + m * 3 + 2, none⟩ = some v2 := by
     rw [hX, World.cell?_setCell_other _ _ _ _ (by intro e'; injection e' with _ e2; omega), World.cell?_setCell_other _ _ _ _ (by intro e'; injection e' with _ e2; omega)]; exact hv2
    have hXf : ∀ o, X.frozen? ⟨b, o, none⟩ = false := fun o => by rw [hX]; simpa using hf o
    have hXs : b < X.heap.size := by rw [hX]; simpa using hb2
    have HX := hidOf (And.intro hX2 (And.intro hXf hXs))
    have HST := hidOf hst2
    have HQ := hidOf (And.intro hq hn3)
    have Q2 := hidOf q2
    clear hM hst hq hst2 hX2 hXf hXs hn3 q1 q2
    go_wp2_with fail
    rw [← hX, Q2.out]
    refine (markText_any (q + 2) X (by omega) (by omega)).mono ?_
    rintro e u ⟨rfl, hbu⟩
    have hu2 : u.cell? ⟨b, off + m * 3 + 2, none⟩ = some v2 := by rw [hbu.cell (p := ⟨b, off + m * 3 + 2, none⟩) HX.out.2.2]; exact HX.out.1
    have huf : ∀ o, u.frozen? ⟨b, o, none⟩ = false := fun o => by rw [hbu.frozen (p := ⟨b, o, none⟩) HX.out.2.2]; exact HX.out.2.1 o
    have HS2 := hidOf (HST.out u hbu)
    clear hbu HST hX hv0 hv1 hv2 hf HX
    go_wp2
    go_roundw
    case rel => exact ⟨m + 1, by omega, by go_num, by rw [HQ.out.2]; exact congrArg (Value.int .i64) (by omega), HS2.out⟩
    case measure => simp [intOf]; omega
   ·obtain rfl : m = n := by omega
    go_wp2
    go_ret
    refine ⟨rfl, ⟨⟨marksF_len _ _, marksF_short k1, .inr ⟨b, off, rfl, hM.lt, fun i hi => ?_⟩⟩, .inr ⟨b, off, rfl, hB, hM.fr⟩⟩, .inr ⟨by omega, b, off, rfl, hM.ex⟩⟩
    obtain ⟨v0, v1, v2, hv0, hv1, hv2, hk⟩ := hM.cells i hi
    rw [hv0, hv1, hv2, (hk hi).1, (hk hi).2.1, (hk hi).2.2, marksF_get hi]
    exact ⟨rfl, rfl, rfl⟩
abbrev RdH (b o : Nat) (v : Value) (w0 w : World) : Prop := w.cell? ⟨b, o, none⟩ = some v ∧ Below w0.heap.size w0 w
theorem RdH.keep {b o : Nat} {v : Value} {w0 w w' : World} (h : RdH b o v w0 w) (q : Below w.heap.size w w') : RdH b o v w0 w' := ⟨cellK h.1 q, bl_trans h.2 q⟩
theorem RdH.drew {b o : Nat} {v : Value} {w0 w : World} (h : RdH b o v w0 w) : RdH b o v w0 w.drew := h.keep (Below.refl _ _).drew
set_option maxHeartbeats 2000000 in
theorem heldTermS_marks (a : Option Addr) (n cap k : Nat) (w : World) (hI : TmAt w a n (marksF k n)) (hn : n ≤ 2097152) (k0 : 0 < k) (k1 : k + 3 * n ≤ 4000000000000000000) :
    Calls Tryz.prog 166 #[.slice a n cap, .int .i64 (k : Int)] w fun e w' => e = .returned (.int .i64 ((k + 3 * n : Nat) : Int)) ∧ Below w.heap.size w w' := by
  obtain ⟨hlen, _, rfl | ⟨b, off, rfl, hb, hcell⟩⟩ := hI
  · go_enter Tryz.func166, Tryz.ntmps166
    go_wp2
    go_loop [1, 5] (fun x i => x = .int .i64 (k : Int) ∧ i = .int .i64 0) (fun _ _ => 0)
    case atStart => exact ⟨rfl, rfl⟩
    case round =>
      obtain ⟨rfl, rfl⟩ := hrel
      go_wp2
      go_ret
      exact ⟨rint (by omega), Below.refl _ _⟩
  · clear hlen
    go_enter Tryz.func166, Tryz.ntmps166
    go_wp2
    go_loopw [1, 5] (fun x i wr => ∃ m : Nat, m ≤ n ∧ i = .int .i64 m ∧ x = .int .i64 ((k + 3 * m : Nat) : Int) ∧ Below w.heap.size w wr) (fun _ i _ => n - (intOf i).toNat)
    case atStart => exact ⟨0, Nat.zero_le _, rfl, by simp, Below.refl _ _⟩
    case round =>
      rename_i wr
      obtain ⟨m, hm, rfl, rfl, hB⟩ := hrel
      by_cases hlt : m < n
      · obtain ⟨hc, hc2, hc3⟩ := hcell m hlt
        rw [marksF_get hlt] at hc hc2 hc3
        obtain ⟨q, hq⟩ : ∃ q, q = k + 3 * m := ⟨_, rfl⟩
        have hq1 : 0 < q ∧ q + 3 ≤ 4000000000000000000 := by omega
        rw [← hq] at hc hc2 hc3 ⊢
        have c1 := cellK hc hB
        have c2 := cellK hc2 hB
        have c3 := cellK hc3 hB
        have e1 : ((q : Int) != (q : Int)) = false := by simp
        have e2 : (((q + 1 : Nat) : Int) != (q : Int) + 1) = false := by simp
        have hn3 : ((k + 3 * (m + 1) : Nat) : Int) = (q : Int) + 1 + 1 + 1 := by omega
        have Q2 := hidOf (by omega : (q : Int) + 1 + 1 = ((q + 2 : Nat) : Int))
        have HN := hidOf hn3
        have hS : RdH b (off + m * 3 + 2) (.string (mkT (q + 2))) w wr := ⟨c3, hB⟩
        have HC : ∀ (u : World) (z : Int), z = ((q + 2 : Nat) : Int) → Hid (Calls Tryz.prog 131 #[.int .i64 z] u fun e w' => e = .returned (.string (mkT (q + 2))) ∧ Below u.heap.size u w') := fun u z hz => by
          rw [hz]; exact hidOf (markText_any (q + 2) u (by omega) (by omega))
        simp only at c1 c2 c3
        clear hcell hq hc hc2 hc3 hn3 hB
        generalize mkT (q + 2) = t at hS HC c3
        go_wp2_with fail
        go_region_held3 (fun w' => RdH b (off + m * 3 + 2) (.string t) w w') (first | (exact hS.drew) | (exact RdH.keep (by assumption) (by assumption))) (first | (go_at_call 131; refine ((HC _ _ (by omega)).out).mono ?_; rintro e w1 ⟨rfl, hb1⟩))
        all_goals (rename_i hT; have hB2 := hidOf hT.2; clear hT hS)
        all_goals go_wp2
        all_goals go_roundw
        case rel => exact ⟨m + 1, by omega, by go_num, by rw [HN.out], hB2.out⟩
        case measure => simp [intOf]; omega
      · obtain rfl : m = n := by omega
        clear hcell
        go_wp2
        go_ret
        exact ⟨rfl, hB⟩
end Go.Proofs.YtdboaoejlkkoeaaGreat
