/-
  Lists of what is told: marks laid into them, and held against them
-/
import Derived.Test.YtdboaoejlkkoeaaGreatZPu33
namespace Go.Proofs.YtdboaoejlkkoeaaGreat
open Go.RowKit Pl Il
def mkD (q : Nat) : Td := ⟨(q : Int), (((q + 1 : Nat) : Int), ((q + 2 : Nat) : Int), mkT (q + 3)), ((q + 4 : Nat) : Int), ((q + 5 : Nat) : Int)⟩
def marksD (k n : Nat) : List Td := (List.range n).map fun i => mkD (k + 6 * i)
theorem marksD_len (k n : Nat) : (marksD k n).length = n := by simp [marksD]
theorem marksD_get {k n i : Nat} (h : i < n) : dg (marksD k n) i = mkD (k + 6 * i) := by
  unfold dg marksD
  rw [List.getD_eq_getElem?_getD, List.getElem?_map, List.getElem?_range h]
  rfl
structure MarkD (w : World) (b off n k m : Nat) (wr : World) : Prop where
  ex : w.grownBy wr (some b)
  lt : b < wr.heap.size
  cells : ∀ j, j < n → ∀ r, r < 6 → ∃ v, wr.cell? ⟨b, off + j * 6 + r, none⟩ = some v
  done : ∀ j, j < m → j < n → ∀ r, r < 6 → wr.cell? ⟨b, off + j * 6 + r, none⟩ = (tdC (mkD (k + 6 * j)))[r]?
  fr : ∀ o, wr.frozen? ⟨b, o, none⟩ = false
theorem MarkD.step {w : World} {b off n k m : Nat} {wr X u Y : World} (h : MarkD w b off n k m wr) (hm : m < n)
  (hX : X = setL wr b (off + m * 6) [.int .i64 ((k + 6 * m : Nat) : Int), .int .i64 ((k + 6 * m + 1 : Nat) : Int), .int .i64 ((k + 6 * m + 2 : Nat) : Int)]) (hb : Below X.heap.size X u)
  (hY : Y = setL u b (off + m * 6 + 3) [.string (mkT (k + 6 * m + 3)), .int .i64 ((k + 6 * m + 4 : Nat) : Int), .int .i64 ((k + 6 * m + 5 : Nat) : Int)]) : MarkD w b off n k (m + 1) Y := by
 have hXs : X.heap.size = wr.heap.size := by rw [hX, setL_size]
 have hbX : b < X.heap.size := by rw [hXs]; exact h.lt
 have hX1 : ∀ p, (p < off + m * 6 ∨ off + m * 6 + 3 ≤ p) → X.cell? ⟨b, p, none⟩ = wr.cell? ⟨b, p, none⟩ := fun p hp => by rw [hX, setL_other (by simpa using hp)]
 have hu1 : ∀ p, u.cell? ⟨b, p, none⟩ = X.cell? ⟨b, p, none⟩ := fun p => hb.cell (p := ⟨b, p, none⟩) hbX
 have hY1 : ∀ p, (p < off + m * 6 + 3 ∨ off + m * 6 + 3 + 3 ≤ p) → Y.cell? ⟨b, p, none⟩ = X.cell? ⟨b, p, none⟩ := fun p hp => by rw [hY, setL_other (by simpa using hp), hu1]
 have hX3 := setL_same (g := b) (vs := [Value.int .i64 ((k + 6 * m : Nat) : Int), .int .i64 ((k + 6 * m + 1 : Nat) : Int), .int .i64 ((k + 6 * m + 2 : Nat) : Int)]) (w := wr) (o := off + m * 6) (fun i hi => h.cells m hm i (by simp at hi; omega))
 rw [← hX] at hX3
 have hY3 := setL_same (g := b) (vs := [Value.string (mkT (k + 6 * m + 3)), .int .i64 ((k + 6 * m + 4 : Nat) : Int), .int .i64 ((k + 6 * m + 5 : Nat) : Int)]) (w := u) (o := off + m * 6 + 3) (fun i hi => by
  simp only [List.length_cons, List.length_nil] at hi
  rw [hu1, hX1 _ (.inr (by omega)), show off + m * 6 + 3 + i = off + m * 6 + (3 + i) by omega]
  exact h.cells m hm (3 + i) (by omega))
 rw [← hY] at hY3
 have hnew : ∀ r, r < 6 → Y.cell? ⟨b, off + m * 6 + r, none⟩ = (tdC (mkD (k + 6 * m)))[r]? := fun r hr => by
  match r, hr with
  | 0, _ => rw [hY1 _ (.inl (by omega))]; exact hX3 0 (by simp)
  | 1, _ => rw [hY1 _ (.inl (by omega))]; exact hX3 1 (by simp)
  | 2, _ => rw [hY1 _ (.inl (by omega))]; exact hX3 2 (by simp)
  | 3, _ => exact hY3 0 (by simp)
  | 4, _ => exact hY3 1 (by simp)
  | 5, _ => exact hY3 2 (by simp)
 have hold : ∀ j, j ≠ m → ∀ r, r < 6 → Y.cell? ⟨b, off + j * 6 + r, none⟩ = wr.cell? ⟨b, off + j * 6 + r, none⟩ := fun j hj r hr => by
  rw [hY1 _ (by omega), hX1 _ (by omega)]
 refine ⟨?_, ?_, fun j hj r hr => ?_, fun j hj hjn r hr => ?_, fun o => ?_⟩
 ·rw [hY]
  refine setL_grown (grown_keep (w' := X) ?_ hb)
  rw [hX]
  exact setL_grown h.ex
 ·rw [hY, setL_size]
  exact Nat.lt_of_lt_of_le hbX hb.size
 ·by_cases e : j = m
  ·subst e
   rw [hnew r hr]
   match r, hr with
   | 0, _ => exact ⟨_, rfl⟩
   | 1, _ => exact ⟨_, rfl⟩
   | 2, _ => exact ⟨_, rfl⟩
   | 3, _ => exact ⟨_, rfl⟩
   | 4, _ => exact ⟨_, rfl⟩
   | 5, _ => exact ⟨_, rfl⟩
  ·rw [hold j e r hr]
   exact h.cells j hj r hr
 ·by_cases e : j = m
  ·subst e
   exact hnew r hr
  ·rw [hold j e r hr]
   exact h.done j (by omega) hjn r hr
 ·rw [hY, setL_fr, hb.frozen (p := ⟨b, o, none⟩) hbX, hX, setL_fr]
  exact h.fr o
set_option maxHeartbeats 4000000 in
theorem heldToldS_marks (a : Option Addr) (n cap k : Nat) (w : World) (hI : TdAt w a n (marksD k n)) (hn : n ≤ 2097152) (k0 : 0 < k) (k1 : k + 6 * n ≤ 4000000000000000000) :
  Calls Tryz.prog 71 #[.slice a n cap, .int .i64 (k : Int)] w fun e w' => e = .returned (.int .i64 ((k + 6 * n : Nat) : Int)) ∧ Below w.heap.size w w' := by
 obtain ⟨hlen, rfl | ⟨b, off, rfl, hb, hcell⟩⟩ := hI
 ·go_enter Tryz.func71, Tryz.ntmps71
  go_wp2
  go_loop [1, 5] (fun x i => x = .int .i64 (k : Int) ∧ i = .int .i64 0) (fun _ _ => 0)
  case atStart => exact ⟨rfl, rfl⟩
  case round =>
   obtain ⟨rfl, rfl⟩ := hrel
   go_wp2
   go_ret
   exact ⟨rint (by omega), Below.refl _ _⟩
 ·clear hlen
  go_enter Tryz.func71, Tryz.ntmps71
  go_wp2
  go_loopw [1, 5] (fun x i wr => ∃ m : Nat, m ≤ n ∧ i = .int .i64 m ∧ x = .int .i64 ((k + 6 * m : Nat) : Int) ∧ Below w.heap.size w wr) (fun _ i _ => n - (intOf i).toNat)
  case atStart => exact ⟨0, Nat.zero_le _, rfl, by simp, Below.refl _ _⟩
  case round =>
   rename World => wr
   obtain ⟨m, hm, rfl, rfl, hB⟩ := hrel
   by_cases hlt : m < n
   ·have hcc := hcell m hlt
    rw [marksD_get hlt] at hcc
    obtain ⟨c0, c1, c2, c3, c4, c5⟩ := hcc.keep hB
    obtain ⟨q, hq⟩ : ∃ q, q = k + 6 * m := ⟨_, rfl⟩
    have hq1 : 0 < q ∧ q + 6 ≤ 4000000000000000000 := by omega
    rw [← hq] at c0 c1 c2 c3 c4 c5 ⊢
    simp only [mkD] at c0 c1 c2 c3 c4 c5
    have e1 : ((q : Int) != (q : Int)) = false := by simp
    have e2 : (((q + 1 : Nat) : Int) != (q : Int) + 1) = false := by simp
    have e3 : (((q + 2 : Nat) : Int) != (q : Int) + 1 + 1) = false := by simp; omega
    have e5 : (((q + 4 : Nat) : Int) != (q : Int) + 1 + 1 + 1 + 1) = false := by simp; omega
    have e6 : (((q + 5 : Nat) : Int) != (q : Int) + 1 + 1 + 1 + 1 + 1) = false := by simp; omega
    have hn3 : ((k + 6 * (m + 1) : Nat) : Int) = (q : Int) + 1 + 1 + 1 + 1 + 1 + 1 := by omega
    have HN := hidOf hn3
    have hS : RdH b (off + m * 6 + 3) (.string (mkT (q + 3))) w wr := ⟨c3, hB⟩
    have HC : ∀ (u : World) (z : Int), z = ((q + 3 : Nat) : Int) → Hid (Calls Tryz.prog 131 #[.int .i64 z] u fun e w' => e = .returned (.string (mkT (q + 3))) ∧ Below u.heap.size u w') := fun u z hz => by
     rw [hz]; exact hidOf (markText_any (q + 3) u (by omega) (by omega))
    have H45 := hidOf (fun (u : World) (hu : Below w.heap.size w u) => (show u.cell? ⟨b, off + m * 6 + 4, none⟩ = some (.int .i64 ((q + 4 : Nat) : Int)) ∧ u.cell? ⟨b, off + m * 6 + 5, none⟩ = some (.int .i64 ((q + 5 : Nat) : Int)) from by
     have h := hcc.keep hu
     rw [← hq] at h
     exact ⟨h.c4, h.c5⟩))
    clear hcell hq hcc hn3 hB c4 c5
    generalize mkT (q + 3) = t at hS HC c3
    go_wp2_with fail
    go_region_held3 (fun w' => RdH b (off + m * 6 + 3) (.string t) w w') (first | (exact hS.drew) | (exact RdH.keep (by assumption) (by assumption))) (first | (go_at_call 131; refine ((HC _ _ (by omega)).out).mono ?_; rintro e w1 ⟨rfl, hb1⟩))
    all_goals (rename_i hT; have hB2 := hidOf hT.2; obtain ⟨c4, c5⟩ := H45.out _ hT.2; clear hT hS)
    all_goals go_wp2
    all_goals go_roundw
    case rel => exact ⟨m + 1, by omega, by go_num, by rw [HN.out], hB2.out⟩
    case measure => simp [intOf]; omega
   ·obtain rfl : m = n := by omega
    clear hcell
    go_wp2
    go_ret
    exact ⟨rfl, hB⟩
structure OwnD (B : Nat) (w : World) (a : Option Addr) (n : Nat) (l : List Td) : Prop where
  td : TdAt w a n l
  own : n = 0 ∨ ∃ b off, a = some ⟨b, off, none⟩ ∧ B ≤ b ∧ ∀ o, w.frozen? ⟨b, o, none⟩ = false
theorem OwnD.keep {B : Nat} {w w' : World} {a : Option Addr} {n : Nat} {l : List Td} (h : OwnD B w a n l) (hb : Below w.heap.size w w') : OwnD B w' a n l := by
  refine ⟨h.td.keep hb, ?_⟩
  rcases h.own with k | ⟨b, off, e, hB, hf⟩
  · exact .inl k
  · rcases h.td.row with k | ⟨b2, off2, e2, hlt, _⟩
    · exact .inl k
    · rw [e] at e2
      cases e2
      exact .inr ⟨b, off, e, hB, fun o => by rw [hb.frozen (p := ⟨b, o, none⟩) hlt]; exact hf o⟩
set_option maxHeartbeats 4000000 in
theorem markToldS_any (B : Nat) (a : Option Addr) (n cap : Nat) (l : List Td) (k : Nat) (w : World) (hO : OwnD B w a n l) (hn : n ≤ 2097152) (k0 : 0 < k) (k1 : k + 6 * n ≤ 4000000000000000000) :
  Calls Tryz.prog 70 #[.slice a n cap, .int .i64 (k : Int)] w fun e w' => e = .returned (.int .i64 ((k + 6 * n : Nat) : Int)) ∧ OwnD B w' a n (marksD k n) ∧ TurnF a n w w' := by
 by_cases h0 : n = 0
 ·subst h0
  clear hO
  go_enter Tryz.func70, Tryz.ntmps70
  go_wp2
  go_loop [1, 5] (fun x i => x = .int .i64 (k : Int) ∧ i = .int .i64 0) (fun _ _ => 0)
  case atStart => exact ⟨rfl, rfl⟩
  case round =>
   obtain ⟨rfl, rfl⟩ := hrel
   go_wp2
   go_ret
   exact ⟨rint (by omega), ⟨⟨marksD_len _ _, .inl rfl⟩, .inl rfl⟩, .inl ⟨rfl, Below.refl _ _⟩⟩
 ·obtain ⟨⟨hlen, hr | ⟨b, off, rfl, hb, hcell⟩⟩, hown⟩ := hO
  ·omega
  obtain ⟨hB, hfr⟩ : B ≤ b ∧ ∀ o, w.frozen? ⟨b, o, none⟩ = false := by
   rcases hown with h0' | ⟨b', off', e, hB, hf⟩
   ·omega
   ·cases e; exact ⟨hB, hf⟩
  have hS := hidOf (show MarkD w b off n k 0 w from ⟨⟨rfl, rfl, rfl, Nat.le_refl _, fun _ _ _ => rfl⟩, hb, fun j hj r hr => by
   have hc := hcell j hj
   match r, hr with
   | 0, _ => exact ⟨_, hc.c0⟩
   | 1, _ => exact ⟨_, hc.c1⟩
   | 2, _ => exact ⟨_, hc.c2⟩
   | 3, _ => exact ⟨_, hc.c3⟩
   | 4, _ => exact ⟨_, hc.c4⟩
   | 5, _ => exact ⟨_, hc.c5⟩, fun j hj => by omega, hfr⟩)
  clear hcell hfr hown hlen
  go_enter Tryz.func70, Tryz.ntmps70
  go_wp2
  go_loopw [1, 5] (fun x i wr => ∃ m : Nat, m ≤ n ∧ i = .int .i64 m ∧ x = .int .i64 ((k + 6 * m : Nat) : Int) ∧ MarkD w b off n k m wr) (fun _ i _ => n - (intOf i).toNat)
  case atStart => exact ⟨0, Nat.zero_le _, rfl, by simp, hS.out⟩
  case round =>
   rename World => wr
   obtain ⟨m, hm, rfl, rfl, hM⟩ := hrel
   clear hS
   by_cases hlt : m < n
   ·obtain ⟨q, hq⟩ : ∃ q, q = k + 6 * m := ⟨_, rfl⟩
    have hq1 : 0 < q ∧ q + 6 ≤ 4000000000000000000 := by omega
    obtain ⟨v0, hv0⟩ := hM.cells m hlt 0 (by omega)
    obtain ⟨v1, hv1⟩ := hM.cells m hlt 1 (by omega)
    obtain ⟨v2, hv2⟩ := hM.cells m hlt 2 (by omega)
    obtain ⟨v3, hv3⟩ := hM.cells m hlt 3 (by omega)
    obtain ⟨v4, hv4⟩ := hM.cells m hlt 4 (by omega)
    obtain ⟨v5, hv5⟩ := hM.cells m hlt 5 (by omega)
    simp only [Nat.add_zero] at hv0
    have hf := hM.fr
    have hst := fun (X u Y : World) => MarkD.step (X := X) (u := u) (Y := Y) hM hlt
    have hb2 := hM.lt
    have HQ := hidOf (show ((k + 6 * (m + 1) : Nat) : Int) = (q : Int) + 1 + 1 + 1 + 1 + 1 + 1 by omega)
    rw [← hq] at hst ⊢
    obtain ⟨X, hX⟩ : ∃ X, X = ((wr.setCell ⟨b, off + m * 6, none⟩ (.int .i64 (q : Int))).setCell ⟨b, off + m * 6 + 1, none⟩ (.int .i64 ((q : Int) + 1))).setCell ⟨b, off + m * 6 + 2, none⟩ (.int .i64 ((q : Int) + 1 + 1)) := ⟨_, rfl⟩
    have hX' : X = setL wr b (off + m * 6) [.int .i64 ((q : Nat) : Int), .int .i64 ((q + 1 : Nat) : Int), .int .i64 ((q + 2 : Nat) : Int)] := by
     rw [hX, show ((q + 1 : Nat) : Int) = (q : Int) + 1 by omega, show ((q + 2 : Nat) : Int) = (q : Int) + 1 + 1 by omega]
     rfl
    have hXo : ∀ p, off + m * 6 + 3 ≤ p → X.cell? ⟨b, p, none⟩ = wr.cell? ⟨b, p, none⟩ := fun p hp => by rw [hX', setL_other (by simp; omega)]
    have hXf : ∀ o, X.frozen? ⟨b, o, none⟩ = false := fun o => by rw [hX', setL_fr]; exact hf o
    have hXs : b < X.heap.size := by rw [hX', setL_size]; exact hb2
    have HX := hidOf (And.intro (show X.cell? ⟨b, off + m * 6 + 3, none⟩ = some v3 ∧ X.cell? ⟨b, off + m * 6 + 4, none⟩ = some v4 ∧ X.cell? ⟨b, off + m * 6 + 5, none⟩ = some v5 from ⟨by rw [hXo _ (by omega)]; exact hv3, by rw [hXo _ (by omega)]; exact hv4, by rw [hXo _ (by omega)]; exact hv5⟩) (And.intro hXf hXs))
    have HST := hidOf (fun (u Y : World) => hst X u Y hX')
    have Q3 := hidOf (show (q : Int) + 1 + 1 + 1 = ((q + 3 : Nat) : Int) by omega)
    clear hM hst hq hX' hXo hXf hXs hv3 hv4 hv5
    go_wp2_with fail
    rw [← hX, Q3.out]
    refine (markText_any (q + 3) X (by omega) (by omega)).mono ?_
    rintro e u ⟨rfl, hbu⟩
    have c3 : u.cell? ⟨b, off + m * 6 + 3, none⟩ = some v3 := by rw [hbu.cell (p := ⟨b, off + m * 6 + 3, none⟩) HX.out.2.2]; exact HX.out.1.1
    have c4 : u.cell? ⟨b, off + m * 6 + 4, none⟩ = some v4 := by rw [hbu.cell (p := ⟨b, off + m * 6 + 4, none⟩) HX.out.2.2]; exact HX.out.1.2.1
    have c5 : u.cell? ⟨b, off + m * 6 + 5, none⟩ = some v5 := by rw [hbu.cell (p := ⟨b, off + m * 6 + 5, none⟩) HX.out.2.2]; exact HX.out.1.2.2
    have huf : ∀ o, u.frozen? ⟨b, o, none⟩ = false := fun o => by rw [hbu.frozen (p := ⟨b, o, none⟩) HX.out.2.2]; exact HX.out.2.1 o
    have HS2 := hidOf (show MarkD w b off n k (m + 1) (((u.setCell ⟨b, off + m * 6 + 3, none⟩ (.string (mkT (q + 3)))).setCell ⟨b, off + m * 6 + 4, none⟩ (.int .i64 ((q : Int) + 1 + 1 + 1 + 1))).setCell ⟨b, off + m * 6 + 5, none⟩ (.int .i64 ((q : Int) + 1 + 1 + 1 + 1 + 1))) from HST.out u _ hbu (by
     rw [show ((q + 5 : Nat) : Int) = (q : Int) + 1 + 1 + 1 + 1 + 1 by omega, show ((q + 4 : Nat) : Int) = (q : Int) + 1 + 1 + 1 + 1 by omega]
     rfl))
    clear hbu HST hX hv0 hv1 hv2 hf HX
    go_wp2
    go_roundw
    case rel => exact ⟨m + 1, by omega, by go_num, by rw [HQ.out]; exact congrArg (Value.int .i64) (by omega), by first | exact HS2.out | (have h := HS2.out; rw [show (q : Int) + 1 + 1 + 1 = ((q + 3 : Nat) : Int) by omega] at h; exact h)⟩
    case measure => simp [intOf]; omega
   ·obtain rfl : m = n := by omega
    go_wp2
    go_ret
    refine ⟨rfl, ⟨⟨marksD_len _ _, .inr ⟨b, off, rfl, hM.lt, fun i hi => ?_⟩⟩, .inr ⟨b, off, rfl, hB, hM.fr⟩⟩, .inr ⟨by omega, b, off, rfl, hM.ex⟩⟩
    rw [marksD_get hi]
    have hd := hM.done i hi hi
    exact ⟨hd 0 (by omega), hd 1 (by omega), hd 2 (by omega), hd 3 (by omega), hd 4 (by omega), hd 5 (by omega)⟩
end Go.Proofs.YtdboaoejlkkoeaaGreat
