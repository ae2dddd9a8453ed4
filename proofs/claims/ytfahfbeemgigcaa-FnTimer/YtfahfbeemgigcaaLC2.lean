/-
  Walks of the laws' own helpers on clocks: a clock made anew, compared, marked, looked at again.
-/
import Derived.Test.YtfahfbeemgigcaaLC1
namespace Go.Proofs.Ytfahfbeemgigcaa
open Go.RowKit Pl Il

theorem szTimerS_any (a : Option Addr) (n cap : Nat) (k : Int) (w : World) (hn : n ≤ 9223372036854775807) (k0 : 0 ≤ k) (k1 : k ≤ 1048576) :
    Calls Try.prog 46 #[.slice a n cap, .int .i64 k] w fun e w' => e = .returned (.int .i64 (if k < (n : Int) then -1 else k - (n : Int))) ∧ w' = w := by
  by_cases h : k < (n : Int)
  · have h' : k - (n : Int) < 0 := by omega
    go_enter Try.func46, Try.ntmps46
    go_wp2
    go_ret
    refine ⟨rint ?_, rfl⟩
    simp
  · have h' : ¬ k - (n : Int) < 0 := by omega
    go_enter Try.func46, Try.ntmps46
    go_wp2
    go_ret
    refine ⟨rint ?_, rfl⟩
    simp
/-- Too great, or not. -/
def SzOut (n : Nat) (e : Ending) : Prop := ∃ k : Int, e = .returned (.int .i64 k) ∧ (k < 0 ∨ 0 ≤ k ∧ n ≤ 1048576)
theorem szClock_any (now : Int) (a : Option Addr) (n c : Nat) (w : World) (hn : n ≤ 9223372036854775807) :
    Calls Try.prog 21 #[.agg #[.int .i64 now, .slice a n c], .int .i64 1048576] w fun e w' => SzOut n e ∧ Below w.heap.size w w' := by
  have hb : Below w.heap.size w (w.alloc (.cells #[.int .i64 now, .slice a n c] 44)) := bl_alloc (Below.refl _ _) _
  go_enter Try.func21, Try.ntmps21
  go_wp2_with fail
  refine (szTimerS_any a n c _ _ hn (by omega) (by omega)).mono ?_
  rintro e w1 ⟨rfl, rfl⟩
  by_cases h : (1048576 : Int) < (n : Int)
  · rw [if_pos h]
    go_wp2
    go_ret
    exact ⟨⟨_, rfl, .inl (by omega)⟩, hb⟩
  · rw [if_neg h]
    have h' : ¬ (1048576 : Int) - (n : Int) < 0 := by omega
    go_wp2
    go_ret
    exact ⟨⟨_, rfl, .inr ⟨by omega, by omega⟩⟩, hb⟩

theorem toClock_any (now : Int) (a : Option Addr) (n c : Nat) (ts : List (Int × Int)) (w : World) (hT : TimAt w a n ts) (hn : n ≤ 2097152) :
    Calls Try.prog 23 #[.agg #[.int .i64 now, .slice a n c]] w fun e w' => ∃ g, e = .returned (.agg #[.int .i64 now, .slice (some ⟨g, 0, none⟩) n n]) ∧ OwnT w.heap.size w' (some ⟨g, 0, none⟩) n ts ∧ Below w.heap.size w w' := by
  generalize hW0 : w.alloc (.cells #[.int .i64 now, .slice a n c] 44) = W0
  generalize hW1 : W0.alloc (.cells #[.int .i64 0, .slice none 0 0] 26) = W1
  generalize hW2 : W1.alloc (.cells #[.int .i64 now, .slice none 0 0] 26) = W2
  have b0 : Below w.heap.size w W0 := by subst hW0; exact bl_alloc (Below.refl _ _) _
  have b1 : Below w.heap.size w W1 := by subst hW1; exact bl_alloc b0 _
  have b2 : Below w.heap.size w W2 := by subst hW2; exact bl_alloc b1 _
  have s0 : W0.heap.size = w.heap.size + 1 := by subst hW0; simp
  have s1 : W1.heap.size = w.heap.size + 2 := by subst hW1; simp [s0]
  have s2 : W2.heap.size = w.heap.size + 3 := by subst hW2; simp [s1]
  have x1 : Box2 (w.heap.size + 1) (.int .i64 0) (.slice none 0 0) W2 := by subst hW2 hW1; rw [← s0]; exact (Box2.new W0 _ _ _).alloc _
  have x2 : Box2 (w.heap.size + 2) (.int .i64 now) (.slice none 0 0) W2 := by subst hW2; rw [← s1]; exact Box2.new W1 _ _ _
  have hT2 := hidOf (hT.keep b2)
  have X1 := hidOf x1
  have X2 := hidOf x2
  have HB := hidOf b2
  have S2 := hidOf s2
  clear hT x1 x2 b0 b1 b2 s0 s1 s2
  subst hW2 hW1 hW0
  go_enter Try.func23, Try.ntmps23
  go_wp2_with fail
  refine (toTimerS_any a n c ts _ hT2.out hn).mono ?_
  rintro e w1 ⟨rfl, ho1, hb1⟩
  have x1 := X1.out.keep hb1
  have x2 := X2.out.keep hb1
  have hbA := bl_trans HB.out hb1
  rw [S2.out] at ho1 ⊢
  have y2 := x2.set1 (.slice (some ⟨w.heap.size + 3, 0, none⟩) n n)
  have hbB := (((hbA.setCell (p := ⟨w.heap.size + 2, 1, none⟩) (by simp) (.slice (some ⟨w.heap.size + 3, 0, none⟩) n n)).setCell (p := ⟨w.heap.size + 1, 0, none⟩) (by simp) (.int .i64 now))).setCell (p := ⟨w.heap.size + 1, 1, none⟩) (by simp) (.slice (some ⟨w.heap.size + 3, 0, none⟩) n n)
  have ho2 := ((ho1.far (w.heap.size + 2) 1 (by omega) (.slice (some ⟨w.heap.size + 3, 0, none⟩) n n)).far (w.heap.size + 1) 0 (by omega) (.int .i64 now)).far (w.heap.size + 1) 1 (by omega) (.slice (some ⟨w.heap.size + 3, 0, none⟩) n n)
  obtain ⟨_, p0, p1, pf⟩ := id x2
  obtain ⟨_, q0, q1, qf⟩ := id x1
  have H2 := hidOf ho2
  have HE := hidOf hbB
  clear x1 x2 y2 ho1 ho2 hbA hbB hb1 X1 X2 HB S2 hT2
  go_wp2
  refine bodyPost_ret (v := .agg #[.int .i64 now, .slice (some ⟨w.heap.size + 3, 0, none⟩) n n]) (by simp [results, Try.results23, go_sem, q0, q1]) rfl ⟨_, rfl, H2.out.mono (by omega), HE.out⟩

theorem eqClock_any (now now' : Int) (a a' : Option Addr) (n n' cap cap' : Nat) (xs ys : List (Int × Int)) (w : World) (hI : TimAt w a n xs) (hJ : TimAt w a' n' ys) (hn : n ≤ 2097152) (hn' : n' ≤ 2097152) :
    Calls Try.prog 25 #[.agg #[.int .i64 now, .slice a n cap], .agg #[.int .i64 now', .slice a' n' cap']] w fun e w' => e = .returned (.bool (decide (now = now') && eqTL xs ys)) ∧ Below w.heap.size w w' := by
  generalize hW0 : w.alloc (.cells #[.int .i64 now, .slice a n cap] 26) = W0
  generalize hW1 : W0.alloc (.cells #[.int .i64 now', .slice a' n' cap'] 26) = W1
  have B0 : Below w.heap.size w W0 := by subst hW0; exact bl_alloc (Below.refl _ _) _
  have B1 : Below w.heap.size w W1 := by subst hW1; exact bl_alloc B0 _
  have s0 : W0.heap.size = w.heap.size + 1 := by subst hW0; simp
  have x0 : Box2 w.heap.size (.int .i64 now) (.slice a n cap) W1 := by subst hW1 hW0; exact (Box2.new w _ _ _).alloc _
  have x1 : Box2 (w.heap.size + 1) (.int .i64 now') (.slice a' n' cap') W1 := by subst hW1; rw [← s0]; exact Box2.new W0 _ _ _
  have k1 := hidOf (hI.keep B1)
  have k2 := hidOf (hJ.keep B1)
  obtain ⟨_, p0, p1, _⟩ := id x0
  obtain ⟨_, q0, q1, _⟩ := id x1
  clear hI hJ x0 x1
  by_cases hq : now = now'
  · have hq' : (now != now') = false := by simp [hq]
    have hd : decide (now = now') = true := by simp [hq]
    rw [hd, Bool.true_and]
    clear hq hd
    go_enter Try.func25, Try.ntmps25
    go_wp2_with fail
    refine (eqTimerS_any a a' n n' cap cap' xs ys _ k1.out k2.out hn hn').mono ?_
    rintro e w1 ⟨rfl, hb1⟩
    have hB := bl_trans B1 hb1
    clear k1 k2 hb1 p0 p1 q0 q1 hW0 hW1 B0 B1 s0
    cases he : eqTL xs ys
    · go_wp2
      go_ret
      exact ⟨rbool he.symm, hB⟩
    · go_wp2
      go_ret
      exact ⟨rbool he.symm, hB⟩
  · have hq' : (now != now') = true := by simp [hq]
    have hd : decide (now = now') = false := by simp [hq]
    rw [hd, Bool.false_and]
    clear hq hd k1 k2
    go_enter Try.func25, Try.ntmps25
    go_wp2
    go_ret
    exact ⟨rfl, B1⟩

/-- Marks for timers: k, k + 1 and so on, two a timer. -/
def marksT (k : Int) (n : Nat) : List (Int × Int) := (List.range n).map fun (i : Nat) => (k + 2 * (i : Int), k + 2 * (i : Int) + 1)
theorem marksT_len (k : Int) (n : Nat) : (marksT k n).length = n := by simp [marksT]
theorem marksT_get {k : Int} {n j : Nat} (h : j < n) : tg (marksT k n) j = (k + 2 * (j : Int), k + 2 * (j : Int) + 1) := by
  simp [marksT, tg, List.getD, List.getElem?_map, List.getElem?_range h]
/-- Marks are written into a row, place by place. -/
structure MarkT (w : World) (b off n : Nat) (k : Int) (m : Nat) (wr : World) : Prop where
  ex : w.grownBy wr (some b)
  lt : b < wr.heap.size
  cells : ∀ j, j < n → ∃ v0 v1, wr.cell? ⟨b, off + j * 2, none⟩ = some v0 ∧ wr.cell? ⟨b, off + j * 2 + 1, none⟩ = some v1 ∧ (j < m → v0 = .int .i64 (k + 2 * (j : Int)) ∧ v1 = .int .i64 (k + 2 * (j : Int) + 1))
  fr : ∀ j, wr.frozen? ⟨b, j, none⟩ = false
theorem grownS {w w' : World} {b : Nat} (h : w.grownBy w' (some b)) (o : Nat) (x : Value) : w.grownBy (w'.setCell ⟨b, o, none⟩ x) (some b) :=
  ⟨h.os, h.tape, h.output, by simpa using h.size, fun k hk hne => by
    rw [Below.heap_setCell w' ⟨b, o, none⟩ x k (by rintro rfl; exact hne rfl)]
    exact h.block k hk hne⟩
theorem MarkT.step {w : World} {b off n : Nat} {k : Int} {m : Nat} {wr : World} (h : MarkT w b off n k m wr) : MarkT w b off n k (m + 1) ((wr.setCell ⟨b, off + m * 2, none⟩ (.int .i64 (k + 2 * (m : Int)))).setCell ⟨b, off + m * 2 + 1, none⟩ (.int .i64 (k + 2 * (m : Int) + 1))) where
  ex := grownS (grownS h.ex _ _) _ _
  lt := by simpa using h.lt
  cells := fun j hj => by
    obtain ⟨v0, v1, h0, h1, hk⟩ := h.cells j hj
    by_cases e : j = m
    · subst e
      have h1' : (wr.setCell ⟨b, off + j * 2, none⟩ (.int .i64 (k + 2 * (j : Int)))).cell? ⟨b, off + j * 2 + 1, none⟩ = some v1 := by
        rw [World.cell?_setCell_other _ _ _ _ (by intro e'; injection e' with _ e2; omega)]; exact h1
      refine ⟨_, _, ?_, World.cell?_setCell_same _ _ _ h1', fun _ => ⟨rfl, rfl⟩⟩
      rw [World.cell?_setCell_other _ _ _ _ (by intro e'; injection e' with _ e2; omega)]
      exact World.cell?_setCell_same _ _ _ h0
    · refine ⟨v0, v1, ?_, ?_, fun hlt => hk (by omega)⟩
      · rw [World.cell?_setCell_other _ _ _ _ (by intro e'; injection e' with _ e2; omega), World.cell?_setCell_other _ _ _ _ (by intro e'; injection e' with _ e2; omega)]; exact h0
      · rw [World.cell?_setCell_other _ _ _ _ (by intro e'; injection e' with _ e2; omega), World.cell?_setCell_other _ _ _ _ (by intro e'; injection e' with _ e2; omega)]; exact h1
  fr := fun j => by simpa using h.fr j
/-- What a marking leaves. -/
def TurnT (a : Option Addr) (n : Nat) (w w' : World) : Prop := n = 0 ∧ Below w.heap.size w w' ∨ 0 < n ∧ ∃ b off, a = some ⟨b, off, none⟩ ∧ w.grownBy w' (some b)

/-- The list is written over with marks; nothing but its own block turns. -/
theorem markTimerS_any (B : Nat) (a : Option Addr) (n cap : Nat) (ts : List (Int × Int)) (k : Int) (w : World) (hO : OwnT B w a n ts) (hn : n ≤ 2097152) (k0 : 0 ≤ k) (k1 : k ≤ 1000000000) :
    Calls Try.prog 49 #[.slice a n cap, .int .i64 k] w fun e w' => e = .returned (.int .i64 (k + 2 * (n : Int))) ∧ OwnT B w' a n (marksT k n) ∧ TurnT a n w w' := by
  by_cases h0 : n = 0
  · subst h0
    clear hO
    go_enter Try.func49, Try.ntmps49
    go_wp2
    go_loop [1, 5] (fun x i => x = .int .i64 k ∧ i = .int .i64 0) (fun _ _ => 0)
    case atStart => exact ⟨rfl, rfl⟩
    case round =>
      obtain ⟨rfl, rfl⟩ := hrel
      go_wp2
      go_ret
      exact ⟨rint (by simp), ⟨⟨marksT_len _ _, .inl rfl⟩, .inl rfl⟩, .inl ⟨rfl, Below.refl _ _⟩⟩
  · obtain ⟨⟨hlen, hr | ⟨b, off, rfl, hb, hcell⟩⟩, hown⟩ := hO
    · omega
    obtain ⟨hB, hfr⟩ : B ≤ b ∧ ∀ o, w.frozen? ⟨b, o, none⟩ = false := by
      rcases hown with h0' | ⟨b', off', e, hB, hf⟩
      · omega
      · cases e; exact ⟨hB, hf⟩
    have hS := hidOf (MarkT.mk (k := k) (m := 0) ⟨rfl, rfl, rfl, Nat.le_refl _, fun _ _ _ => rfl⟩ hb (fun j hj => ⟨_, _, (hcell j hj).1, (hcell j hj).2, fun h => by omega⟩) hfr)
    clear hcell hfr hown hlen
    go_enter Try.func49, Try.ntmps49
    go_wp2
    go_loopw [1, 5] (fun x i wr => ∃ m : Nat, m ≤ n ∧ i = .int .i64 m ∧ x = .int .i64 (k + 2 * (m : Int)) ∧ MarkT w b off n k m wr) (fun _ i _ => n - (intOf i).toNat)
    case atStart => exact ⟨0, Nat.zero_le _, rfl, by simp, hS.out⟩
    case round =>
      rename_i wr
      obtain ⟨m, hm, rfl, rfl, hM⟩ := hrel
      clear hS
      by_cases hlt : m < n
      · obtain ⟨v0, v1, hv0, hv1, _⟩ := hM.cells m hlt
        have hf := hM.fr
        have HM := hidOf hM.step
        clear hM
        go_wp2
        go_roundw
        case rel => exact ⟨m + 1, by omega, by go_num, by go_num, HM.out⟩
        case measure => simp [intOf]; omega
      · obtain rfl : m = n := by omega
        go_wp2
        go_ret
        refine ⟨rfl, ⟨⟨marksT_len _ _, .inr ⟨b, off, rfl, hM.lt, fun i hi => ?_⟩⟩, .inr ⟨b, off, rfl, hB, hM.fr⟩⟩, .inr ⟨by omega, b, off, rfl, hM.ex⟩⟩
        obtain ⟨v0, v1, hv0, hv1, hk⟩ := hM.cells i hi
        rw [hv0, hv1, (hk hi).1, (hk hi).2, marksT_get hi]
        exact ⟨rfl, rfl⟩

theorem heldTimerS_marks (a : Option Addr) (n cap : Nat) (k : Int) (w : World) (hI : TimAt w a n (marksT k n)) (hn : n ≤ 2097152) (k0 : 0 ≤ k) (k1 : k ≤ 1000000000) :
    Calls Try.prog 50 #[.slice a n cap, .int .i64 k] w fun e w' => e = .returned (.int .i64 (k + 2 * (n : Int))) ∧ w' = w := by
  obtain ⟨hlen, rfl | ⟨b, off, rfl, hb, hcell⟩⟩ := hI
  · go_enter Try.func50, Try.ntmps50
    go_wp2
    go_loop [1, 5] (fun x i => x = .int .i64 k ∧ i = .int .i64 0) (fun _ _ => 0)
    case atStart => exact ⟨rfl, rfl⟩
    case round =>
      obtain ⟨rfl, rfl⟩ := hrel
      go_wp2
      go_ret
      exact ⟨rint (by simp), rfl⟩
  · clear hlen
    go_enter Try.func50, Try.ntmps50
    go_wp2
    go_loop [1, 5] (fun x i => ∃ m : Nat, m ≤ n ∧ i = .int .i64 m ∧ x = .int .i64 (k + 2 * (m : Int))) (fun _ i => n - (intOf i).toNat)
    case atStart => exact ⟨0, Nat.zero_le _, rfl, by simp⟩
    case round =>
      obtain ⟨m, hm, rfl, rfl⟩ := hrel
      by_cases hlt : m < n
      · obtain ⟨hc, hc2⟩ := hcell m hlt
        rw [marksT_get hlt] at hc hc2
        clear hcell
        go_wp2
        go_round
        case rel => exact ⟨m + 1, by omega, by go_num, by go_num⟩
        case measure => simp [intOf]; omega
      · obtain rfl : m = n := by omega
        clear hcell
        go_wp2
        go_ret
        exact ⟨rfl, rfl⟩

theorem markClock_any (B : Nat) (now : Int) (a : Option Addr) (n cap : Nat) (ts : List (Int × Int)) (k : Int) (w : World) (hO : OwnT B w a n ts) (hn : n ≤ 2097152) (k0 : 0 ≤ k) (k1 : k ≤ 1000000000) :
    Calls Try.prog 26 #[.agg #[.int .i64 now, .slice a n cap], .int .i64 k] w fun e w' => e = .returned (.int .i64 (k + 2 * (n : Int))) ∧ OwnT B w' a n (marksT k n) ∧ TurnT a n w w' := by
  generalize hW0 : w.alloc (.cells #[.int .i64 now, .slice a n cap] 26) = W0
  have B0 : Below w.heap.size w W0 := by subst hW0; exact bl_alloc (Below.refl _ _) _
  have x0 : Box2 w.heap.size (.int .i64 now) (.slice a n cap) W0 := by subst hW0; exact Box2.new w _ _ _
  have hO0 := hidOf (hO.keep B0)
  obtain ⟨_, p0, p1, _⟩ := x0
  clear hO
  go_enter Try.func26, Try.ntmps26
  go_wp2_with fail
  refine (markTimerS_any B a n cap ts k _ hO0.out hn k0 k1).mono ?_
  rintro e w1 ⟨rfl, ho1, ht1⟩
  have HO := hidOf ho1
  have HT : Hid (TurnT a n w w1) := by
    rcases ht1 with ⟨h0, hb⟩ | ⟨hp, b, off, rfl, hg⟩
    · exact .inl ⟨h0, bl_trans B0 hb⟩
    · exact .inr ⟨hp, b, off, rfl, ⟨hg.os.trans B0.os, hg.tape.trans B0.tape, hg.output.trans B0.output, Nat.le_trans B0.size hg.size, fun j hj hne => (hg.block j (Nat.lt_of_lt_of_le hj B0.size) hne).trans (B0.block j hj)⟩⟩
  clear ho1 ht1 hO0 p0 p1 hW0 B0
  go_wp2
  go_ret
  exact ⟨rfl, HO.out, HT.out⟩

theorem heldClock_marks (now : Int) (a : Option Addr) (n cap : Nat) (k : Int) (w : World) (hI : TimAt w a n (marksT k n)) (hn : n ≤ 2097152) (k0 : 0 ≤ k) (k1 : k ≤ 1000000000) :
    Calls Try.prog 27 #[.agg #[.int .i64 now, .slice a n cap], .int .i64 k] w fun e w' => e = .returned (.int .i64 (k + 2 * (n : Int))) ∧ Below w.heap.size w w' := by
  generalize hW0 : w.alloc (.cells #[.int .i64 now, .slice a n cap] 26) = W0
  have B0 : Below w.heap.size w W0 := by subst hW0; exact bl_alloc (Below.refl _ _) _
  have x0 : Box2 w.heap.size (.int .i64 now) (.slice a n cap) W0 := by subst hW0; exact Box2.new w _ _ _
  have hO0 := hI.keep B0
  obtain ⟨_, p0, p1, _⟩ := x0
  have g1 : ¬ k + 2 * (n : Int) < 0 := by omega
  clear hI
  go_enter Try.func27, Try.ntmps27
  go_wp2_with fail
  refine (heldTimerS_marks a n cap k _ hO0 hn k0 k1).mono ?_
  rintro e w1 ⟨rfl, rfl⟩
  go_wp2
  go_ret
  exact ⟨rfl, B0⟩
end Go.Proofs.Ytfahfbeemgigcaa
