/-
  Rings without messages, subscribers and waiters: the laws' own helpers on them, NewRing of both sides, and the law on NewRing.
-/
import Derived.Test.YtbhdjcggcgddfabRows
import Derived.Test.YtbhdjcggcgddfabInts
import Derived.WalkSpells
import Derived.WalkLawsBesides
import Derived.Deep.QuietTactic
import Derived.BigQuiet
import Derived.Deep.RegionHeld3
namespace Go.Proofs.Ytbhdjcggcgddfab
open Go.RowKit Pl

theorem hidOf' {p : Prop} (h : p) : Hid p := h
/-- A ring's variable, all its lists empty. -/
structure RZ (N : Nat) (c : Int) (w : World) : Prop where
  lt : N < w.heap.size
  c0 : w.cell? ⟨N, 0, none⟩ = some (.int .i64 c)
  c1 : w.cell? ⟨N, 1, none⟩ = some (.int .i64 0)
  c2 : w.cell? ⟨N, 2, none⟩ = some (.slice none 0 0)
  c3 : w.cell? ⟨N, 3, none⟩ = some (.int .i64 0)
  c4 : w.cell? ⟨N, 4, none⟩ = some (.slice none 0 0)
  c5 : w.cell? ⟨N, 5, none⟩ = some (.slice none 0 0)
  c6 : w.cell? ⟨N, 6, none⟩ = some (.slice none 0 0)
  c7 : w.cell? ⟨N, 7, none⟩ = some (.bool false)
theorem RZ.new (w : World) (c : Int) (t : TypeId) : RZ w.heap.size c (w.alloc (.cells #[.int .i64 c, .int .i64 0, .slice none 0 0, .int .i64 0, .slice none 0 0, .slice none 0 0, .slice none 0 0, .bool false] t)) := by
  constructor <;> simp [go_sem]
theorem RZ.keep {N : Nat} {c : Int} {w w' : World} (h : RZ N c w) (hb : Below w.heap.size w w') : RZ N c w' :=
  ⟨Nat.lt_of_lt_of_le h.lt hb.size, by rw [hb.cell (p := ⟨N, 0, none⟩) h.lt]; exact h.c0, by rw [hb.cell (p := ⟨N, 1, none⟩) h.lt]; exact h.c1, by rw [hb.cell (p := ⟨N, 2, none⟩) h.lt]; exact h.c2, by rw [hb.cell (p := ⟨N, 3, none⟩) h.lt]; exact h.c3, by rw [hb.cell (p := ⟨N, 4, none⟩) h.lt]; exact h.c4, by rw [hb.cell (p := ⟨N, 5, none⟩) h.lt]; exact h.c5, by rw [hb.cell (p := ⟨N, 6, none⟩) h.lt]; exact h.c6, by rw [hb.cell (p := ⟨N, 7, none⟩) h.lt]; exact h.c7⟩
theorem eqMsgS_nil (w : World) : Calls Try.prog 31 #[.slice none 0 0, .slice none 0 0] w fun e w' => e = .returned (.bool true) ∧ w' = w := by
  go_enter Try.func31, Try.ntmps31
  go_wp2
  go_loop [5] (fun i => i = .int .i64 0) (fun _ => 0)
  case atStart => rfl
  case round =>
    obtain rfl := hrel
    go_wp2
    go_ret
    exact ⟨rfl, rfl⟩
theorem eqSubS_nil (w : World) : Calls Try.prog 32 #[.slice none 0 0, .slice none 0 0] w fun e w' => e = .returned (.bool true) ∧ w' = w := by
  go_enter Try.func32, Try.ntmps32
  go_wp2
  go_loop [5] (fun i => i = .int .i64 0) (fun _ => 0)
  case atStart => rfl
  case round =>
    obtain rfl := hrel
    go_wp2
    go_ret
    exact ⟨rfl, rfl⟩
theorem eqIntS_nil (w : World) : Calls Try.prog 33 #[.slice none 0 0, .slice none 0 0] w fun e w' => e = .returned (.bool true) ∧ w' = w := by
  go_enter Try.func33, Try.ntmps33
  go_wp2
  go_loop [5] (fun i => i = .int .i64 0) (fun _ => 0)
  case atStart => rfl
  case round =>
    obtain rfl := hrel
    go_wp2
    go_ret
    exact ⟨rfl, rfl⟩
theorem markMsgS_nil (k : Int) (w : World) : Calls Try.prog 34 #[.slice none 0 0, .int .i64 k] w fun e w' => e = .returned (.int .i64 k) ∧ w' = w := by
  go_enter Try.func34, Try.ntmps34
  go_wp2
  go_loop [1, 5] (fun q i => q = .int .i64 k ∧ i = .int .i64 0) (fun _ _ => 0)
  case atStart => exact ⟨rfl, rfl⟩
  case round =>
    obtain ⟨rfl, rfl⟩ := hrel
    go_wp2
    go_ret
    exact ⟨rfl, rfl⟩
theorem markSubS_nil (k : Int) (w : World) : Calls Try.prog 35 #[.slice none 0 0, .int .i64 k] w fun e w' => e = .returned (.int .i64 k) ∧ w' = w := by
  go_enter Try.func35, Try.ntmps35
  go_wp2
  go_loop [1, 5] (fun q i => q = .int .i64 k ∧ i = .int .i64 0) (fun _ _ => 0)
  case atStart => exact ⟨rfl, rfl⟩
  case round =>
    obtain ⟨rfl, rfl⟩ := hrel
    go_wp2
    go_ret
    exact ⟨rfl, rfl⟩
theorem markIntS_nil (k : Int) (w : World) : Calls Try.prog 36 #[.slice none 0 0, .int .i64 k] w fun e w' => e = .returned (.int .i64 k) ∧ w' = w := by
  go_enter Try.func36, Try.ntmps36
  go_wp2
  go_loop [1, 5] (fun q i => q = .int .i64 k ∧ i = .int .i64 0) (fun _ _ => 0)
  case atStart => exact ⟨rfl, rfl⟩
  case round =>
    obtain ⟨rfl, rfl⟩ := hrel
    go_wp2
    go_ret
    exact ⟨rfl, rfl⟩
theorem heldMsgS_nil (k : Int) (w : World) : Calls Try.prog 37 #[.slice none 0 0, .int .i64 k] w fun e w' => e = .returned (.int .i64 k) ∧ w' = w := by
  go_enter Try.func37, Try.ntmps37
  go_wp2
  go_loop [1, 5] (fun q i => q = .int .i64 k ∧ i = .int .i64 0) (fun _ _ => 0)
  case atStart => exact ⟨rfl, rfl⟩
  case round =>
    obtain ⟨rfl, rfl⟩ := hrel
    go_wp2
    go_ret
    exact ⟨rfl, rfl⟩
theorem heldSubS_nil (k : Int) (w : World) : Calls Try.prog 38 #[.slice none 0 0, .int .i64 k] w fun e w' => e = .returned (.int .i64 k) ∧ w' = w := by
  go_enter Try.func38, Try.ntmps38
  go_wp2
  go_loop [1, 5] (fun q i => q = .int .i64 k ∧ i = .int .i64 0) (fun _ _ => 0)
  case atStart => exact ⟨rfl, rfl⟩
  case round =>
    obtain ⟨rfl, rfl⟩ := hrel
    go_wp2
    go_ret
    exact ⟨rfl, rfl⟩
theorem heldIntS_nil (k : Int) (w : World) : Calls Try.prog 39 #[.slice none 0 0, .int .i64 k] w fun e w' => e = .returned (.int .i64 k) ∧ w' = w := by
  go_enter Try.func39, Try.ntmps39
  go_wp2
  go_loop [1, 5] (fun q i => q = .int .i64 k ∧ i = .int .i64 0) (fun _ _ => 0)
  case atStart => exact ⟨rfl, rfl⟩
  case round =>
    obtain ⟨rfl, rfl⟩ := hrel
    go_wp2
    go_ret
    exact ⟨rfl, rfl⟩
theorem eqRing_nil (c : Int) (w : World) : Calls Try.prog 9 #[.agg #[.int .i64 c, .int .i64 0, .slice none 0 0, .int .i64 0, .slice none 0 0, .slice none 0 0, .slice none 0 0, .bool false], .agg #[.int .i64 c, .int .i64 0, .slice none 0 0, .int .i64 0, .slice none 0 0, .slice none 0 0, .slice none 0 0, .bool false]] w fun e w' => e = .returned (.bool true) ∧ Below w.heap.size w w' := by
  go_enter Try.func9, Try.ntmps9
  go_wp2_with (first | (go_at_call 31; refine (eqMsgS_nil _).mono ?_; rintro e w' ⟨rfl, rfl⟩) | (go_at_call 32; refine (eqSubS_nil _).mono ?_; rintro e w' ⟨rfl, rfl⟩) | (go_at_call 33; refine (eqIntS_nil _).mono ?_; rintro e w' ⟨rfl, rfl⟩))
  go_ret
  exact ⟨rfl, bl_alloc (bl_alloc (Below.refl _ _) _) _⟩
theorem markRing_nil (c k : Int) (w : World) : Calls Try.prog 12 #[.agg #[.int .i64 c, .int .i64 0, .slice none 0 0, .int .i64 0, .slice none 0 0, .slice none 0 0, .slice none 0 0, .bool false], .int .i64 k] w fun e w' => e = .returned (.int .i64 k) ∧ Below w.heap.size w w' := by
  go_enter Try.func12, Try.ntmps12
  go_wp2_with (first | (go_at_call 34; refine (markMsgS_nil _ _).mono ?_; rintro e w' ⟨rfl, rfl⟩) | (go_at_call 35; refine (markSubS_nil _ _).mono ?_; rintro e w' ⟨rfl, rfl⟩) | (go_at_call 36; refine (markIntS_nil _ _).mono ?_; rintro e w' ⟨rfl, rfl⟩))
  go_ret
  exact ⟨rfl, bl_alloc (Below.refl _ _) _⟩
theorem heldRing_nil (c k : Int) (w : World) (hk : ¬ k < 0) : Calls Try.prog 13 #[.agg #[.int .i64 c, .int .i64 0, .slice none 0 0, .int .i64 0, .slice none 0 0, .slice none 0 0, .slice none 0 0, .bool false], .int .i64 k] w fun e w' => e = .returned (.int .i64 k) ∧ Below w.heap.size w w' := by
  go_enter Try.func13, Try.ntmps13
  go_wp2_with (first | (go_at_call 37; refine (heldMsgS_nil _ _).mono ?_; rintro e w' ⟨rfl, rfl⟩) | (go_at_call 38; refine (heldSubS_nil _ _).mono ?_; rintro e w' ⟨rfl, rfl⟩) | (go_at_call 39; refine (heldIntS_nil _ _).mono ?_; rintro e w' ⟨rfl, rfl⟩))
  go_ret
  exact ⟨rfl, bl_alloc (Below.refl _ _) _⟩
/-- What NewRing answers: the room, and a code. -/
def newC (c : Int) : Int := if 1 ≤ c ∧ c ≤ 16 then c else 0
def newK (c : Int) : Int := if 1 ≤ c ∧ c ≤ 16 then 0 else 1
theorem l1InR_any (x a b : Int) (w : World) : Calls Try.prog 17 #[.int .i64 x, .int .i64 a, .int .i64 b] w fun e w' => e = .returned (.bool (decide (a ≤ x ∧ x ≤ b))) ∧ w' = w := by
  by_cases h1 : a ≤ x
  · by_cases h2 : x ≤ b
    all_goals
      go_enter Try.func17, Try.ntmps17
      go_wp2
      go_ret
      exact ⟨by simp [h1, h2], rfl⟩
  · go_enter Try.func17, Try.ntmps17
    go_wp2
    go_ret
    refine ⟨?_, rfl⟩
    have h2 : decide (a ≤ x) = false := by simp only [decide_eq_false_iff_not]; omega
    simp only [h2, Bool.false_and]
    rfl
theorem specNewRing_any (c : Int) (w : World) : Calls Try.prog 10 #[.int .i64 c] w fun e w' => e = .returned (.tuple #[.agg #[.int .i64 (newC c), .int .i64 0, .slice none 0 0, .int .i64 0, .slice none 0 0, .slice none 0 0, .slice none 0 0, .bool false], .int .i64 (newK c)]) ∧ Below w.heap.size w w' := by
  by_cases h : 1 ≤ c ∧ c ≤ 16
  · have e1 : newC c = c := by unfold newC; rw [if_pos h]
    have e2 : newK c = 0 := by unfold newK; rw [if_pos h]
    have h' : decide (1 ≤ c ∧ c ≤ 16) = true := by simp [h]
    rw [e1, e2]
    clear e1 e2
    go_enter Try.func10, Try.ntmps10
    go_wp2_with (go_at_call 17; refine (l1InR_any _ _ _ _).mono ?_; rintro e w' ⟨rfl, rfl⟩; rw [h'])
    refine bodyPost_ret (v := .tuple #[.agg #[.int .i64 c, .int .i64 0, .slice none 0 0, .int .i64 0, .slice none 0 0, .slice none 0 0, .slice none 0 0, .bool false], .int .i64 0]) (by simp [results, Try.results10, go_sem]) rfl ⟨rfl, ?_⟩
    repeat (first | exact Below.refl _ _ | apply Below.drew | apply bl_alloc)
  · have e1 : newC c = 0 := by unfold newC; rw [if_neg h]
    have e2 : newK c = 1 := by unfold newK; rw [if_neg h]
    have h' : decide (1 ≤ c ∧ c ≤ 16) = false := by simp only [decide_eq_false_iff_not]; exact h
    rw [e1, e2]
    clear e1 e2
    go_enter Try.func10, Try.ntmps10
    go_wp2_with (go_at_call 17; refine (l1InR_any _ _ _ _).mono ?_; rintro e w' ⟨rfl, rfl⟩; rw [h'])
    refine bodyPost_ret (v := .tuple #[.agg #[.int .i64 0, .int .i64 0, .slice none 0 0, .int .i64 0, .slice none 0 0, .slice none 0 0, .slice none 0 0, .bool false], .int .i64 1]) (by simp [results, Try.results10, go_sem]) rfl ⟨rfl, ?_⟩
    repeat (first | exact Below.refl _ _ | apply Below.drew | apply bl_alloc)
theorem implNewRing_any (c : Int) (w : World) : Calls Try.prog 11 #[.int .i64 c] w fun e w' => e = .returned (.tuple #[.agg #[.int .i64 (newC c), .int .i64 0, .slice none 0 0, .int .i64 0, .slice none 0 0, .slice none 0 0, .slice none 0 0, .bool false], .int .i64 (newK c)]) ∧ Below w.heap.size w w' := by
  by_cases h : 1 ≤ c ∧ c ≤ 16
  · have e1 : newC c = c := by unfold newC; rw [if_pos h]
    have e2 : newK c = 0 := by unfold newK; rw [if_pos h]
    have h1 : ¬ c < 1 := by omega
    have h2 : ¬ 16 < c := by omega
    rw [e1, e2]
    clear e1 e2 h
    go_enter Try.func11, Try.ntmps11
    go_wp2
    refine bodyPost_ret (v := .tuple #[.agg #[.int .i64 c, .int .i64 0, .slice none 0 0, .int .i64 0, .slice none 0 0, .slice none 0 0, .slice none 0 0, .bool false], .int .i64 0]) (by simp [results, Try.results11, go_sem]) rfl ⟨rfl, ?_⟩
    repeat (first | exact Below.refl _ _ | apply Below.drew | apply bl_alloc)
  · have e1 : newC c = 0 := by unfold newC; rw [if_neg h]
    have e2 : newK c = 1 := by unfold newK; rw [if_neg h]
    rw [e1, e2]
    clear e1 e2
    by_cases h1 : c < 1
    · clear h
      go_enter Try.func11, Try.ntmps11
      go_wp2
      refine bodyPost_ret (v := .tuple #[.agg #[.int .i64 0, .int .i64 0, .slice none 0 0, .int .i64 0, .slice none 0 0, .slice none 0 0, .slice none 0 0, .bool false], .int .i64 1]) (by simp [results, Try.results11, go_sem]) rfl ⟨rfl, ?_⟩
      repeat (first | exact Below.refl _ _ | apply Below.drew | apply bl_alloc)
    · have h2 : 16 < c := by omega
      clear h
      go_enter Try.func11, Try.ntmps11
      go_wp2
      refine bodyPost_ret (v := .tuple #[.agg #[.int .i64 0, .int .i64 0, .slice none 0 0, .int .i64 0, .slice none 0 0, .slice none 0 0, .slice none 0 0, .bool false], .int .i64 1]) (by simp [results, Try.results11, go_sem]) rfl ⟨rfl, ?_⟩
      repeat (first | exact Below.refl _ _ | apply Below.drew | apply bl_alloc)
set_option maxRecDepth 100000 in
set_option maxHeartbeats 2000000 in
theorem exactNewRing_any (c : Int) (w : World) : Calls Try.prog 4 #[.int .i64 c] w fun e w' => e = .returned (.bool true) ∧ Below w.heap.size w w' := by
  have HS := hidOf' (specNewRing_any c)
  have HI := hidOf' (implNewRing_any c)
  generalize newC c = nc at HS HI
  generalize newK c = nk at HS HI
  go_enter Try.func4, Try.ntmps4
  go_wp2_with fail
  refine (HS.out _).mono ?_
  rintro e w1 ⟨rfl, hb1⟩
  go_wp2_with fail
  generalize hW1 : w1.alloc (.cells #[.int .i64 nc, .int .i64 0, .slice none 0 0, .int .i64 0, .slice none 0 0, .slice none 0 0, .slice none 0 0, .bool false] 32) = W1
  have b1 : Below w1.heap.size w1 W1 := by subst hW1; exact bl_alloc (Below.refl _ _) _
  have B1 := bl_trans hb1 b1
  have r1 : RZ w1.heap.size nc W1 := by subst hW1; exact RZ.new w1 nc _
  clear hb1 b1 hW1
  refine (HI.out _).mono ?_
  rintro e w2 ⟨rfl, hb2⟩
  obtain ⟨plt, p0, p1, p2, p3, p4, p5, p6, p7⟩ := id (r1.keep hb2)
  go_wp2_with fail
  generalize hW2 : w2.alloc (.cells #[.int .i64 nc, .int .i64 0, .slice none 0 0, .int .i64 0, .slice none 0 0, .slice none 0 0, .slice none 0 0, .bool false] 32) = W2
  have b2 : Below w2.heap.size w2 W2 := by subst hW2; exact bl_alloc (Below.refl _ _) _
  have B2 := bl_trans B1 (bl_trans hb2 b2)
  have r2 : RZ w2.heap.size nc W2 := by subst hW2; exact RZ.new w2 nc _
  have q1 := r1.keep (bl_trans hb2 b2)
  clear hb2 b2 B1 r1 hW2
  refine (eqRing_nil nc _).mono ?_
  rintro e w3 ⟨rfl, hb3⟩
  have B3 := bl_trans B2 hb3
  have q3 := q1.keep hb3
  have r3 := r2.keep hb3
  clear plt p0 p1 p2 p3 p4 p5 p6 p7 B2 q1 r2 hb3
  obtain ⟨_, s0, s1, s2, s3, s4, s5, s6, s7⟩ := id r3
  go_wp2_with fail
  refine (markRing_nil nc _ _).mono ?_
  rintro e w4 ⟨rfl, hb4⟩
  have B4 := bl_trans B3 hb4
  have q4 := q3.keep hb4
  have r4 := r3.keep hb4
  clear s0 s1 s2 s3 s4 s5 s6 s7 B3 q3 r3 hb4
  obtain ⟨_, s0, s1, s2, s3, s4, s5, s6, s7⟩ := id r4
  go_wp2_with fail
  refine (heldRing_nil nc _ _ (by omega)).mono ?_
  rintro e w5 ⟨rfl, hb5⟩
  have B5 := bl_trans B4 hb5
  have q5 := q4.keep hb5
  have r5 := r4.keep hb5
  clear s0 s1 s2 s3 s4 s5 s6 s7 B4 q4 r4 hb5
  go_wp2_with fail
  refine (HI.out _).mono ?_
  rintro e w6 ⟨rfl, hb6⟩
  obtain ⟨plt, p0, p1, p2, p3, p4, p5, p6, p7⟩ := id (q5.keep hb6)
  go_wp2_with fail
  generalize hW6 : w6.alloc (.cells #[.int .i64 nc, .int .i64 0, .slice none 0 0, .int .i64 0, .slice none 0 0, .slice none 0 0, .slice none 0 0, .bool false] 32) = W6
  have b6 : Below w6.heap.size w6 W6 := by subst hW6; exact bl_alloc (Below.refl _ _) _
  have B6 := bl_trans B5 (bl_trans hb6 b6)
  have t6 : RZ w6.heap.size nc W6 := by subst hW6; exact RZ.new w6 nc _
  have q6 := q5.keep (bl_trans hb6 b6)
  have r6 := r5.keep (bl_trans hb6 b6)
  clear hb6 b6 B5 q5 r5 HS HI hW6
  refine (eqRing_nil nc _).mono ?_
  rintro e w7 ⟨rfl, hb7⟩
  have B7 := bl_trans B6 hb7
  have r7 := r6.keep hb7
  clear plt p0 p1 p2 p3 p4 p5 p6 p7 B6 q6 r6 t6 hb7
  obtain ⟨_, s0, s1, s2, s3, s4, s5, s6, s7⟩ := id r7
  go_wp2_with fail
  refine (heldRing_nil nc _ _ (by omega)).mono ?_
  rintro e w8 ⟨rfl, hb8⟩
  have B8 := bl_trans B7 hb8
  go_wp2
  go_ret
  exact ⟨rfl, B8⟩
end Go.Proofs.Ytbhdjcggcgddfab
