/-
  Walks of the program's terms: which are right, how many an Op takes.
-/
import Derived.Test.YthbelehhhjngfaaDoorFM
import Derived.Test.YthbelehhhjngfaaDoorH6
namespace Go.Proofs.YthbelehhhjngfaaDoor
open Go.RowKit Pl Il

theorem isPart_any (s : ByteArray) (w : World) (hs : s.size ≤ maxLen) :
    Calls Tryd.prog 45 #[.string s] w fun e w' => e = .returned (.bool (partB s)) ∧ w' = w := by
  unfold maxLen at hs
  by_cases h1 : (s.size : Int) < 1
  · have hq := part_size s (by omega)
    go_enter Tryd.func45, Tryd.ntmps45
    go_wp2
    go_ret
    first | exact ⟨rbool hq.symm, rfl⟩ | exact ⟨rfl, rfl⟩
  by_cases h2 : 10 < (s.size : Int)
  · have hq := part_size s (by omega)
    go_enter Tryd.func45, Tryd.ntmps45
    go_wp2
    go_ret
    first | exact ⟨rbool hq.symm, rfl⟩ | exact ⟨rfl, rfl⟩
  go_enter Tryd.func45, Tryd.ntmps45
  go_wp2
  go_loop [3] (fun i => ∃ k : Nat, k ≤ s.size ∧ i = .int .i64 k ∧ letL (s.data.toList.take k) = true) (fun i => s.size - (intOf i).toNat)
  case atStart => exact ⟨0, Nat.zero_le _, rfl, rfl⟩
  case round =>
    obtain ⟨k, hk, rfl, hp⟩ := hrel
    by_cases hlt : k < s.size
    · go_wp2
      all_goals first
        | (go_ret; exact ⟨rbool (part_bad s k hlt (let_no _ (by omega))).symm, rfl⟩)
        | (go_round
           case rel => exact ⟨k + 1, by omega, by go_num, let_step s k hlt hp (let_yes _ (by omega) (by omega))⟩
           case measure => simp [intOf]; omega)
    · go_wp2
      go_ret
      exact ⟨rbool (part_all s k (by omega) (by omega) (by omega) hp).symm, rfl⟩
theorem countTaken_any (op : Int) (w : World) : Calls Tryd.prog 42 #[.int .i64 op] w fun e w' => e = .returned (.int .i64 (cntM op : Int)) ∧ w' = w := by
  by_cases h1 : op = 8
  · subst h1
    go_enter Tryd.func42, Tryd.ntmps42
    go_wp2
    go_ret
    exact ⟨rfl, rfl⟩
  by_cases h2 : op = 9
  · subst h2
    go_enter Tryd.func42, Tryd.ntmps42
    go_wp2
    go_ret
    exact ⟨rfl, rfl⟩
  by_cases h3 : op = 10
  · subst h3
    go_enter Tryd.func42, Tryd.ntmps42
    go_wp2
    go_ret
    exact ⟨rfl, rfl⟩
  have e1 : (op == 8) = false := by simp [h1]
  have e2 : (op == 9) = false := by simp [h2]
  have e3 : (op == 10) = false := by simp [h3]
  have hc : cntM op = 0 := by simp [cntM, h1, h2, h3]
  rw [hc]
  go_enter Tryd.func42, Tryd.ntmps42
  go_wp2
  go_ret
  exact ⟨rfl, rfl⟩
set_option maxHeartbeats 1000000 in
theorem termOk_any (t : Tm) (w : World) (hs : t.2.2.size ≤ maxLen) :
    Calls Tryd.prog 41 #[.agg #[.int .i64 t.1, .int .i64 t.2.1, .string t.2.2]] w fun e w' => e = .returned (.bool (okTm t)) ∧ Below w.heap.size w w' := by
  obtain ⟨op, n, s⟩ := t
  simp only at hs ⊢
  go_enter Tryd.func41, Tryd.ntmps41
  go_wp2_with (go_at_call 45; refine (isPart_any s _ hs).mono ?_; rintro e w1 ⟨rfl, rfl⟩)
  all_goals go_ret
  all_goals refine ⟨rbool ?_, bl_alloc (Below.refl _ _) _⟩
  all_goals first | (simp_all [okTm]; done) | (simp_all [okTm]; omega)
end Go.Proofs.YthbelehhhjngfaaDoor
