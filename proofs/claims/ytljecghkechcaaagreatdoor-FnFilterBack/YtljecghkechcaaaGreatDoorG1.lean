/-
  The walk of the specification's reader of a number's text.
-/
import Derived.Test.YtljecghkechcaaaGreatDoorA1
import Derived.Test.YtljecghkechcaaaGreatDoorNum2
namespace Go.Proofs.YtljecghkechcaaaGreatDoor
open Go.RowKit Pl Nu

theorem int_eq {a b : Int} (h : a = b) : Value.int .i64 a = Value.int .i64 b := by rw [h]

set_option maxHeartbeats 1000000 in
theorem number_any (s : ByteArray) (w : World) (hs : s.size ≤ maxLen) :
    Calls Tryz.prog 38 #[.string s] w fun e w' => e = .returned (numV (numL s.data.toList)) ∧ w' = w := by
  unfold maxLen at hs
  go_enter Tryz.func38, Tryz.ntmps38
  go_wp2_with (go_at_call 47; refine (l1In_any _ _ _ _).mono ?_; rintro e w' ⟨rfl, rfl⟩)
  · go_ret2
    exact ⟨ret_none (neg_nought ‹_› ‹_› (by rw [ext_size]; assumption) ‹_›), rfl⟩
  · go_ret2
    exact ⟨ret_none (neg_nought ‹_› ‹_› (by rw [ext_size]; assumption) ‹_›), rfl⟩
  · have hR := neg_rest (s := s) ‹_› ‹_› ‹_› (by rw [ext_size]; assumption) ‹_›
    go_loop [5, 6] (fun n i => ∃ k : Nat, k ≤ (s.size - 1) ∧ i = .int .i64 k ∧ ∃ u : Nat, n = .int .i64 u ∧ valL 0 ((s.extract 1 s.size).data.toList.take k) = some u) (fun _ i => (s.size - 1) - (intOf i).toNat)
    case atStart => exact ⟨0, Nat.zero_le _, rfl, 0, rfl, rfl⟩
    case round =>
      obtain ⟨k, hk, rfl, u, rfl, hv⟩ := hrel
      have hl9 := hR.len
      have hu : (u : Int) ≤ 999999999 := by have := val_small (t := (s.extract 1 s.size)) (by rw [ext_size] at *; omega) hv; omega
      have Hv : Hid _ := hv
      have HR : Hid _ := hR
      clear hv hR hl9
      by_cases hlt : k < (s.size - 1)
      · have hk' : k < (s.extract 1 s.size).size := by rw [ext_size]; exact hlt
        go_wp2
        all_goals first
          | (go_ret2; exact ⟨ret_none (HR.out.none hk' (by omega)), rfl⟩)
          | (go_round
             case rel => exact ⟨k + 1, by omega, by go_num, _, (int_eq (by omega)), val_next hk' Hv.out (by omega) (by omega)⟩
             case measure => simp [intOf]; omega)
      · have hk' : ¬ k < (s.extract 1 s.size).size := by rw [ext_size]; exact hlt
        go_wp2
        go_ret2
        exact ⟨ret_some (HR.out.some hk' Hv.out), rfl⟩
  · go_ret2
    exact ⟨ret_none (neg_len ‹_› ‹_› ‹_›), rfl⟩
  · have hR := pos_rest (s := s) ‹_› ‹_› ‹_› (.inr ‹_›)
    go_loop [5, 6] (fun n i => ∃ k : Nat, k ≤ s.size ∧ i = .int .i64 k ∧ ∃ u : Nat, n = .int .i64 u ∧ valL 0 (s.data.toList.take k) = some u) (fun _ i => s.size - (intOf i).toNat)
    case atStart => exact ⟨0, Nat.zero_le _, rfl, 0, rfl, rfl⟩
    case round =>
      obtain ⟨k, hk, rfl, u, rfl, hv⟩ := hrel
      have hl9 := hR.len
      have hu : (u : Int) ≤ 999999999 := by have := val_small (t := s) (by omega) hv; omega
      have Hv : Hid _ := hv
      have HR : Hid _ := hR
      clear hv hR hl9
      by_cases hlt : k < s.size
      · have hk' : k < s.size := by exact hlt
        go_wp2
        all_goals first
          | (go_ret2; exact ⟨ret_none (HR.out.none hk' (by omega)), rfl⟩)
          | (go_round
             case rel => exact ⟨k + 1, by omega, by go_num, _, (int_eq (by omega)), val_next hk' Hv.out (by omega) (by omega)⟩
             case measure => simp [intOf]; omega)
      · have hk' : ¬ k < s.size := by exact hlt
        go_wp2
        go_ret2
        exact ⟨ret_some (HR.out.some hk' Hv.out), rfl⟩
  · go_ret2
    exact ⟨ret_none (pos_nought ‹_› ‹_› ‹_› ‹_›), rfl⟩
  · have hR := pos_rest (s := s) ‹_› ‹_› ‹_› (.inl ‹_›)
    go_loop [5, 6] (fun n i => ∃ k : Nat, k ≤ s.size ∧ i = .int .i64 k ∧ ∃ u : Nat, n = .int .i64 u ∧ valL 0 (s.data.toList.take k) = some u) (fun _ i => s.size - (intOf i).toNat)
    case atStart => exact ⟨0, Nat.zero_le _, rfl, 0, rfl, rfl⟩
    case round =>
      obtain ⟨k, hk, rfl, u, rfl, hv⟩ := hrel
      have hl9 := hR.len
      have hu : (u : Int) ≤ 999999999 := by have := val_small (t := s) (by omega) hv; omega
      have Hv : Hid _ := hv
      have HR : Hid _ := hR
      clear hv hR hl9
      by_cases hlt : k < s.size
      · have hk' : k < s.size := by exact hlt
        go_wp2
        all_goals first
          | (go_ret2; exact ⟨ret_none (HR.out.none hk' (by omega)), rfl⟩)
          | (go_round
             case rel => exact ⟨k + 1, by omega, by go_num, _, (int_eq (by omega)), val_next hk' Hv.out (by omega) (by omega)⟩
             case measure => simp [intOf]; omega)
      · have hk' : ¬ k < s.size := by exact hlt
        go_wp2
        go_ret2
        exact ⟨ret_some (HR.out.some hk' Hv.out), rfl⟩
  · go_ret2
    exact ⟨ret_none (pos_len ‹_› ‹_› ‹_›), rfl⟩
  · go_ret2
    exact ⟨ret_none (num_nil ‹_›), rfl⟩
end Go.Proofs.YtljecghkechcaaaGreatDoor
