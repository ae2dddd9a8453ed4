/-
  Walks: the specification's own ReadMsg.
-/
import Derived.Test.YtpfnbnlipfobiafDoorG4
namespace Go.Proofs.YtpfnbnlipfobiafDoor
open Go.RowKit Pl Nu

set_option maxHeartbeats 2000000 in
theorem specRead_any (s : ByteArray) (w : World) (hs : s.size ≤ 1048576) :
    Calls Tryd.prog 10 #[.string s] w fun e w' => e = .returned (msgV (readM s)) ∧ Below w.heap.size w w' := by
  have hm : s.size ≤ maxLen := by unfold maxLen; omega
  have hm' : (s.extract 1 (s.size - 1)).size ≤ maxLen := by have := mid_size s; unfold mid at this; unfold maxLen; omega
  go_enter Tryd.func10, Tryd.ntmps10
  go_wp2_with fail
  refine (number_any s _ hm).mono ?_
  rintro e w1 ⟨rfl, rfl⟩
  cases hn : numL s.data.toList with
  | some n =>
    have Hr : Hid _ := read_num hn
    unfold numV
    go_wp2
    refine bodyPost_ret (v := .tuple #[.agg #[.int .i64 1, .int .i64 n, .string ⟨#[]⟩], .bool true]) (by simp [results, Tryd.results10, go_sem]) rfl ⟨by rw [Hr.out]; rfl, ?_⟩
    exact bl_alloc (Below.refl _ _) _
  | none =>
    have Hn : Hid _ := hn
    unfold numV
    clear hn
    cases hp : plainB (s.extract 1 (s.size - 1))
    · have Hb : Hid _ := read_bad Hn.out hp
      go_wp2_with (go_at_call 17; refine (l1Plain_any _ _ hm').mono ?_; rintro e w' ⟨rfl, rfl⟩)
      all_goals refine bodyPost_ret (v := .tuple #[.agg #[.int .i64 0, .int .i64 0, .string ⟨#[]⟩], .bool false]) (by simp [results, Tryd.results10, go_sem]) rfl ⟨by rw [Hb.out]; rfl, bl_alloc (Below.refl _ _) _⟩
    · have Hp : Hid (plainB (mid s) = true) := hp
      go_wp2_with (go_at_call 17; refine (l1Plain_any _ _ hm').mono ?_; rintro e w' ⟨rfl, rfl⟩)
      · have hq := q_yes' (s := s) ‹_› ‹_› (by omega) ‹_› ‹_›
        refine bodyPost_ret (v := .tuple #[.agg #[.int .i64 2, .int .i64 0, .string (mid s)], .bool true]) (by simp [results, Tryd.results10, go_sem, mid]) rfl ⟨by rw [read_text Hn.out hq Hp.out]; rfl, bl_alloc (Below.refl _ _) _⟩
      · have hq := q_last' (s := s) (by omega) ‹_›
        refine bodyPost_ret (v := .tuple #[.agg #[.int .i64 0, .int .i64 0, .string ⟨#[]⟩], .bool false]) (by simp [results, Tryd.results10, go_sem]) rfl ⟨by rw [read_no Hn.out hq]; rfl, bl_alloc (Below.refl _ _) _⟩
      · have hq := q_first (s := s) ‹_› ‹_›
        refine bodyPost_ret (v := .tuple #[.agg #[.int .i64 0, .int .i64 0, .string ⟨#[]⟩], .bool false]) (by simp [results, Tryd.results10, go_sem]) rfl ⟨by rw [read_no Hn.out hq]; rfl, bl_alloc (Below.refl _ _) _⟩
      · have hq := q_short (s := s) ‹_›
        refine bodyPost_ret (v := .tuple #[.agg #[.int .i64 0, .int .i64 0, .string ⟨#[]⟩], .bool false]) (by simp [results, Tryd.results10, go_sem]) rfl ⟨by rw [read_no Hn.out hq]; rfl, bl_alloc (Below.refl _ _) _⟩
end Go.Proofs.YtpfnbnlipfobiafDoor
