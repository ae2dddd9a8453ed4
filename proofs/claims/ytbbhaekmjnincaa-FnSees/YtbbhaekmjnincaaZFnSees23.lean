/-
  Walks of the functions that tell a right message.
  The walk of the function that makes a message's body.
  The walk of the function that makes a message's body: texts, and what is neither.
  Walks: a right message told by the program's own function; what the law's own functions answer.
-/
import Derived.Test.YtbbhaekmjnincaaRows
import Derived.Test.YtbbhaekmjnincaaZFnSees1
import Derived.WalkKit
import Derived.WalkSpells
import Derived.WalkLawsBesides
import Derived.RowKit3
import Derived.Deep.RegionHeld3
import Derived.Deep.RegionWith
namespace Go.Proofs.Ytbbhaekmjnincaa
open Go.RowKit Pl

theorem l1Plain_any (s : ByteArray) (w : World) (hs : s.size ≤ maxLen) :
    Calls Try.prog 37 #[.string s] w fun e w' => e = .returned (.bool (plainB s)) ∧ w' = w := by
  unfold maxLen at hs
  go_enter Try.func37, Try.ntmps37
  go_wp2
  · go_ret
    exact ⟨ret_bool (plain_long s (by assumption)).symm, rfl⟩
  go_loop [3] (fun i => ∃ k : Nat, k ≤ s.size ∧ i = .int .i64 k ∧ plainL (s.data.toList.take k) = true) (fun i => s.size - (intOf i).toNat)
  case atStart => exact ⟨0, Nat.zero_le _, rfl, rfl⟩
  case round =>
    obtain ⟨k, hk, rfl, hp⟩ := hrel
    by_cases hlt : k < s.size
    · go_wp2
      all_goals first
        | (go_ret; exact ⟨ret_bool (plain_bad s k hlt (good_no _ (by (try simp only [beq_iff_eq] at *); omega))).symm, rfl⟩)
        | (go_round
           case rel => exact ⟨k + 1, by omega, by go_num, plain_step s k hlt hp (good_yes _ (by omega) (by omega) (by (try simp only [beq_eq_false_iff_ne] at *); omega))⟩
           case measure => simp [intOf]; omega)
    · go_wp2
      go_ret
      exact ⟨ret_bool (plain_all s k (by omega) (by omega) hp).symm, rfl⟩

theorem right_text (s : ByteArray) (w : World) (hs : s.size ≤ maxLen) :
    Calls Try.prog 72 #[.string s] w fun e w' => e = .returned (.bool (plainB s)) ∧ w' = w := by
  unfold maxLen at hs
  go_enter Try.func72, Try.ntmps72
  go_wp2
  · go_ret
    exact ⟨ret_bool (plain_long s (by assumption)).symm, rfl⟩
  go_loop [3] (fun i => ∃ k : Nat, k ≤ s.size ∧ i = .int .i64 k ∧ plainL (s.data.toList.take k) = true) (fun i => s.size - (intOf i).toNat)
  case atStart => exact ⟨0, Nat.zero_le _, rfl, rfl⟩
  case round =>
    obtain ⟨k, hk, rfl, hp⟩ := hrel
    by_cases hlt : k < s.size
    · go_wp2
      all_goals first
        | (go_ret; exact ⟨ret_bool (plain_bad s k hlt (good_no _ (by (try simp only [beq_iff_eq] at *); omega))).symm, rfl⟩)
        | (go_round
           case rel => exact ⟨k + 1, by omega, by go_num, plain_step s k hlt hp (good_yes _ (by omega) (by omega) (by (try simp only [beq_eq_false_iff_ne] at *); omega))⟩
           case measure => simp [intOf]; omega)
    · go_wp2
      go_ret
      exact ⟨ret_bool (plain_all s k (by omega) (by omega) hp).symm, rfl⟩

theorem right_num (n : Int) (w : World) :
    Calls Try.prog 69 #[.int .i64 n] w fun e w' => e = .returned (.bool (okNum n)) ∧ w' = w := by
  go_enter Try.func69, Try.ntmps69
  go_wp2
  all_goals go_ret
  all_goals (refine ⟨ret_bool ?_, rfl⟩; simp [okNum]; try omega)

theorem l1In_any (n a b : Int) (w : World) :
    Calls Try.prog 23 #[.int .i64 n, .int .i64 a, .int .i64 b] w fun e w' => e = .returned (.bool (decide (a ≤ n) && decide (n ≤ b))) ∧ w' = w := by
  go_enter Try.func23, Try.ntmps23
  go_wp2
  all_goals go_ret
  all_goals (refine ⟨ret_bool ?_, rfl⟩; simp; try omega)

theorem msg_num (n : Int) (w : World) :
    Calls Try.prog 68 #[.int .i64 n] w fun e w' => e = .returned (.agg #[.int .i64 1, .int .i64 n, .string ⟨#[]⟩]) ∧ w' = w.alloc (.cells #[.int .i64 1, .int .i64 n, .string ⟨#[]⟩] 25) := by
  go_enter Try.func68, Try.ntmps68
  go_wp2
  refine bodyPost_ret (v := .agg #[.int .i64 1, .int .i64 n, .string ⟨#[]⟩]) (by simp [results, Try.results68, go_sem]) rfl ⟨rfl, ?_⟩
  rfl

theorem msg_text (s : ByteArray) (w : World) :
    Calls Try.prog 71 #[.string s] w fun e w' => e = .returned (.agg #[.int .i64 2, .int .i64 0, .string s]) ∧ w' = w.alloc (.cells #[.int .i64 2, .int .i64 0, .string s] 25) := by
  go_enter Try.func71, Try.ntmps71
  go_wp2
  refine bodyPost_ret (v := .agg #[.int .i64 2, .int .i64 0, .string s]) (by simp [results, Try.results71, go_sem]) rfl ⟨rfl, ?_⟩
  rfl

theorem specMsgOk_any (k n : Int) (s : ByteArray) (w : World) (hs : s.size ≤ maxLen) :
    Calls Try.prog 22 #[.agg #[.int .i64 k, .int .i64 n, .string s]] w fun e w' => e = .returned (.bool (okB k n s)) ∧ Below w.heap.size w w' := by
  go_enter Try.func22, Try.ntmps22
  go_wp2_with (first | (go_at_call 23; refine (l1In_any _ _ _ _).mono ?_; rintro e w' ⟨rfl, rfl⟩) | (go_at_call 37; refine (l1Plain_any _ _ hs).mono ?_; rintro e w' ⟨rfl, rfl⟩))
  · go_ret
    exact ⟨ret_bool (ok_num (by assumption) (by assumption)).symm, bl_alloc (Below.refl _ _) _⟩
  · go_ret
    exact ⟨ret_bool (ok_numNo (by assumption) (by assumption)).symm, bl_alloc (Below.refl _ _) _⟩
  · have hn : n = 0 := by assumption
    subst hn
    go_ret
    exact ⟨ret_bool (ok_text (by assumption) (by assumption)).symm, bl_alloc (Below.refl _ _) _⟩
  · go_ret
    exact ⟨ret_bool (ok_textNo (by assumption) (by assumption) (by assumption)).symm, bl_alloc (Below.refl _ _) _⟩
  · go_ret
    exact ⟨ret_bool (ok_none (by assumption) (by assumption)).symm, bl_alloc (Below.refl _ _) _⟩

end Go.Proofs.Ytbbhaekmjnincaa
namespace Go.Proofs.Ytbbhaekmjnincaa
open Go.RowKit Pl

theorem meth_msg_num (n : Int) (w : World) : (method 213 86 (.int .i64 n) "loop.example/g00098/impl.msg").run Try.prog w = .ok (68, .int .i64 n) w := by kernel_rfl
theorem meth_right_num (n : Int) (w : World) : (method 213 86 (.int .i64 n) "loop.example/g00098/impl.right").run Try.prog w = .ok (69, .int .i64 n) w := by kernel_rfl
theorem meth_msg_text (s : ByteArray) (w : World) : (method 213 87 (.string s) "loop.example/g00098/impl.msg").run Try.prog w = .ok (71, .string s) w := by kernel_rfl
theorem meth_right_text (s : ByteArray) (w : World) : (method 213 87 (.string s) "loop.example/g00098/impl.right").run Try.prog w = .ok (72, .string s) w := by kernel_rfl

def yes (t : TypeId) (v : Value) : Ending := .returned (.tuple #[.iface t v, .bool true])
def no : Ending := .returned (.tuple #[.nilIface, .bool false])

theorem body_num_yes (n : Int) (s : ByteArray) (w : World) (hs : s.toList = []) (hn : okNum n = true) :
    Calls Try.prog 29 #[.agg #[.int .i64 1, .int .i64 n, .string s]] w fun e w' => e = yes 86 (.int .i64 n) ∧ Below w.heap.size w w' := by
  have m1 := meth_msg_num n
  have m2 := meth_right_num n
  go_enter Try.func29, Try.ntmps29
  go_wp2_with fail
  first | (go_region_with (first | (go_at_call 68; refine (msg_num _ _).mono ?_; rintro e w' ⟨rfl, rfl⟩) | (go_at_call 69; refine (right_num _ _).mono ?_; rintro e w' ⟨rfl, rfl⟩))) | fail
  all_goals
    go_wp2
    go_ret2
    exact ⟨rfl, by repeat (first | exact Below.refl _ _ | apply Below.drew | apply bl_alloc)⟩

theorem body_num_no (n : Int) (s : ByteArray) (w : World) (hs : s.toList = []) (hn : okNum n = false) :
    Calls Try.prog 29 #[.agg #[.int .i64 1, .int .i64 n, .string s]] w fun e w' => e = no ∧ Below w.heap.size w w' := by
  have m1 := meth_msg_num n
  have m2 := meth_right_num n
  go_enter Try.func29, Try.ntmps29
  go_wp2_with fail
  first | (go_region_with (first | (go_at_call 68; refine (msg_num _ _).mono ?_; rintro e w' ⟨rfl, rfl⟩) | (go_at_call 69; refine (right_num _ _).mono ?_; rintro e w' ⟨rfl, rfl⟩))) | fail
  all_goals
    go_wp2
    go_ret2
    exact ⟨rfl, by repeat (first | exact Below.refl _ _ | apply Below.drew | apply bl_alloc)⟩

theorem body_num_not (n : Int) (s : ByteArray) (w : World) (hs : ¬ s.toList = []) :
    Calls Try.prog 29 #[.agg #[.int .i64 1, .int .i64 n, .string s]] w fun e w' => e = no ∧ Below w.heap.size w w' := by
  have m1 := meth_msg_num n
  have m2 := meth_right_num n
  go_enter Try.func29, Try.ntmps29
  go_wp2_with fail
  first | (go_region_with (first | (go_at_call 68; refine (msg_num _ _).mono ?_; rintro e w' ⟨rfl, rfl⟩) | (go_at_call 69; refine (right_num _ _).mono ?_; rintro e w' ⟨rfl, rfl⟩))) | fail
  all_goals
    go_wp2
    go_ret2
    exact ⟨rfl, by repeat (first | exact Below.refl _ _ | apply Below.drew | apply bl_alloc)⟩
end Go.Proofs.Ytbbhaekmjnincaa
namespace Go.Proofs.Ytbbhaekmjnincaa
open Go.RowKit Pl

theorem body_text_yes (s : ByteArray) (w : World) (hm : s.size ≤ maxLen) (hn : plainB s = true) :
    Calls Try.prog 29 #[.agg #[.int .i64 2, .int .i64 0, .string s]] w fun e w' => e = yes 87 (.string s) ∧ Below w.heap.size w w' := by
  have m1 := meth_msg_text s
  have m2 := meth_right_text s
  go_enter Try.func29, Try.ntmps29
  go_wp2_with fail
  first | (go_region_with (first | (go_at_call 71; refine (msg_text _ _).mono ?_; rintro e w' ⟨rfl, rfl⟩) | (go_at_call 72; refine (right_text _ _ hm).mono ?_; rintro e w' ⟨rfl, rfl⟩))) | fail
  all_goals
    go_wp2
    go_ret2
    exact ⟨rfl, by repeat (first | exact Below.refl _ _ | apply Below.drew | apply bl_alloc)⟩

theorem body_text_no (s : ByteArray) (w : World) (hm : s.size ≤ maxLen) (hn : plainB s = false) :
    Calls Try.prog 29 #[.agg #[.int .i64 2, .int .i64 0, .string s]] w fun e w' => e = no ∧ Below w.heap.size w w' := by
  have m1 := meth_msg_text s
  have m2 := meth_right_text s
  go_enter Try.func29, Try.ntmps29
  go_wp2_with fail
  first | (go_region_with (first | (go_at_call 71; refine (msg_text _ _).mono ?_; rintro e w' ⟨rfl, rfl⟩) | (go_at_call 72; refine (right_text _ _ hm).mono ?_; rintro e w' ⟨rfl, rfl⟩))) | fail
  all_goals
    go_wp2
    go_ret2
    exact ⟨rfl, by repeat (first | exact Below.refl _ _ | apply Below.drew | apply bl_alloc)⟩

theorem body_text_not (n : Int) (s : ByteArray) (w : World) (hn : ¬ n = 0) :
    Calls Try.prog 29 #[.agg #[.int .i64 2, .int .i64 n, .string s]] w fun e w' => e = no ∧ Below w.heap.size w w' := by
  have m1 := meth_msg_text s
  have m2 := meth_right_text s
  have hb : ((0 : Int) == n) = false := by simp; omega
  go_enter Try.func29, Try.ntmps29
  go_wp2_with fail
  first | (go_region_with (first | (go_at_call 71; refine (msg_text _ _).mono ?_; rintro e w' ⟨rfl, rfl⟩))) | fail
  all_goals
    go_wp2
    go_ret2
    exact ⟨rfl, by repeat (first | exact Below.refl _ _ | apply Below.drew | apply bl_alloc)⟩

theorem body_none (k n : Int) (s : ByteArray) (w : World) (h1 : (k == 1) = false) (h2 : (k == 2) = false) :
    Calls Try.prog 29 #[.agg #[.int .i64 k, .int .i64 n, .string s]] w fun e w' => e = no ∧ Below w.heap.size w w' := by
  go_enter Try.func29, Try.ntmps29
  go_wp2
  go_ret2
  exact ⟨rfl, bl_alloc (Below.refl _ _) _⟩
end Go.Proofs.Ytbbhaekmjnincaa
namespace Go.Proofs.Ytbbhaekmjnincaa
open Go.RowKit Pl

def tyOf (k : Int) : TypeId := if k = 1 then 86 else 87
def valOf (k n : Int) (s : ByteArray) : Value := if k = 1 then .int .i64 n else .string s

theorem body_any (k n : Int) (s : ByteArray) (w : World) (hm : s.size ≤ maxLen) :
    Calls Try.prog 29 #[.agg #[.int .i64 k, .int .i64 n, .string s]] w fun e w' =>
      (okB k n s = true ∧ e = yes (tyOf k) (valOf k n s) ∨ okB k n s = false ∧ e = no) ∧ Below w.heap.size w w' := by
  by_cases h1 : k = 1
  · subst h1
    by_cases hs : s.toList = []
    · cases ho : okNum n
      · exact (body_num_no n s w hs ho).mono fun e w' ⟨he, hb⟩ => ⟨.inr ⟨by simp [okB, hs, ho], he⟩, hb⟩
      · exact (body_num_yes n s w hs ho).mono fun e w' ⟨he, hb⟩ => ⟨.inl ⟨by simp [okB, hs, ho], he⟩, hb⟩
    · exact (body_num_not n s w hs).mono fun e w' ⟨he, hb⟩ => ⟨.inr ⟨by simp [okB, hs], he⟩, hb⟩
  · by_cases h2 : k = 2
    · subst h2
      by_cases hn : n = 0
      · subst hn
        cases ho : plainB s
        · exact (body_text_no s w hm ho).mono fun e w' ⟨he, hb⟩ => ⟨.inr ⟨by simp [okB, ho], he⟩, hb⟩
        · exact (body_text_yes s w hm ho).mono fun e w' ⟨he, hb⟩ => ⟨.inl ⟨by simp [okB, ho], he⟩, hb⟩
      · exact (body_text_not n s w hn).mono fun e w' ⟨he, hb⟩ => ⟨.inr ⟨by simp [okB, hn], he⟩, hb⟩
    · exact (body_none k n s w (by simp [h1]) (by simp [h2])).mono fun e w' ⟨he, hb⟩ => ⟨.inr ⟨by simp [okB, h1, h2], he⟩, hb⟩

theorem implMsgOk_any (k n : Int) (s : ByteArray) (w : World) (hm : s.size ≤ maxLen) :
    Calls Try.prog 26 #[.agg #[.int .i64 k, .int .i64 n, .string s]] w fun e w' => e = .returned (.bool (okB k n s)) ∧ Below w.heap.size w w' := by
  go_enter Try.func26, Try.ntmps26
  go_wp2_with fail
  refine (body_any k n s _ hm).mono ?_
  rintro e w' ⟨⟨ho, rfl⟩ | ⟨ho, rfl⟩, hb⟩
  · unfold yes
    have hb' := bl_trans (bl_alloc (Below.refl _ _) _) hb
    go_wp2
    go_ret
    exact ⟨ret_bool ho.symm, hb'⟩
  · unfold no
    have hb' := bl_trans (bl_alloc (Below.refl _ _) _) hb
    go_wp2
    go_ret
    exact ⟨ret_bool ho.symm, hb'⟩

end Go.Proofs.Ytbbhaekmjnincaa
