/-
  Walks: a message's text, as the program writes it.
-/
import Derived.Test.YtpfnbnlipfobiafDoorA4
import Derived.Test.YtpfnbnlipfobiafDoorG2
import Derived.Test.YtpfnbnlipfobiafDoorT0
namespace Go.Proofs.YtpfnbnlipfobiafDoor
open Go.RowKit Pl Nu

theorem meth_text_num (n : Int) (w : World) : (method 213 54 (.int .i64 n) "loop.example/g00098/impl.text").run Tryd.prog w = .ok (73, .int .i64 n) w := by kernel_rfl
theorem meth_text_text (s : ByteArray) (w : World) : (method 213 55 (.string s) "loop.example/g00098/impl.text").run Tryd.prog w = .ok (75, .string s) w := by kernel_rfl

theorem ret_str {a b : ByteArray} (h : a = b) : Ending.returned (.string a) = .returned (.string b) := by rw [h]
theorem text_yes1 {n : Int} {t : ByteArray} (h : okB 1 n t = true) : itoaB n = textV 1 n t := by unfold textV; rw [if_pos h, if_pos rfl]
theorem text_yes2 {k n : Int} {t : ByteArray} (h : okB k n t = true) (h1 : ¬ k = 1) : quote t = textV k n t := by unfold textV; rw [if_pos h, if_neg h1]

theorem text_num (n : Int) (w : World) (hL : Laid w) (h0 : -999999999 ≤ n) (h1 : n ≤ 999999999) :
    Calls Tryd.prog 73 #[.int .i64 n] w fun e w' => e = .returned (.string (itoaB n)) ∧ Below w.heap.size w w' := by
  go_enter Tryd.func73, Tryd.ntmps73
  go_wp2_with fail
  refine (itoa_any n _ hL (by omega) (by omega)).mono ?_
  rintro e w1 ⟨rfl, hb⟩
  go_wp2
  go_ret
  exact ⟨rfl, hb⟩
theorem text_text (s : ByteArray) (w : World) (hs : s.size ≤ 1048576) :
    Calls Tryd.prog 75 #[.string s] w fun e w' => e = .returned (.string (quote s)) ∧ w' = w := by
  go_enter Tryd.func75, Tryd.ntmps75
  go_wp2
  go_ret
  exact ⟨rfl, rfl⟩
theorem ok_bounds {n : Int} {t : ByteArray} (h : okB 1 n t = true) : -999999999 ≤ n ∧ n ≤ 999999999 := by
  simp only [okB, if_true, Bool.and_eq_true, okNum, decide_eq_true_eq] at h
  exact h.2

/-- The program's own MsgText. -/
theorem implText_any (k n : Int) (t : ByteArray) (w : World) (hL : Laid w) (ht : t.size ≤ 1048576) :
    Calls Tryd.prog 6 #[.agg #[.int .i64 k, .int .i64 n, .string t]] w fun e w' => e = .returned (.string (textV k n t)) ∧ Below w.heap.size w w' := by
  have hm : t.size ≤ maxLen := by unfold maxLen; omega
  have hL0 := hL.keep (bl_alloc (Below.refl _ _) (.cells #[.int .i64 k, .int .i64 n, .string t] 25))
  go_enter Tryd.func6, Tryd.ntmps6
  go_wp2_with fail
  refine (body_any k n t _ hm).mono ?_
  rintro e w1 ⟨⟨ho, rfl⟩ | ⟨ho, rfl⟩, hb1⟩
  · have hb := bl_trans (bl_alloc (Below.refl _ _) _) hb1
    have hL1 := hL0.keep hb1
    clear hb1 hL0 hL
    have Ho : Hid _ := ho
    clear ho
    unfold yes tyOf valOf
    by_cases h1 : k = 1
    · subst h1
      have mm := meth_text_num n
      obtain ⟨n0, n1⟩ := ok_bounds Ho.out
      rw [if_pos rfl, if_pos rfl]
      go_wp2_with fail
      refine (text_num n _ hL1 n0 n1).mono ?_
      rintro e w2 ⟨rfl, hb2⟩
      have hb' := bl_trans hb hb2
      clear hb2 hb hL1
      go_wp2
      go_ret
      exact ⟨ret_str (text_yes1 Ho.out), hb'⟩
    · have mm := meth_text_text t
      rw [if_neg h1, if_neg h1]
      go_wp2_with fail
      refine (text_text t _ ht).mono ?_
      rintro e w2 ⟨rfl, rfl⟩
      clear hL1
      go_wp2
      go_ret
      exact ⟨ret_str (text_yes2 Ho.out h1), hb⟩
  · have hb := bl_trans (bl_alloc (Below.refl _ _) _) hb1
    clear hb1 hL0 hL
    unfold no
    go_wp2
    go_ret
    exact ⟨ret_str (text_bad ho).symm, hb⟩
end Go.Proofs.YtpfnbnlipfobiafDoor
