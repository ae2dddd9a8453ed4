/-
  Walks: which of two messages is ahead, by the specification's own text.
-/
import Derived.Test.YtbhdjcggcgddfaaC1
namespace Go.Proofs.Ytbhdjcggcgddfaa
open Go.RowKit Pl

theorem lt_kinds {k n : Int} {s : ByteArray} {k' n' : Int} {s' : ByteArray} (h : okB k n s = true) (h' : okB k' n' s' = true) (hk : ¬ k = k') : ltB k n s k' n' s' = decide (k < k') := by simp [ltB, h, h', hk]
theorem lt_nums {n : Int} {s : ByteArray} {n' : Int} {s' : ByteArray} (h : okB 1 n s = true) (h' : okB 1 n' s' = true) : ltB 1 n s 1 n' s' = decide (n < n') := by simp [ltB, h, h']
theorem lt_texts {k n : Int} {s : ByteArray} {n' : Int} {s' : ByteArray} (h : okB k n s = true) (h' : okB k n' s' = true) (hk : ¬ k = 1) : ltB k n s k n' s' = Op.bytesLess s.toList s'.toList := by simp [ltB, h, h', hk]

theorem specLess_any (k n : Int) (s : ByteArray) (k' n' : Int) (s' : ByteArray) (w : World) (hm : s.size ≤ maxLen) (hm' : s'.size ≤ maxLen) :
    Calls Try.prog 160 #[.agg #[.int .i64 k, .int .i64 n, .string s], .agg #[.int .i64 k', .int .i64 n', .string s']] w fun e w' =>
      e = .returned (.bool (ltB k n s k' n' s')) ∧ Below w.heap.size w w' := by
  go_enter Try.func160, Try.ntmps160
  go_wp2_with fail
  refine (specMsgOk_any k n s _ hm).mono ?_
  rintro e w1 ⟨rfl, hb1⟩
  obtain ⟨hc1, hf1⟩ := bcell hb1
  have hb := bl_trans (bl_alloc (bl_alloc (Below.refl _ _) _) _) hb1
  cases ho : okB k n s
  · clear hb1
    go_wp2
    go_ret
    exact ⟨ret_bool (lt_no1 ho).symm, hb⟩
  · go_wp2_with fail
    refine (specMsgOk_any k' n' s' _ hm').mono ?_
    rintro e w2 ⟨rfl, hb2⟩
    have hb' := bl_trans hb hb2
    have hb12 := bl_trans hb1 hb2
    clear hb1 hb2 hc1 hf1 hb
    obtain ⟨hc1, hf1⟩ := bcell hb12
    clear hb12
    cases ho' : okB k' n' s'
    · go_wp2
      go_ret
      exact ⟨ret_bool (lt_no2 ho').symm, hb'⟩
    · by_cases hk : k = k'
      · subst hk
        by_cases h1 : k = 1
        · subst h1
          go_wp2
          go_ret
          exact ⟨ret_bool (lt_nums ho ho').symm, hb'⟩
        · have h1' : (k == 1) = false := by simp [h1]
          go_wp2
          go_ret
          exact ⟨ret_bool (lt_texts ho ho' h1).symm, hb'⟩
      · have hk' : (k != k') = true := by simp [hk]
        go_wp2
        go_ret
        exact ⟨ret_bool (lt_kinds ho ho' hk).symm, hb'⟩
end Go.Proofs.Ytbhdjcggcgddfaa
