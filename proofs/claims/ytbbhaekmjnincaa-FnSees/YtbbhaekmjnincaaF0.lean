/-
  The plain order of messages: irreflexive, total on right messages, transitive.
-/
import Derived.Test.YtbbhaekmjnincaaZFnSees24
namespace Go.Proofs.Ytbbhaekmjnincaa.Pl
open Go.RowKit

theorem bls_asymm : ∀ (x y : List UInt8), Op.bytesLess x y = true → Op.bytesLess y x = false := by
  intro x
  induction x with
  | nil => intro y h; cases y <;> simp_all [Op.bytesLess]
  | cons a r ih =>
    intro y h
    cases y with
    | nil => simp [Op.bytesLess] at h
    | cons b r' =>
      simp only [Op.bytesLess, Bool.or_eq_true, decide_eq_true_eq, Bool.and_eq_true, beq_iff_eq, UInt8.lt_iff_toNat_lt, Bool.or_eq_false_iff, decide_eq_false_iff_not, Bool.and_eq_false_iff, beq_eq_false_iff_ne, ne_eq, ← UInt8.toNat_inj] at h ⊢
      rcases h with h | ⟨e, h⟩
      · exact ⟨by omega, .inl (by omega)⟩
      · exact ⟨by omega, .inr (ih r' h)⟩
theorem bls_trans : ∀ (x y z : List UInt8), Op.bytesLess x y = true → Op.bytesLess y z = true → Op.bytesLess x z = true := by
  intro x
  induction x with
  | nil => intro y z h k; cases y <;> cases z <;> simp_all [Op.bytesLess]
  | cons a r ih =>
    intro y z h k
    cases y with
    | nil => simp [Op.bytesLess] at h
    | cons b r' =>
      cases z with
      | nil => simp [Op.bytesLess] at k
      | cons d r'' =>
        simp only [Op.bytesLess, Bool.or_eq_true, decide_eq_true_eq, Bool.and_eq_true, beq_iff_eq, UInt8.lt_iff_toNat_lt, ← UInt8.toNat_inj] at h k ⊢
        rcases h with h | ⟨e, h⟩ <;> rcases k with k | ⟨e', k⟩
        · exact .inl (by omega)
        · exact .inl (by omega)
        · exact .inl (by omega)
        · exact .inr ⟨by omega, ih r' r'' h k⟩
theorem bls_tri : ∀ (x y : List UInt8), Op.bytesLess x y = false → Op.bytesLess y x = false → x = y := by
  intro x
  induction x with
  | nil => intro y h k; cases y <;> simp_all [Op.bytesLess]
  | cons a r ih =>
    intro y h k
    cases y with
    | nil => simp [Op.bytesLess] at k
    | cons b r' =>
      simp only [Op.bytesLess, UInt8.lt_iff_toNat_lt, Bool.or_eq_false_iff, decide_eq_false_iff_not, Bool.and_eq_false_iff, beq_eq_false_iff_ne, ne_eq, ← UInt8.toNat_inj] at h k
      obtain ⟨h1, h2⟩ := h
      obtain ⟨k1, k2⟩ := k
      have e : a.toNat = b.toNat := by omega
      have e' : a = b := UInt8.toNat_inj.1 e
      rcases h2 with h2 | h2
      · omega
      · rcases k2 with k2 | k2
        · omega
        · rw [e', ih r' h2 k2]

theorem ok_one' {k n : Int} {s : ByteArray} (h : okB k n s = true) (h1 : k = 1) : s.toList = [] := by
  subst h1; simp [okB] at h; exact h.1
theorem ok_two' {k n : Int} {s : ByteArray} (h : okB k n s = true) (h1 : ¬ k = 1) : k = 2 ∧ n = 0 := by
  unfold okB at h
  rw [if_neg h1] at h
  by_cases h2 : k = 2
  · rw [if_pos h2] at h; simp at h; exact ⟨h2, h.1⟩
  · rw [if_neg h2] at h; cases h

theorem lt_asymm {k n : Int} {s : ByteArray} {k' n' : Int} {s' : ByteArray} (h : ltB k n s k' n' s' = true) : ltB k' n' s' k n s = false := by
  unfold ltB at h ⊢
  split at h
  · rename_i ho
    rw [if_pos ⟨ho.2, ho.1⟩]
    by_cases e : k = k'
    · subst e
      simp only [if_true] at h ⊢
      by_cases h1 : k = 1
      · simp only [h1, if_true, decide_eq_true_eq, decide_eq_false_iff_not] at h ⊢; omega
      · rw [if_neg h1] at h ⊢; exact bls_asymm _ _ h
    · rw [if_neg e] at h; rw [if_neg (Ne.symm e)]
      simp only [decide_eq_true_eq, decide_eq_false_iff_not] at h ⊢; omega
  · cases h
theorem lt_tri {k n : Int} {s : ByteArray} {k' n' : Int} {s' : ByteArray} (ho : okB k n s = true) (ho' : okB k' n' s' = true) (h : ltB k n s k' n' s' = false) (h' : ltB k' n' s' k n s = false) : k = k' ∧ n = n' ∧ s.toList = s'.toList := by
  unfold ltB at h h'
  rw [if_pos ⟨ho, ho'⟩] at h
  rw [if_pos ⟨ho', ho⟩] at h'
  by_cases e : k = k'
  · subst e
    simp only [if_true] at h h'
    by_cases h1 : k = 1
    · simp only [h1, if_true, decide_eq_false_iff_not] at h h'
      exact ⟨rfl, by omega, (ok_one' ho h1).trans (ok_one' ho' h1).symm⟩
    · rw [if_neg h1] at h h'
      exact ⟨rfl, (ok_two' ho h1).2.trans (ok_two' ho' h1).2.symm, bls_tri _ _ h h'⟩
  · rw [if_neg e] at h; rw [if_neg (Ne.symm e)] at h'
    simp only [decide_eq_false_iff_not] at h h'; omega
theorem lt_trans' {k n : Int} {s : ByteArray} {k' n' : Int} {s' : ByteArray} {k'' n'' : Int} {s'' : ByteArray} (h : ltB k n s k' n' s' = true) (h' : ltB k' n' s' k'' n'' s'' = true) : ltB k n s k'' n'' s'' = true := by
  unfold ltB at h h' ⊢
  split at h
  · rename_i ho
    split at h'
    · rename_i ho'
      rw [if_pos ⟨ho.1, ho'.2⟩]
      by_cases e : k = k' <;> by_cases e' : k' = k''
      · subst e e'
        simp only [if_true] at h h' ⊢
        by_cases h1 : k = 1
        · simp only [h1, if_true, decide_eq_true_eq] at h h' ⊢; omega
        · rw [if_neg h1] at h h' ⊢; exact bls_trans _ _ _ h h'
      · subst e
        rw [if_neg e'] at h' ⊢; exact h'
      · subst e'
        rw [if_neg e] at h ⊢; exact h
      · rw [if_neg e] at h; rw [if_neg e'] at h'
        simp only [decide_eq_true_eq] at h h'
        rw [if_neg (by omega)]; simp only [decide_eq_true_eq]; omega
    · cases h'
  · cases h
end Go.Proofs.Ytbbhaekmjnincaa.Pl
