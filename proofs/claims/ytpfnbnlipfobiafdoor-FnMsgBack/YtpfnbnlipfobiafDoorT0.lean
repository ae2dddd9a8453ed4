/-
  A message's text, and that it is read as the message, in plain mathematics.
-/
import Derived.Test.YtpfnbnlipfobiafDoorQuo
namespace Go.Proofs.YtpfnbnlipfobiafDoor.Nu
open Pl

def itoaB (n : Int) : ByteArray := ⟨(Lib.itoa n).toArray⟩
def quote (t : ByteArray) : ByteArray := (⟨#[34]⟩ ++ t) ++ ⟨#[34]⟩
/-- A message's text. -/
def textV (k n : Int) (t : ByteArray) : ByteArray := if okB k n t = true then (if k = 1 then itoaB n else quote t) else ⟨#[63]⟩

theorem itoaB_list (n : Int) : (itoaB n).data.toList = Lib.itoa n := by simp [itoaB]
theorem ba_ext {a b : ByteArray} (h : a.data.toList = b.data.toList) : a = b := by
  cases a with
  | mk x => cases b with
    | mk y => simp only at h; rw [Array.toList_inj.1 h]
theorem quote_list (t : ByteArray) : (quote t).data.toList = 34 :: (t.data.toList ++ [34]) := by
  simp [quote]
theorem quote_size (t : ByteArray) : (quote t).size = t.size + 2 := by
  rw [← len_eq, quote_list]; simp
theorem empty_of {t : ByteArray} (h : t.toList = []) : t = ⟨#[]⟩ := ba_ext (by rw [← ByteArray.toList_eq, h])

theorem num_quote (t : ByteArray) : numL (quote t).data.toList = none := by
  rw [quote_list]
  unfold numL
  rw [if_neg (by simp)]
  unfold magL
  split
  · simp [valL]
  · rfl
theorem quoted_quote (t : ByteArray) : quotedB (quote t) = true := by
  have hs := quote_size t
  have h2 : 2 ≤ (quote t).size := by omega
  have h0 : (quote t).data.toList[0]? = some 34 := by rw [quote_list]; rfl
  have h1 : (quote t).data.toList[(quote t).size - 1]? = some 34 := by
    rw [quote_list, hs]
    have e : t.size + 2 - 1 = t.size + 1 := by omega
    rw [e, List.getElem?_cons_succ, List.getElem?_append_right (by rw [len_eq]; exact Nat.le_refl _), len_eq, Nat.sub_self]
    rfl
  simp only [quotedB, h2, h0, h1, decide_true, Bool.and_self]
theorem mid_quote (t : ByteArray) : mid (quote t) = t := by
  apply ba_ext
  unfold mid
  rw [Lib.extract_data, quote_list, quote_size]
  have e : t.size + 2 - 1 - 1 = t.data.toList.length := by rw [len_eq]; omega
  rw [e]
  simp
theorem quote_mid {s : ByteArray} (h : quotedB s = true) : quote (mid s) = s := by
  simp only [quotedB, Bool.and_eq_true, decide_eq_true_eq] at h
  obtain ⟨⟨h2, h0⟩, h1⟩ := h
  apply ba_ext
  rw [quote_list]
  unfold mid
  rw [Lib.extract_data]
  have hl := len_eq s
  generalize s.data.toList = l at *
  generalize s.size = m at *
  subst hl
  cases l with
  | nil => simp at h2
  | cons a r =>
    have ha : a = 34 := by simpa using h0
    subst ha
    rcases List.eq_nil_or_concat r with rfl | ⟨r', c, rfl⟩
    · simp at h2
    · rw [List.concat_eq_append] at *
      have hc : c = 34 := by
        simp only [List.length_cons, List.length_append, List.length_nil] at h1
        have e : r'.length + (0 + 1) + 1 - 1 = r'.length + 1 := by omega
        rw [e, List.getElem?_cons_succ, List.getElem?_append_right (Nat.le_refl _), Nat.sub_self] at h1
        simpa using h1
      subst hc
      simp

theorem read_of_text {k n : Int} {t : ByteArray} (h : okB k n t = true) : readM (textV k n t) = some (k, n, t) := by
  unfold textV
  rw [if_pos h]
  by_cases h1 : k = 1
  · subst h1
    rw [if_pos rfl]
    simp only [okB, if_true, Bool.and_eq_true, List.isEmpty_iff, okNum, decide_eq_true_eq] at h
    rw [read_num (n := n) (by rw [itoaB_list]; exact num_itoa h.2.1 h.2.2), empty_of h.1]
  · rw [if_neg h1]
    unfold okB at h
    rw [if_neg h1] at h
    by_cases h2 : k = 2
    · rw [if_pos h2] at h
      simp only [Bool.and_eq_true, decide_eq_true_eq] at h
      rw [read_text (num_quote t) (quoted_quote t) (by rw [mid_quote]; exact h.2), mid_quote, h2, h.1]
    · rw [if_neg h2] at h; cases h
theorem read_of_mark : readM ⟨#[63]⟩ = none := by
  have h : numL (ByteArray.mk #[63]).data.toList = none := by decide
  exact read_no h (by decide)
theorem text_of_read {s : ByteArray} {k n : Int} {t : ByteArray} (h : readM s = some (k, n, t)) : okB k n t = true ∧ textV k n t = s := by
  unfold readM at h
  split at h
  · rename_i m hm
    simp only [Option.some.injEq, Prod.mk.injEq] at h
    obtain ⟨rfl, rfl, rfl⟩ := h
    obtain ⟨e, h0, h1, _⟩ := num_of hm
    have ho : okB 1 m ⟨#[]⟩ = true := by
      have : (ByteArray.mk #[]).toList = [] := by rw [ByteArray.toList_eq]
      simp [okB, okNum, this, h0, h1]
    refine ⟨ho, ?_⟩
    unfold textV
    rw [if_pos ho, if_pos rfl]
    exact ba_ext (by rw [itoaB_list]; exact e)
  · split at h
    · rename_i hq
      simp only [Option.some.injEq, Prod.mk.injEq] at h
      obtain ⟨rfl, rfl, rfl⟩ := h
      have ho : okB 2 0 (mid s) = true := by simp [okB, hq.2]
      refine ⟨ho, ?_⟩
      unfold textV
      rw [if_pos ho, if_neg (by decide)]
      exact quote_mid hq.1
    · cases h
theorem text_bad {k n : Int} {t : ByteArray} (h : okB k n t = false) : textV k n t = ⟨#[63]⟩ := by unfold textV; rw [if_neg (by rw [h]; decide)]
end Go.Proofs.YtpfnbnlipfobiafDoor.Nu
