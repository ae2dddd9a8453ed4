/-
  The plain mathematics of a filter's text (no program in it).
-/
import Derived.Test.YtljecghkechcaaaDoorFM
import Derived.Test.YtljecghkechcaaaDoorNum
import Derived.Lib.Join
namespace Go.Proofs.YtljecghkechcaaaDoor
open Go.RowKit Pl Il

def wordsT : List ByteArray := [⟨#[]⟩, ⟨#[97, 108, 108]⟩, ⟨#[110, 117, 109]⟩, ⟨#[116, 101, 120, 116]⟩, ⟨#[60]⟩, ⟨#[37]⟩, ⟨#[94]⟩, ⟨#[126]⟩, ⟨#[33]⟩, ⟨#[38]⟩, ⟨#[124]⟩]
/-- The word of an Op. -/
def wordT (op : Int) : ByteArray := wordsT.getD op.toNat ⟨#[]⟩
def hasN (op : Int) : Bool := op == 4 || op == 5
def itoaF (n : Int) : ByteArray := ⟨(Lib.itoa n).toArray⟩
/-- A term's text. -/
def termB (t : Tm) : ByteArray := (wordT t.1 ++ (if hasN t.1 = true then itoaF t.2.1 else ⟨#[]⟩)) ++ t.2.2
def termL (t : Tm) : List UInt8 := (termB t).data.toList
/-- A filter's text. -/
def joinT (ts : List Tm) : ByteArray := ⟨(Lib.join (ts.map termL) [32]).toArray⟩

theorem baE {a b : ByteArray} (h : a.data.toList = b.data.toList) : a = b := by
  cases a; cases b; simp at h; rw [h]
theorem app_list (a b : ByteArray) : (a ++ b).data.toList = a.data.toList ++ b.data.toList := by simp
theorem app_nil (a : ByteArray) : a ++ ⟨#[]⟩ = a := baE (by simp)
theorem nil_app (a : ByteArray) : (⟨#[]⟩ : ByteArray) ++ a = a := baE (by simp)
theorem app_assoc (a b c : ByteArray) : (a ++ b) ++ c = a ++ (b ++ c) := baE (by simp)
theorem size_list (a : ByteArray) : a.size = a.data.toList.length := by simp
theorem toL (a : ByteArray) : a.toList = a.data.toList := ByteArray.toList_eq a
theorem empty_iff {t : ByteArray} (h : t.toList.isEmpty = true) : t = ⟨#[]⟩ := baE (by rw [toL] at h; simpa using h)

theorem join_snoc (l : List (List UInt8)) (x sep : List UInt8) : Lib.join (l ++ [x]) sep = if l = [] then x else Lib.join l sep ++ sep ++ x := by
  cases l with
  | nil => simp [Lib.join_one]
  | cons y r =>
    rw [if_neg (by simp), List.cons_append, Lib.join_cons, Lib.join_cons]
    simp [Lib.joinTail, List.append_assoc]
theorem joinT_nil : joinT [] = ⟨#[]⟩ := rfl
theorem joinT_first {ts : List Tm} {k : Nat} (hk : k < ts.length) (h0 : k = 0) : joinT (ts.take (k + 1)) = termB (qg ts k) := by
  subst h0
  rw [take_qg hk]
  exact baE (by simp [joinT, Lib.join_one, termL])
theorem joinT_next {ts : List Tm} {k : Nat} (hk : k < ts.length) (h0 : ¬ k = 0) : joinT (ts.take (k + 1)) = (joinT (ts.take k) ++ ⟨#[32]⟩) ++ termB (qg ts k) := by
  rw [take_qg hk]
  refine baE ?_
  have hne : ¬ (ts.take k).map termL = [] := by
    intro e
    have := congrArg List.length e
    simp only [List.length_map, List.length_take, List.length_nil] at this
    omega
  simp only [joinT, List.map_append, List.map_cons, List.map_nil, join_snoc, if_neg hne]
  simp [termL]
theorem joinT_all {ts : List Tm} {k : Nat} (h : ts.length ≤ k) : joinT (ts.take k) = joinT ts := by rw [List.take_of_length_le h]

theorem itoaF_size {n : Int} (h0 : -999999999 ≤ n) (h1 : n ≤ 999999999) : (itoaF n).size ≤ 10 := by
  have e : (itoaF n).size = (Lib.itoa n).length := by simp [itoaF, ByteArray.size]
  rw [e, Lib.itoa]
  split
  · have hd := Nu.dd_len 8 n.natAbs (by omega)
    simp only [List.length_cons]; omega
  · have hd := Nu.dd_len 8 n.toNat (by omega)
    omega

structure TmOk (t : Tm) : Prop where
  lo : 1 ≤ t.1
  hi : t.1 ≤ 10
  num : hasN t.1 = true → t.2.2 = ⟨#[]⟩ ∧ -999999999 ≤ t.2.1 ∧ t.2.1 ≤ 999999999
  txt : t.2.2.size ≤ 10
theorem tm_ok {t : Tm} (h : okTm t = true) : TmOk t := by
  obtain ⟨op, n, s⟩ := t
  simp only [okTm] at h
  split at h
  · rename_i ho
    simp only [Bool.and_eq_true, decide_eq_true_eq] at h
    have hs := empty_iff h.2
    refine ⟨by simp only; omega, by simp only; omega, fun k => ?_, by subst hs; exact (by decide : (ByteArray.mk #[]).size ≤ 10)⟩
    simp only [hasN, Bool.or_eq_true, beq_iff_eq] at k
    omega
  · split at h
    · rename_i _ ho
      simp only [Bool.and_eq_true, decide_eq_true_eq] at h
      have hs := empty_iff h.2
      exact ⟨by simp only; omega, by simp only; omega, fun _ => ⟨hs, h.1.1, h.1.2⟩, by subst hs; exact (by decide : (ByteArray.mk #[]).size ≤ 10)⟩
    · split at h
      · rename_i _ _ ho
        simp only [Bool.and_eq_true, decide_eq_true_eq] at h
        have hs := empty_iff h.2
        exact ⟨by simp only; omega, by simp only; omega, fun _ => ⟨hs, by have := h.1.1; simp only; omega, h.1.2⟩, by subst hs; exact (by decide : (ByteArray.mk #[]).size ≤ 10)⟩
      · split at h
        · rename_i _ _ _ ho
          simp only [Bool.and_eq_true, decide_eq_true_eq, partB] at h
          refine ⟨by simp only; omega, by simp only; omega, fun k => ?_, h.2.1.2⟩
          simp only [hasN, Bool.or_eq_true, beq_iff_eq] at k
          omega
        · cases h
theorem go_all : ∀ (l : List Tm) (n m : Nat), goN l n = some m → ∀ t, t ∈ l → okTm t = true
  | [], _, _, _, t, ht => by cases ht
  | x :: r, n, m, h, t, ht => by
    rw [goN_cons] at h
    split at h
    · cases h
    · rename_i h1
      split at h
      · cases h
      · rcases List.mem_cons.1 ht with rfl | k
        · simpa using h1
        · exact go_all r _ m h t k
theorem okF_all {f : List Tm} (h : okF f = true) : ∀ t, t ∈ f → okTm t = true := by
  intro t ht
  simp only [okF, Bool.and_eq_true, Bool.or_eq_true, decide_eq_true_eq, List.isEmpty_iff] at h
  rcases h.2 with k | k
  · subst k; cases ht
  · exact go_all f 0 1 k t ht
theorem okF_few {f : List Tm} (h : okF f = true) : f.length ≤ 12 := by
  simp only [okF, Bool.and_eq_true, decide_eq_true_eq] at h
  exact h.1

theorem word_size (op : Int) : (wordT op).size ≤ 4 := by
  unfold wordT
  have : ∀ x ∈ wordsT, x.size ≤ 4 := by decide
  rcases Nat.lt_or_ge op.toNat wordsT.length with k | k
  · rw [List.getD_eq_getElem?_getD, List.getElem?_eq_getElem k]; exact this _ (List.getElem_mem k)
  · rw [List.getD_eq_getElem?_getD, List.getElem?_eq_none k]; decide
theorem term_size {t : Tm} (h : TmOk t) : (termB t).size ≤ 24 := by
  unfold termB
  rw [ByteArray.size_append, ByteArray.size_append]
  have hw := word_size t.1
  have ht := h.txt
  split
  · rename_i k
    have := itoaF_size (h.num k).2.1 (h.num k).2.2
    omega
  · have : (ByteArray.mk #[]).size = 0 := rfl
    omega
theorem joinT_size {ts : List Tm} (hok : ∀ t, t ∈ ts → okTm t = true) : ∀ k, k ≤ ts.length → (joinT (ts.take k)).size ≤ 25 * k
  | 0, _ => by simp [joinT, Lib.join_nil, ByteArray.size]
  | k + 1, hk => by
    have ih := joinT_size hok k (by omega)
    have ht := term_size (tm_ok (hok _ (qg_mem (show k < ts.length by omega))))
    by_cases h0 : k = 0
    · rw [joinT_first (by omega) h0]; omega
    · rw [joinT_next (by omega) h0, ByteArray.size_append, ByteArray.size_append]
      have : (ByteArray.mk #[32]).size = 1 := rfl
      omega
/-- As the specification puts a term behind what is there. -/
theorem term_spec {t : Tm} (h : TmOk t) (o : ByteArray) (hn : hasN t.1 = true) : ((o ++ wordT t.1) ++ t.2.2) ++ itoaF t.2.1 = o ++ termB t := by
  unfold termB
  rw [if_pos hn, (h.num hn).1, app_nil, app_nil, app_assoc]
theorem term_spec0 {t : Tm} (o : ByteArray) (hn : hasN t.1 = false) : (o ++ wordT t.1) ++ t.2.2 = o ++ termB t := by
  unfold termB
  rw [if_neg (by rw [hn]; decide), app_nil, app_assoc]
end Go.Proofs.YtljecghkechcaaaDoor
