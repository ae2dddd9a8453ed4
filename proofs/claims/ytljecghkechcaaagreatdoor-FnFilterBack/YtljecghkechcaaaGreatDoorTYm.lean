/-
  The plain mathematics of a filter's text that is read (no program in it): the words, and what they stand for.
-/
import Derived.Test.YtljecghkechcaaaGreatDoorTXm
import Derived.Test.YtljecghkechcaaaGreatDoorNum2
import Derived.Test.YtljecghkechcaaaGreatDoorTB1
namespace Go.Proofs.YtljecghkechcaaaGreatDoor
open Go.RowKit Pl Il

def noB : ByteArray := ⟨#[]⟩
/-- Which word it is; 0 of one that is none. -/
def opT (w : ByteArray) : Nat := (wordsT.findIdx? (fun x => decide (x = w))).getD 0
def numT (l : ByteArray) : Int := (Nu.numL l.data.toList).getD 0
def numOk (l : ByteArray) : Bool := (Nu.numL l.data.toList).isSome
/-- As the program reads a word. -/
def rdT (w : ByteArray) : Tm × Bool :=
  if h : 0 < w.size then
    (if w[0] = 60 ∨ w[0] = 37 then (((opT (w.extract 0 1) : Int), numT (w.extract 1 w.size), noB), numOk (w.extract 1 w.size))
     else if w[0] = 94 ∨ w[0] = 126 then (((opT (w.extract 0 1) : Int), 0, w.extract 1 w.size), true)
     else (((opT w : Int), 0, noB), true))
  else ((0, 0, noB), false)
/-- What the specification finds at one Op. -/
def stepS (w : ByteArray) (op : Int) : Option (Tm × Bool) :=
  if w = wordT op then some ((op, 0, noB), true)
  else if w.size ≤ (wordT op).size ∨ ¬ w.extract 0 (wordT op).size = wordT op then none
  else if hasN op = true then some ((op, numT (w.extract (wordT op).size w.size), noB), numOk (w.extract (wordT op).size w.size))
  else if op = 6 ∨ op = 7 then some ((op, 0, w.extract (wordT op).size w.size), true)
  else none
def opsS : List Int := [1, 2, 3, 4, 5, 6, 7, 8, 9, 10]
/-- As the specification reads a word. -/
def rdS (w : ByteArray) : Tm × Bool := (opsS.findSome? (stepS w)).getD ((0, 0, noB), false)
theorem rdS_hit {w : ByteArray} {k : Nat} {r : Tm × Bool} (hk : k < 10) (h : ∀ j : Nat, j < k → stepS w ((j : Int) + 1) = none) (hr : stepS w ((k : Int) + 1) = some r) : rdS w = r := by
  have e : opsS = (List.range 10).map (fun j : Nat => (j : Int) + 1) := by decide
  unfold rdS
  rw [e, List.findSome?_map]
  have key : ∀ (n m : Nat), m ≤ k → k < m + n → (List.range' m n).findSome? (stepS w ∘ fun j : Nat => (j : Int) + 1) = some r := by
    intro n
    induction n with
    | zero => intro m h1 h2; omega
    | succ n ih =>
      intro m h1 h2
      rw [List.range'_succ, List.findSome?_cons]
      by_cases hm : m = k
      · subst hm
        simp only [Function.comp, hr]
      · simp only [Function.comp, h m (by omega)]
        exact ih (m + 1) (by omega) (by omega)
  rw [List.range_eq_range', key 10 0 (by omega) (by omega)]
  rfl
theorem rdS_none {w : ByteArray} (h : ∀ j : Nat, j < 10 → stepS w ((j : Int) + 1) = none) : rdS w = ((0, 0, noB), false) := by
  have e : opsS.findSome? (stepS w) = none := by
    rw [List.findSome?_eq_none_iff]
    intro x hx
    have : ∃ j : Nat, j < 10 ∧ x = (j : Int) + 1 := by
      simp only [opsS, List.mem_cons, List.not_mem_nil, or_false] at hx
      exact ⟨(x - 1).toNat, by omega, by omega⟩
    obtain ⟨j, hj, rfl⟩ := this
    exact h j hj
  unfold rdS
  rw [e]; rfl

theorem Quo_at (s : ByteArray) (i : Nat) (h : i < s.size) : s.data.toList[i]? = some s[i] := by
  rw [List.getElem?_eq_getElem (by simpa using h)]; rfl
/-! One byte and a text. -/
def put1 (c : UInt8) (t : ByteArray) : ByteArray := ⟨#[c]⟩ ++ t
theorem put1_list (c : UInt8) (t : ByteArray) : (put1 c t).data.toList = c :: t.data.toList := by simp [put1]
theorem put1_size (c : UInt8) (t : ByteArray) : (put1 c t).size = t.size + 1 := by rw [size_list, put1_list, size_list]; simp
theorem put1_at (c : UInt8) (t : ByteArray) (h : 0 < (put1 c t).size) : (put1 c t)[0] = c := by
  have e := Quo_at (put1 c t) 0 h
  rw [put1_list] at e
  simpa using e.symm
theorem put1_tail (c : UInt8) (t : ByteArray) : (put1 c t).extract 1 (put1 c t).size = t := baE (by rw [Nu.ext_tail, put1_list]; rfl)
theorem ext_data (s : ByteArray) (b i : Nat) : (s.extract b i).data.toList = (s.data.toList.drop b).take (i - b) := by rw [Lib.extract_data]
theorem put1_head (c : UInt8) (t : ByteArray) : (put1 c t).extract 0 1 = ⟨#[c]⟩ := baE (by rw [ext_data, put1_list]; rfl)
theorem put1_of {w : ByteArray} (h : 0 < w.size) : w = put1 w[0] (w.extract 1 w.size) := by
  refine baE ?_
  rw [put1_list, Nu.ext_tail]
  have e := Quo_at w 0 h
  cases hl : w.data.toList with
  | nil => rw [hl] at e; simp at e
  | cons a l => rw [hl] at e; simp at e; rw [e]; rfl

theorem tm_cases {t : Tm} (h : okTm t = true) : (∃ op, (op = 1 ∨ op = 2 ∨ op = 3 ∨ op = 8 ∨ op = 9 ∨ op = 10) ∧ t = (op, 0, noB)) ∨
    (∃ n, -999999999 ≤ n ∧ n ≤ 999999999 ∧ (t = (4, n, noB) ∨ t = (5, n, noB))) ∨ (∃ s, partB s = true ∧ (t = (6, 0, s) ∨ t = (7, 0, s))) := by
  obtain ⟨op, n, s⟩ := t
  simp only [okTm] at h
  split at h
  · rename_i ho
    simp only [Bool.and_eq_true, decide_eq_true_eq] at h
    exact .inl ⟨op, ho, by rw [h.1, empty_iff h.2]; rfl⟩
  · split at h
    · rename_i _ ho
      simp only [Bool.and_eq_true, decide_eq_true_eq] at h
      exact .inr (.inl ⟨n, h.1.1, h.1.2, .inl (by rw [ho, empty_iff h.2]; rfl)⟩)
    · split at h
      · rename_i _ _ ho
        simp only [Bool.and_eq_true, decide_eq_true_eq] at h
        exact .inr (.inl ⟨n, by omega, h.1.2, .inr (by rw [ho, empty_iff h.2]; rfl)⟩)
      · split at h
        · rename_i _ _ _ ho
          simp only [Bool.and_eq_true, decide_eq_true_eq] at h
          rcases ho with rfl | rfl
          · exact .inr (.inr ⟨s, h.2, .inl (by rw [h.1])⟩)
          · exact .inr (.inr ⟨s, h.2, .inr (by rw [h.1])⟩)
        · cases h
theorem term4 (n : Int) : termB (4, n, noB) = put1 60 (itoaF n) := baE (by simp [termB, put1, hasN, wordT, wordsT, noB])
theorem term5 (n : Int) : termB (5, n, noB) = put1 37 (itoaF n) := baE (by simp [termB, put1, hasN, wordT, wordsT, noB])
theorem term6 (s : ByteArray) : termB (6, 0, s) = put1 94 s := baE (by simp [termB, put1, hasN, wordT, wordsT])
theorem term7 (s : ByteArray) : termB (7, 0, s) = put1 126 s := baE (by simp [termB, put1, hasN, wordT, wordsT])
theorem num_back {n : Int} (h0 : -999999999 ≤ n) (h1 : n ≤ 999999999) : numT (itoaF n) = n ∧ numOk (itoaF n) = true := by
  have e := Nu.num_itoa h0 h1
  simp [numT, numOk, itoaF, e]

theorem rdT_num {c : UInt8} {t : ByteArray} (h : c = 60 ∨ c = 37) : rdT (put1 c t) = (((opT ⟨#[c]⟩ : Int), numT t, noB), numOk t) := by
  have hs : 0 < (put1 c t).size := by rw [put1_size]; omega
  unfold rdT
  rw [dif_pos hs, put1_at c t hs, if_pos h, put1_head, put1_tail]
theorem rdT_txt {c : UInt8} {t : ByteArray} (h : c = 94 ∨ c = 126) : rdT (put1 c t) = (((opT ⟨#[c]⟩ : Int), 0, t), true) := by
  have hs : 0 < (put1 c t).size := by rw [put1_size]; omega
  unfold rdT
  rw [dif_pos hs, put1_at c t hs, if_neg (by rcases h with rfl | rfl <;> decide), if_pos h, put1_head, put1_tail]
theorem op60 : opT ⟨#[60]⟩ = 4 := by decide
theorem op37 : opT ⟨#[37]⟩ = 5 := by decide
theorem op94 : opT ⟨#[94]⟩ = 6 := by decide
theorem op126 : opT ⟨#[126]⟩ = 7 := by decide
/-- A right term's text is read as the term by the program. -/
theorem rdT_back {t : Tm} (h : okTm t = true) : rdT (termB t) = (t, true) := by
  rcases tm_cases h with ⟨op, ho, rfl⟩ | ⟨n, h0, h1, rfl | rfl⟩ | ⟨s, hs, rfl | rfl⟩
  · rcases ho with rfl | rfl | rfl | rfl | rfl | rfl <;> decide +kernel
  · rw [term4, rdT_num (.inl rfl), op60, (num_back h0 h1).1, (num_back h0 h1).2]; rfl
  · rw [term5, rdT_num (.inr rfl), op37, (num_back h0 h1).1, (num_back h0 h1).2]; rfl
  · rw [term6, rdT_txt (.inl rfl), op94]; rfl
  · rw [term7, rdT_txt (.inr rfl), op126]; rfl
theorem opT_word {w : ByteArray} (h : ¬ opT w = 0) : wordT (opT w : Int) = w ∧ opT w < 11 := by
  unfold opT at h ⊢
  cases hf : wordsT.findIdx? (fun x => decide (x = w)) with
  | none => rw [hf] at h; exact absurd rfl h
  | some k =>
    rw [List.findIdx?_eq_some_iff_getElem] at hf
    obtain ⟨hk, he, _⟩ := hf
    simp only [decide_eq_true_eq] at he
    refine ⟨?_, hk⟩
    unfold wordT
    simp only [Option.getD_some, Int.toNat_natCast]
    rw [List.getD_eq_getElem?_getD, List.getElem?_eq_getElem hk]
    exact he
/-- What is read as a right term by the program is its text. -/
theorem rdT_only {w : ByteArray} {t : Tm} (h : rdT w = (t, true)) (hok : okTm t = true) : w = termB t := by
  by_cases hs : 0 < w.size
  · have hw := put1_of hs
    generalize w[0] = c at hw
    generalize w.extract 1 w.size = r at hw
    subst hw
    by_cases h1 : c = 60 ∨ c = 37
    · rw [rdT_num h1] at h
      simp only [Prod.mk.injEq] at h
      obtain ⟨rfl, hn⟩ := h
      unfold numOk at hn
      obtain ⟨n, hn⟩ := Option.isSome_iff_exists.1 hn
      have hi := (Nu.num_of hn).1
      have hr : r = itoaF n := baE (by rw [← hi]; simp [itoaF])
      have hv : numT r = n := by simp [numT, hn]
      rw [hv]
      rcases h1 with rfl | rfl
      · rw [op60]; exact (by rw [hr]; exact (term4 n).symm)
      · rw [op37]; exact (by rw [hr]; exact (term5 n).symm)
    · by_cases h2 : c = 94 ∨ c = 126
      · rw [rdT_txt h2] at h
        simp only [Prod.mk.injEq] at h
        obtain ⟨rfl, _⟩ := h
        rcases h2 with rfl | rfl
        · rw [op94]; exact (term6 r).symm
        · rw [op126]; exact (term7 r).symm
      · unfold rdT at h
        have hp : 0 < (put1 c r).size := by rw [put1_size]; omega
        rw [dif_pos hp, put1_at c r hp, if_neg h1, if_neg h2] at h
        simp only [Prod.mk.injEq] at h
        obtain ⟨rfl, _⟩ := h
        have h0 : ¬ opT (put1 c r) = 0 := by
          intro e
          rw [e] at hok
          exact absurd hok (by decide)
        obtain ⟨hw, hl⟩ := opT_word h0
        have hno : hasN (opT (put1 c r) : Int) = false := by
          cases hh : hasN (opT (put1 c r) : Int)
          · rfl
          · simp only [hasN, Bool.or_eq_true, beq_iff_eq] at hh
            exfalso
            rcases hh with e | e
            · rw [e] at hw
              have := congrArg (fun x : ByteArray => x.data.toList) hw
              rw [put1_list] at this
              simp [wordT, wordsT] at this
              exact h1 (.inl this.1.symm)
            · rw [e] at hw
              have := congrArg (fun x : ByteArray => x.data.toList) hw
              rw [put1_list] at this
              simp [wordT, wordsT] at this
              exact h1 (.inr this.1.symm)
        unfold termB
        simp only [hno]
        rw [if_neg (by decide), app_nil, hw]
        exact (app_nil _).symm
  · unfold rdT at h
    rw [dif_neg hs] at h
    simp at h
end Go.Proofs.YtljecghkechcaaaGreatDoor
