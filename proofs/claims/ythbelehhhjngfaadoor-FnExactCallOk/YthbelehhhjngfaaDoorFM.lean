/-
  Filters: plain mathematics. Which terms are right, how many a term takes, which filters are right.
-/
import Derived.Test.YthbelehhhjngfaaDoorFT
namespace Go.Proofs.YthbelehhhjngfaaDoor
open Go.RowKit Pl Il

def isLet (c : UInt8) : Bool := decide (97 ≤ c.toNat) && decide (c.toNat ≤ 122)
def letL (l : List UInt8) : Bool := l.all isLet
def partB (s : ByteArray) : Bool := decide (1 ≤ s.size) && decide (s.size ≤ 10) && letL s.data.toList
theorem let_step (s : ByteArray) (k : Nat) (h : k < s.size) (hp : letL (s.data.toList.take k) = true) (hg : isLet s[k] = true) :
    letL (s.data.toList.take (k + 1)) = true := by
  rw [take_snoc s k h]; simp [letL] at hp ⊢; exact ⟨hp, hg⟩
theorem part_bad (s : ByteArray) (k : Nat) (h : k < s.size) (hg : isLet s[k] = false) : partB s = false := by
  have hm : s[k] ∈ s.data.toList := by
    have : s.data.toList[k]'(by simpa using h) = s[k] := rfl
    rw [← this]; exact List.getElem_mem _
  have : letL s.data.toList = false := by
    unfold letL
    rw [List.all_eq_false]
    exact ⟨_, hm, by simp [hg]⟩
  simp [partB, this]
theorem part_size (s : ByteArray) (h : ¬ (1 ≤ (s.size : Int) ∧ (s.size : Int) ≤ 10)) : partB s = false := by
  by_cases h1 : 1 ≤ s.size
  · have : ¬ s.size ≤ 10 := by omega
    simp [partB, this]
  · simp [partB, h1]
theorem part_all (s : ByteArray) (k : Nat) (h1 : 1 ≤ (s.size : Int)) (h2 : (s.size : Int) ≤ 10) (h : s.size ≤ k) (hp : letL (s.data.toList.take k) = true) : partB s = true := by
  have e : s.data.toList.take k = s.data.toList := List.take_of_length_le (by simpa using h)
  rw [e] at hp
  have a : 1 ≤ s.size := by omega
  have b : s.size ≤ 10 := by omega
  simp [partB, a, b, hp]
theorem let_no (c : UInt8) (h : (c.toNat : Int) < 97 ∨ 122 < (c.toNat : Int)) : isLet c = false := by
  rcases h with h | h
  · have : ¬ 97 ≤ c.toNat := by omega
    simp [isLet, this]
  · have : ¬ c.toNat ≤ 122 := by omega
    simp [isLet, this]
theorem let_yes (c : UInt8) (h1 : ¬ (c.toNat : Int) < 97) (h2 : ¬ 122 < (c.toNat : Int)) : isLet c = true := by
  have a : 97 ≤ c.toNat := by omega
  have b : c.toNat ≤ 122 := by omega
  simp [isLet, a, b]

/-- Has a term just what its Op has? -/
def okTm (t : Tm) : Bool :=
  if t.1 = 1 ∨ t.1 = 2 ∨ t.1 = 3 ∨ t.1 = 8 ∨ t.1 = 9 ∨ t.1 = 10 then decide (t.2.1 = 0) && t.2.2.toList.isEmpty
  else if t.1 = 4 then decide (-999999999 ≤ t.2.1) && decide (t.2.1 ≤ 999999999) && t.2.2.toList.isEmpty
  else if t.1 = 5 then decide (1 ≤ t.2.1) && decide (t.2.1 ≤ 999999999) && t.2.2.toList.isEmpty
  else if t.1 = 6 ∨ t.1 = 7 then decide (t.2.1 = 0) && partB t.2.2
  else false
/-- How many an Op takes. -/
def cntM (op : Int) : Nat := if op = 8 then 1 else if op = 9 ∨ op = 10 then 2 else 0
theorem cnt_le (op : Int) : cntM op ≤ 2 := by unfold cntM; split <;> (try split) <;> omega
def takesM (t : Tm) : Int := if okTm t = true then (cntM t.1 : Int) else -1
/-- How many are left, if there is always what is taken. -/
def goN : List Tm → Nat → Option Nat
  | [], n => some n
  | t :: ts, n => if okTm t = false then none else if n < cntM t.1 then none else goN ts (n - cntM t.1 + 1)
theorem goN_cons (t : Tm) (ts : List Tm) (n : Nat) : goN (t :: ts) n = if okTm t = false then none else if n < cntM t.1 then none else goN ts (n - cntM t.1 + 1) := rfl
theorem goN_snoc : ∀ (l : List Tm) (t : Tm) (n : Nat), goN (l ++ [t]) n = (goN l n).bind fun m => if okTm t = false then none else if m < cntM t.1 then none else some (m - cntM t.1 + 1)
  | [], t, n => by simp [goN]
  | x :: l, t, n => by
    rw [List.cons_append, goN_cons, goN_cons]
    by_cases h1 : okTm x = false
    · rw [if_pos h1, if_pos h1]; rfl
    · rw [if_neg h1, if_neg h1]
      by_cases h2 : n < cntM x.1
      · rw [if_pos h2, if_pos h2]; rfl
      · rw [if_neg h2, if_neg h2]; exact goN_snoc l t _
theorem goN_append : ∀ (l l' : List Tm) (n : Nat), goN (l ++ l') n = (goN l n).bind fun m => goN l' m
  | [], l', n => by simp [goN]
  | x :: l, l', n => by
    rw [List.cons_append, goN_cons, goN_cons]
    by_cases h1 : okTm x = false
    · rw [if_pos h1, if_pos h1]; rfl
    · rw [if_neg h1, if_neg h1]
      by_cases h2 : n < cntM x.1
      · rw [if_pos h2, if_pos h2]; rfl
      · rw [if_neg h2, if_neg h2]; exact goN_append l l' _
def okF (f : List Tm) : Bool := decide (f.length ≤ 12) && (f.isEmpty || decide (goN f 0 = some 1))
theorem okF_nil : okF [] = true := rfl
theorem okF_long {f : List Tm} (h : ¬ f.length ≤ 12) : okF f = false := by simp [okF, h]
theorem okF_stop {f : List Tm} {k : Nat} (hk : k < f.length) {m : Nat} (h : goN (f.take k) 0 = some m) (hb : okTm (qg f k) = false ∨ m < cntM (qg f k).1) : okF f = false := by
  have e : f = f.take (k + 1) ++ f.drop (k + 1) := (List.take_append_drop _ _).symm
  have h1 : goN (f.take (k + 1)) 0 = none := by
    rw [take_qg hk, goN_snoc, h]
    simp only [Option.bind_some]
    rcases hb with hb | hb
    · rw [if_pos hb]
    · by_cases h1 : okTm (qg f k) = false
      · rw [if_pos h1]
      · rw [if_neg h1, if_pos hb]
  have h2 : goN f 0 = none := by
    rw [e, goN_append, h1]; rfl
  have hne : f.isEmpty = false := by
    cases f with
    | nil => simp at hk
    | cons _ _ => rfl
  simp [okF, h2, hne]
theorem goN_step {f : List Tm} {k : Nat} (hk : k < f.length) {m : Nat} (h : goN (f.take k) 0 = some m) (h1 : okTm (qg f k) = true) (h2 : ¬ m < cntM (qg f k).1) : goN (f.take (k + 1)) 0 = some (m - cntM (qg f k).1 + 1) := by
  rw [take_qg hk, goN_snoc, h]
  simp only [Option.bind_some]
  rw [if_neg (by rw [h1]; simp), if_neg h2]
theorem goN_le : ∀ (l : List Tm) (n m : Nat), goN l n = some m → m ≤ n + l.length
  | [], n, m, h => by simp [goN] at h; omega
  | x :: l, n, m, h => by
    unfold goN at h
    split at h
    · cases h
    · split at h
      · cases h
      · have := goN_le l _ _ h
        simp only [List.length_cons]
        omega
theorem goN_pos {f : List Tm} {k m : Nat} (hk : 0 < k) (hl : k ≤ f.length) (h : goN (f.take k) 0 = some m) : 1 ≤ m := by
  obtain ⟨j, rfl⟩ : ∃ j, k = j + 1 := ⟨k - 1, by omega⟩
  rw [take_qg (by omega), goN_snoc] at h
  cases e : goN (f.take j) 0 with
  | none => rw [e] at h; cases h
  | some q =>
    rw [e] at h
    simp only [Option.bind_some] at h
    split at h
    · cases h
    · split at h
      · cases h
      · simp at h; omega
theorem okF_end {f : List Tm} (h0 : f ≠ []) (hl : f.length ≤ 12) {m : Nat} (h : goN f 0 = some m) : okF f = decide ((m : Int) = 1) := by
  have hne : f.isEmpty = false := by
    cases f with
    | nil => exact absurd rfl h0
    | cons _ _ => rfl
  have : (goN f 0 = some 1) ↔ ((m : Int) = 1) := by rw [h]; simp; omega
  simp [okF, hl, hne, this]
end Go.Proofs.YthbelehhhjngfaaDoor
