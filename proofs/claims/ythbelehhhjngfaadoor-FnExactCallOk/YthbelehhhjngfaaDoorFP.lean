/-
  What a filter lets pass: plain mathematics.
-/
import Derived.Test.YthbelehhhjngfaaDoorFM
namespace Go.Proofs.YthbelehhhjngfaaDoor
open Go.RowKit Pl Il

/-- What a right message is. -/
abbrev Bd : Type := Sum Int ByteArray
/-- Does t begin s? Is it somewhere within? -/
def begB (s t : ByteArray) : Bool := t.toList.isPrefixOf s.toList
def inL : List UInt8 → List UInt8 → Bool
  | l, [] => l.isEmpty
  | l, x :: xs => l.isPrefixOf (x :: xs) || inL l xs
def leafP (t : Tm) : Bd → Bool
  | .inl n => if t.1 = 1 then true else if t.1 = 2 then true else if t.1 = 3 then false else if t.1 = 4 then decide (n < t.2.1) else if t.1 = 5 then decide (n.tmod t.2.1 = 0) else false
  | .inr s => if t.1 = 1 then true else if t.1 = 2 then false else if t.1 = 3 then true else if t.1 = 4 then false else if t.1 = 5 then false else if t.1 = 6 then begB s t.2.2 else inL t.2.2.toList s.toList
abbrev Pd : Type := Bd → Bool
def pg (ps : List Pd) (i : Nat) : Pd := ps.getD i (fun _ => false)
def stepP (t : Tm) (ps : List Pd) : List Pd :=
  if t.1 = 8 then ps.take (ps.length - 1) ++ [fun b => !(pg ps (ps.length - 1) b)]
  else if t.1 = 9 then ps.take (ps.length - 2) ++ [fun b => pg ps (ps.length - 1) b && pg ps (ps.length - 2) b]
  else if t.1 = 10 then ps.take (ps.length - 2) ++ [fun b => pg ps (ps.length - 1) b || pg ps (ps.length - 2) b]
  else ps ++ [leafP t]
theorem stepP_len (t : Tm) (ps : List Pd) (_h : ¬ ps.length < cntM t.1) : (stepP t ps).length = ps.length - cntM t.1 + 1 := by
  unfold stepP
  unfold cntM
  by_cases h1 : t.1 = 8
  · simp [h1]
  · by_cases h2 : t.1 = 9
    · simp [h2]
    · by_cases h3 : t.1 = 10
      · simp [h3]
      · simp [h1, h2, h3]
def runP (f : List Tm) : List Pd := f.foldl (fun ps t => stepP t ps) []
theorem runP_snoc (l : List Tm) (t : Tm) : runP (l ++ [t]) = stepP t (runP l) := by simp [runP]
theorem runP_step {f : List Tm} {k : Nat} (hk : k < f.length) : runP (f.take (k + 1)) = stepP (qg f k) (runP (f.take k)) := by rw [take_qg hk, runP_snoc]
/-- What a filter lets pass. -/
def passP (f : List Tm) : Pd := if f = [] then fun _ => true else pg (runP f) 0
theorem runP_len : ∀ {f : List Tm} {k m : Nat}, k ≤ f.length → goN (f.take k) 0 = some m → (runP (f.take k)).length = m := by
  intro f k
  induction k with
  | zero => intro m _ h; simp [goN] at h; subst h; simp [runP]
  | succ k ih =>
    intro m hk h
    have hk' : k < f.length := by omega
    rw [take_qg hk', goN_snoc] at h
    cases e : goN (f.take k) 0 with
    | none => rw [e] at h; cases h
    | some q =>
      rw [e] at h
      simp only [Option.bind_some] at h
      have hl := ih (by omega) e
      split at h
      · cases h
      · split at h
        · cases h
        · rename_i h2
          rw [runP_step hk', stepP_len _ _ (by rw [hl]; exact h2), hl]
          simpa using h
end Go.Proofs.YthbelehhhjngfaaDoor
