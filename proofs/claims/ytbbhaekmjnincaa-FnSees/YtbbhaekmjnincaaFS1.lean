/-
  A cell that one client watches along a script: plain mathematics.
-/
import Derived.Test.YtbbhaekmjnincaaCM11
import Derived.Test.YtbbhaekmjnincaaCM7
import Derived.Test.YtbbhaekmjnincaaCM8
import Derived.Test.YtbbhaekmjnincaaCM9
namespace Go.Proofs.Ytbbhaekmjnincaa
open Go.RowKit Pl Il

/-- The law's cell. -/
def cS (v n : Int) (ln gs : List Int) : Ct := ⟨1, v, ⟨#[]⟩, n, false, ln, gs⟩
/-- Who waits, and where. -/
def SeesM (n seen : Int) (b : Bool) (ln gs : List Int) : Prop := (b = false ∧ ln = [] ∧ gs = []) ∨ (b = true ∧ ln = [3] ∧ gs = [] ∧ n = seen) ∨ (b = true ∧ ln = [] ∧ gs = [3] ∧ seen < n)
theorem SeesM.idle {n seen : Int} : SeesM n seen false [] [] := .inl ⟨rfl, rfl, rfl⟩
theorem SeesM.line {n seen : Int} (h : n = seen) : SeesM n seen true [3] [] := .inr (.inl ⟨rfl, rfl, rfl, h⟩)
theorem SeesM.told {n seen : Int} (h : seen < n) : SeesM n seen true [] [3] := .inr (.inr ⟨rfl, rfl, rfl, h⟩)
theorem SeesM.elim {n seen : Int} {motive : (b : Bool) → (ln gs : List Int) → SeesM n seen b ln gs → Prop} (idle : motive false [] [] .idle) (line : ∀ h : n = seen, motive true [3] [] (.line h)) (told : ∀ h : seen < n, motive true [] [3] (.told h))
    {b : Bool} {ln gs : List Int} (h : SeesM n seen b ln gs) : motive b ln gs h := by
  rcases id h with ⟨rfl, rfl, rfl⟩ | ⟨rfl, rfl, rfl, k⟩ | ⟨rfl, rfl, rfl, k⟩
  · exact idle
  · exact line k
  · exact told k
theorem sees_wait {n seen : Int} {b : Bool} {ln gs : List Int} (h : SeesM n seen b ln gs) : waitL ln gs = true := by
  cases h using SeesM.elim <;> decide
theorem okc {v n seen : Int} {b : Bool} {ln gs : List Int} (h : SeesM n seen b ln gs) (v0 : 0 ≤ v) (v1 : v ≤ 255) (n0 : 0 ≤ n) (n1 : n ≤ 1000) : okC (cS v n ln gs) = true := by
  have hw := sees_wait h
  have h1 : okB 1 v ⟨#[]⟩ = true := by
    simp only [okB, if_true, okNum, Bool.and_eq_true, decide_eq_true_eq]
    exact ⟨by rw [ByteArray.toList_eq]; rfl, by omega, by omega⟩
  have h2 : cnt n = true := by simp only [cnt, Bool.and_eq_true, decide_eq_true_eq]; omega
  unfold okC cS
  rw [h1, h2, hw]
  rfl
theorem okB1 {v : Int} (v0 : 0 ≤ v) (v1 : v ≤ 255) : okB 1 v ⟨#[]⟩ = true := by
  simp only [okB, if_true, okNum, Bool.and_eq_true, decide_eq_true_eq]
  exact ⟨by rw [ByteArray.toList_eq]; rfl, by omega, by omega⟩
theorem up_cs {v n seen v' : Int} {b : Bool} {ln gs : List Int} (h : SeesM n seen b ln gs) (v0 : 0 ≤ v) (v1 : v ≤ 255) (n0 : 0 ≤ n) (n1 : n ≤ 1000) (u0 : 0 ≤ v') (u1 : v' ≤ 255) :
    updateM (cS v n ln gs) 1 1 v' ⟨#[]⟩ = (cS v' (n + 1) [] (gs ++ ln), ln, 0) := by
  have hc : changedM 1 v ⟨#[]⟩ 1 1 v' ⟨#[]⟩ = (1, v', ⟨#[]⟩, true) := by
    rw [ch_some (okB1 v0 v1) (okB1 u0 u1) (raw1 _ _ _ _ _ _), if_pos (okB1 u0 u1)]
  have hf : ¬ (n = 1000000000 ∨ 32 < ln.length + gs.length) := by
    cases h using SeesM.elim <;> simp <;> omega
  exact up_ok (x := cS v n ln gs) (okc h v0 v1 n0 n1) rfl hc hf
theorem sees_up {n seen : Int} {b : Bool} {ln gs : List Int} (h : SeesM n seen b ln gs) : SeesM (n + 1) seen b [] (gs ++ ln) := by
  cases h using SeesM.elim with
  | idle => exact .idle
  | line h => exact .told (by omega)
  | told h => exact .told (by omega)
theorem seen_line {v n seen : Int} (h : n = seen) (v0 : 0 ≤ v) (v1 : v ≤ 255) (n0 : 0 ≤ n) (n1 : n ≤ 1000) : seenM (cS v n [3] []) 3 = (cS v n [3] [], 0, 0, ⟨#[]⟩, 0, 4) := by
  have ho := okc (SeesM.line h) v0 v1 n0 n1
  unfold seenM
  rw [if_neg (by rw [ho]; simp), if_pos (by show hasL [3] 3 = true; decide)]
theorem seen_told {v n seen : Int} (h : seen < n) (v0 : 0 ≤ v) (v1 : v ≤ 255) (n0 : 0 ≤ n) (n1 : n ≤ 1000) : seenM (cS v n [] [3]) 3 = (cS v n [] [], 1, v, ⟨#[]⟩, n, 0) := by
  have ho := okc (SeesM.told h) v0 v1 n0 n1
  unfold seenM
  rw [if_neg (by rw [ho]; simp), if_neg (by show ¬ hasL [] 3 = true; decide), if_pos (by show hasL [3] 3 = true; decide)]
  rfl
theorem watch_now {v n seen : Int} (h : seen < n) (v0 : 0 ≤ v) (v1 : v ≤ 255) (n0 : 0 ≤ n) (n1 : n ≤ 1000) : watchM (cS v n [] []) 3 seen = (cS v n [] [], 0) := by
  have ho := okc (SeesM.idle (n := n) (seen := seen)) v0 v1 n0 n1
  unfold watchM
  rw [if_neg (by rw [ho]; rintro (k | k); cases k; exact absurd k (by decide)), if_neg (by rintro (k | k) <;> exact absurd k (by show ¬ hasL [] 3 = true; decide)), if_pos (show seen < (cS v n [] []).ve from h)]
theorem watch_wait {v n seen : Int} (h : ¬ seen < n) (v0 : 0 ≤ v) (v1 : v ≤ 255) (n0 : 0 ≤ n) (n1 : n ≤ 1000) : watchM (cS v n [] []) 3 seen = (cS v n [3] [], 4) := by
  have ho := okc (SeesM.idle (n := n) (seen := seen)) v0 v1 n0 n1
  unfold watchM
  rw [if_neg (by rw [ho]; rintro (k | k); cases k; exact absurd k (by decide)), if_neg (by rintro (k | k) <;> exact absurd k (by show ¬ hasL [] 3 = true; decide)), if_neg (show ¬ seen < (cS v n [] []).ve from h), if_neg (by show ¬ false = true; simp), if_neg (by show ¬ ([] : List Int).length = 32; simp)]
  rfl
theorem look_cs {v n seen : Int} (h : SeesM n seen false [] []) (v0 : 0 ≤ v) (v1 : v ≤ 255) (n0 : 0 ≤ n) (n1 : n ≤ 1000) : lookM (cS v n [] []) = (1, v, ⟨#[]⟩, n, 0) := by
  have ho := okc h v0 v1 n0 n1
  unfold lookM
  rw [if_neg (by rw [ho]; simp)]
  rfl
end Go.Proofs.Ytbbhaekmjnincaa
