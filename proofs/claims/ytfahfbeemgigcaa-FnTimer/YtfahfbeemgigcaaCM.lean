/-
  The plain mathematics of clocks (no program in it): which are right, their timers numbered, one set, some stopped, some told.
-/
import Derived.Test.YtfahfbeemgigcaaTH
namespace Go.Proofs.Ytfahfbeemgigcaa.Th

def okOne (m : Int) (p : Int × Int) : Bool := decide (m ≤ p.1) && decide (p.1 ≤ 1000000000) && decide (0 ≤ p.2) && decide (p.2 ≤ 23)
def okL : Int → List (Int × Int) → Bool
  | _, [] => true
  | m, p :: r => okOne m p && okL p.1 r
def okClock (now : Int) (ts : List (Int × Int)) : Bool := decide (0 ≤ now) && decide (now ≤ 1000000000) && decide (ts.length ≤ 40) && okL (now + 1) ts
def lastAt : Int → List (Int × Int) → Int
  | m, [] => m
  | _, p :: r => lastAt p.1 r
theorem okL_snoc : ∀ (m : Int) (l : List (Int × Int)) (p : Int × Int), okL m (l ++ [p]) = (okL m l && okOne (lastAt m l) p)
  | m, [], p => by simp [okL, lastAt]
  | m, q :: l, p => by simp [okL, lastAt, okL_snoc q.1 l p, Bool.and_assoc]
theorem lastAt_snoc : ∀ (m : Int) (l : List (Int × Int)) (p : Int × Int), lastAt m (l ++ [p]) = p.1
  | _, [], _ => rfl
  | _, q :: l, p => by simp [lastAt, lastAt_snoc q.1 l p]
theorem okOne_iff (m : Int) (p : Int × Int) : okOne m p = true ↔ m ≤ p.1 ∧ p.1 ≤ 1000000000 ∧ 0 ≤ p.2 ∧ p.2 ≤ 23 := by simp [okOne, and_assoc]
theorem okL_append : ∀ (m : Int) (l r : List (Int × Int)), okL m (l ++ r) = (okL m l && okL (lastAt m l) r)
  | m, [], r => by simp [okL, lastAt]
  | m, q :: l, r => by simp [okL, lastAt, okL_append q.1 l r, Bool.and_assoc]
theorem okL_bad {m : Int} {ts : List (Int × Int)} {k : Nat} (h : okL m (ts.take k) = false) : okL m ts = false := by
  have e := okL_append m (ts.take k) (ts.drop k)
  rw [List.take_append_drop, h] at e
  simpa using e
theorem okL_ge : ∀ {m : Int} {ts : List (Int × Int)}, okL m ts = true → ∀ p ∈ ts, m ≤ p.1 ∧ p.1 ≤ 1000000000 ∧ 0 ≤ p.2 ∧ p.2 ≤ 23
  | m, [], _, p, hp => by cases hp
  | m, q :: l, h, p, hp => by
    simp only [okL, Bool.and_eq_true] at h
    have hq := (okOne_iff m q).1 h.1
    rcases List.mem_cons.1 hp with rfl | hp
    · exact hq
    · have := okL_ge h.2 p hp
      omega
theorem lastAt_le : ∀ {m : Int} {ts : List (Int × Int)}, okL m ts = true → m ≤ lastAt m ts
  | m, [], _ => Int.le_refl _
  | m, q :: l, h => by
    simp only [okL, Bool.and_eq_true] at h
    have := lastAt_le h.2
    have := (okOne_iff m q).1 h.1
    simp only [lastAt]; omega

def numL : Int → List (Int × Int) → List NT
  | _, [] => []
  | k, p :: r => ⟨p.1, p.2, k⟩ :: numL (k + 1) r
def tmr (x : NT) : Int × Int := (x.tm, x.tok)
theorem length_numL : ∀ (k : Int) (ts : List (Int × Int)), (numL k ts).length = ts.length
  | _, [] => rfl
  | k, p :: r => by simp [numL, length_numL (k + 1) r]
theorem map_numL : ∀ (k : Int) (ts : List (Int × Int)), (numL k ts).map tmr = ts
  | _, [] => rfl
  | k, p :: r => by simp [numL, tmr, map_numL (k + 1) r]
theorem numL_snoc : ∀ (k : Int) (ts : List (Int × Int)) (p : Int × Int), numL k (ts ++ [p]) = numL k ts ++ [⟨p.1, p.2, k + (ts.length : Int)⟩]
  | k, [], p => by simp [numL]
  | k, q :: r, p => by
    simp only [List.cons_append, numL, numL_snoc (k + 1) r p, List.length_cons]
    congr 4
    omega
theorem numL_mem : ∀ {k : Int} {m : Int} {ts : List (Int × Int)}, okL m ts = true → ∀ x ∈ numL k ts, m ≤ x.tm ∧ x.tm ≤ 1000000000 ∧ k ≤ x.num ∧ x.num < k + (ts.length : Int)
  | k, m, [], _, x, hx => by cases hx
  | k, m, p :: r, h, x, hx => by
    simp only [okL, Bool.and_eq_true] at h
    have hq := (okOne_iff m p).1 h.1
    rcases List.mem_cons.1 hx with rfl | hx
    · simp only [List.length_cons]; omega
    · have := numL_mem h.2 x hx
      simp only [List.length_cons]; omega
theorem numL_sorted : ∀ {k m : Int} {ts : List (Int × Int)}, okL m ts = true → Sorted (numL k ts)
  | k, m, [], _ => List.Pairwise.nil
  | k, m, p :: r, h => by
    simp only [okL, Bool.and_eq_true] at h
    refine List.pairwise_cons.2 ⟨fun y hy => ?_, numL_sorted h.2⟩
    have := numL_mem h.2 y hy
    rw [soon_iff]
    simp only; omega
theorem push_num {m : Int} {ts : List (Int × Int)} {p : Int × Int} (h : okL m (ts ++ [p]) = true) : pushL (numL 0 ts) ⟨p.1, p.2, (ts.length : Int)⟩ = numL 0 (ts ++ [p]) := by
  rw [numL_snoc, Int.zero_add]
  refine push_same _ _ fun y hy => ?_
  have hs := numL_sorted (k := 0) h
  rw [numL_snoc, Int.zero_add] at hs
  exact le_of_lt ((List.pairwise_append.1 hs).2.2 y hy _ (List.mem_singleton.2 rfl))
theorem heap_of_sorted {s : List NT} (h : Sorted s) : Heap s s.length := heap_sorted (sorted_le h)

/-! One is set. -/
def insL (x : Int × Int) : List (Int × Int) → List (Int × Int)
  | [] => [x]
  | y :: r => if x.1 < y.1 then x :: y :: r else y :: insL x r
def insN (x : NT) : List NT → List NT
  | [] => [x]
  | y :: r => if x.tm < y.tm then x :: y :: r else y :: insN x r
theorem insN_map : ∀ (x : NT) (l : List NT), (insN x l).map tmr = insL (tmr x) (l.map tmr)
  | x, [] => rfl
  | x, y :: l => by
    simp only [insN, List.map_cons, insL]
    have e : (tmr x).1 < (tmr y).1 ↔ x.tm < y.tm := Iff.rfl
    by_cases h : x.tm < y.tm
    · rw [if_pos h, if_pos (e.2 h)]; rfl
    · rw [if_neg h, if_neg (fun k => h (e.1 k)), List.map_cons, insN_map x l]
theorem insN_perm : ∀ (x : NT) (l : List NT), (insN x l).Perm (x :: l)
  | x, [] => .refl _
  | x, y :: l => by
    simp only [insN]
    split
    · exact .refl _
    · exact ((insN_perm x l).cons y).trans (List.Perm.swap _ _ _)
theorem insN_sorted : ∀ {x : NT} {l : List NT}, Sorted l → (∀ y ∈ l, y.num < x.num) → Sorted (insN x l)
  | x, [], _, _ => List.pairwise_singleton _ _
  | x, y :: l, h, hn => by
    have hy := hn y List.mem_cons_self
    have hc := List.pairwise_cons.1 h
    simp only [insN]
    split
    · next hlt =>
      refine List.pairwise_cons.2 ⟨fun z hz => ?_, h⟩
      rcases List.mem_cons.1 hz with rfl | hz
      · rw [soon_iff]; omega
      · have := hc.1 z hz
        rw [soon_iff] at this ⊢
        omega
    · next hge =>
      refine List.pairwise_cons.2 ⟨fun z hz => ?_, insN_sorted hc.2 (fun z hz => hn z (List.mem_cons_of_mem _ hz))⟩
      rcases List.mem_cons.1 ((insN_perm x l).subset hz) with rfl | hz
      · rw [soon_iff]; omega
      · exact hc.1 z hz
theorem insN_tm : ∀ {x : NT} {l : List NT}, ∀ y ∈ insN x l, y = x ∨ y ∈ l := fun {x l} _ hy => List.mem_cons.1 ((insN_perm x l).subset hy)

/-! Some are stopped. -/
theorem filter_sorted {s : List NT} (h : Sorted s) (q : NT → Bool) : Sorted (s.filter q) := List.Pairwise.filter q h
theorem filter_numL (tok : Int) (k : Int) (ts : List (Int × Int)) : ((numL k ts).filter (fun x => !(x.tok == tok))).map tmr = ts.filter (fun p => !(p.2 == tok)) := by
  induction ts generalizing k with
  | nil => rfl
  | cons p r ih =>
    simp only [numL, List.filter_cons]
    by_cases h : p.2 == tok
    · simp [h, ih (k + 1)]
    · simp [h, tmr, ih (k + 1)]

/-! Some are told. -/
def dueL (t : Int) (ts : List (Int × Int)) : List (Int × Int) := ts.filter (fun p => decide (p.1 ≤ t))
def laterL (t : Int) (ts : List (Int × Int)) : List (Int × Int) := ts.filter (fun p => !decide (p.1 ≤ t))
/-- Where the numbered timers are parted. -/
theorem due_split : ∀ {k m t : Int} {ts : List (Int × Int)}, okL m ts = true → ∃ p r, numL k ts = p ++ r ∧ (∀ x ∈ p, x.tm ≤ t) ∧ (∀ x ∈ r, ¬ x.tm ≤ t) ∧ p.map tmr = dueL t ts ∧ r.map tmr = laterL t ts
  | k, m, t, [], _ => ⟨[], [], rfl, by simp, by simp, rfl, rfl⟩
  | k, m, t, q :: ts, h => by
    simp only [okL, Bool.and_eq_true] at h
    by_cases hq : q.1 ≤ t
    · obtain ⟨p, r, h1, h2, h3, h4, h5⟩ := due_split (k := k + 1) (t := t) h.2
      refine ⟨⟨q.1, q.2, k⟩ :: p, r, by simp [numL, h1], ?_, h3, by simp [tmr, h4, dueL, hq], by simp [h5, laterL, hq]⟩
      intro x hx
      rcases List.mem_cons.1 hx with rfl | hx
      · exact hq
      · exact h2 x hx
    · have hall : ∀ x ∈ numL k (q :: ts), ¬ x.tm ≤ t := by
        intro x hx
        rcases List.mem_cons.1 hx with rfl | hx
        · exact hq
        · have := numL_mem h.2 x hx
          omega
      have ha : ∀ p ∈ q :: ts, ¬ p.1 ≤ t := by
        intro p hp
        rcases List.mem_cons.1 hp with rfl | hp
        · exact hq
        · have := okL_ge h.2 p hp; omega
      refine ⟨[], numL k (q :: ts), rfl, by simp, hall, ?_, ?_⟩
      · simp only [dueL, List.map_nil]
        exact (List.filter_eq_nil_iff.2 (fun p hp => by simpa using ha p hp)).symm
      · rw [map_numL]
        exact (List.filter_eq_self.2 (fun p hp => by simpa using ha p hp)).symm
end Go.Proofs.Ytfahfbeemgigcaa.Th
