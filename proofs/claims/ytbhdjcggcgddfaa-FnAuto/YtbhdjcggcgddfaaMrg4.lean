/-
  Events: plain mathematics of what is answered.
  Events: plain mathematics of raising one, and of stepping back.
  Events: plain mathematics of stepping back.
  Walks of the specification's lines: who joins, who leaves, who is woken.
  Walks of the specification's lines: who is woken.
  The plain mathematics of a queue whose places stand in a map (no program in it).
-/
import Derived.Test.YtbhdjcggcgddfaaKE
import Derived.Test.YtbhdjcggcgddfaaMrg2
import Derived.Deep.RegionHeld3
import Derived.Maps.OwnSet
namespace Go.Proofs.Ytbhdjcggcgddfaa
open Go.RowKit Pl Il

def upI (b : Bool) : Int := if b then 1 else 0
/-- What an Auto event holds. -/
def heldE (x : Et) : Int := x.sp + x.tk + (x.gs.length : Int) + upI x.up
def tallyE (x : Et) : Bool := if x.au then decide (x.st = heldE x) else (decide (x.st = 0) && decide (x.sp = 0) && decide (x.tk = 0))
/-- Who waits at it, and who was let go. -/
def waitE (x : Et) : Bool := waitL x.ln x.gs && !(x.up && decide (0 < x.ln.length))
/-- A right event. -/
def okE (x : Et) : Bool := waitE x && (cnt x.st && cnt x.sp && cnt x.tk) && tallyE x
theorem waitE_parts {x : Et} (h : waitE x = true) : lineL x.ln = true ∧ lineL x.gs = true ∧ x.ln.length ≤ 32 ∧ x.gs.length ≤ 32 ∧ (x.up = true → x.ln = []) := by
  simp only [waitE, waitL, Bool.and_eq_true] at h
  obtain ⟨⟨⟨h1, h2⟩, _⟩, h4⟩ := h
  have h5 := h1
  have h6 := h2
  simp only [lineL, Bool.and_eq_true, decide_eq_true_eq] at h5 h6
  refine ⟨h1, h2, h5.1, h6.1, fun hu => ?_⟩
  rw [hu] at h4
  simp at h4
  exact h4
theorem okE_parts {x : Et} (h : okE x = true) : (lineL x.ln = true ∧ lineL x.gs = true ∧ x.ln.length ≤ 32 ∧ x.gs.length ≤ 32 ∧ (x.up = true → x.ln = [])) ∧ (0 ≤ x.st ∧ x.st ≤ 1000000000) ∧ (0 ≤ x.sp ∧ x.sp ≤ 1000000000) ∧ (0 ≤ x.tk ∧ x.tk ≤ 1000000000) ∧ tallyE x = true := by
  simp only [okE, Bool.and_eq_true] at h
  obtain ⟨⟨h1, ⟨h2, h3⟩, h4⟩, h5⟩ := h
  exact ⟨waitE_parts h1, cnt_bd'' h2, cnt_bd'' h3, cnt_bd'' h4, h5⟩
/-- One that is not Auto counts nothing. -/
theorem okE_man {x : Et} (h : x.au = false) : okE x = (waitE x && (decide (x.st = 0) && decide (x.sp = 0) && decide (x.tk = 0))) := by
  unfold okE tallyE
  rw [h]
  simp only [Bool.false_eq_true, if_false]
  by_cases h1 : x.st = 0
  · by_cases h2 : x.sp = 0
    · by_cases h3 : x.tk = 0
      · simp [h1, h2, h3, cnt]
      · simp [h3]
    · simp [h2]
  · simp [h1]
def resetM (x : Et) : Et × Int :=
  if okE x = false then (x, 1) else if (x.au && x.up) = true then (if 1000000000 ≤ x.sp then (x, 2) else ({ x with up := false, sp := x.sp + 1 }, 0)) else ({ x with up := false }, 0)
def standM (x : Et) (who : Int) : Et × Int :=
  if okE x = false ∨ clientL who = false then (x, 1) else if hasL x.ln who = true ∨ hasL x.gs who = true then (x, 5)
  else if (x.au = true ∧ 1000000000 ≤ x.tk) ∨ (x.up = false ∧ 32 ≤ x.ln.length) then (x, 2)
  else if x.up = true then (if x.au = true then { x with up := false, tk := x.tk + 1 } else x, 0) else ({ x with ln := x.ln ++ [who] }, 4)
def goOnM (x : Et) (who : Int) : Et × Int :=
  if okE x = false then (x, 1) else if hasL x.ln who = true then (x, 4) else if hasL x.gs who = false then (x, 3) else if x.au = true ∧ 1000000000 ≤ x.tk then (x, 2)
  else ({ x with gs := lessL x.gs who, tk := if x.au = true then x.tk + 1 else x.tk }, 0)
theorem resetE_len (x : Et) : (resetM x).1.ln.length ≤ x.ln.length + x.gs.length + 1 ∧ (resetM x).1.gs.length ≤ x.ln.length + x.gs.length + 1 := by
  unfold resetM
  repeat' split
  all_goals (constructor <;> dsimp only <;> omega)
theorem standE_len (x : Et) (y : Int) : (standM x y).1.ln.length ≤ x.ln.length + x.gs.length + 1 ∧ (standM x y).1.gs.length ≤ x.ln.length + x.gs.length + 1 := by
  unfold standM
  repeat' split
  all_goals (constructor <;> simp <;> omega)
theorem goOnE_len (x : Et) (y : Int) : (goOnM x y).1.ln.length ≤ x.ln.length + x.gs.length + 1 ∧ (goOnM x y).1.gs.length ≤ x.ln.length + x.gs.length + 1 := by
  have := less_len x.gs y
  unfold goOnM
  repeat' split
  all_goals (constructor <;> dsimp only <;> omega)
end Go.Proofs.Ytbhdjcggcgddfaa
namespace Go.Proofs.Ytbhdjcggcgddfaa
open Go.RowKit Pl Il

/-- A raising of an Auto event is given on. -/
def passE (x : Et) : Et × List Int :=
  match x.ln with
  | who :: r => ({ x with ln := r, gs := x.gs ++ [who] }, [who])
  | [] => if x.up = true then ({ x with sp := x.sp + 1 }, []) else ({ x with up := true }, [])
/-- An Auto event takes no more raisings. -/
abbrev fullE (x : Et) : Prop := x.st = 1000000000 ∨ (0 < x.ln.length ∧ x.gs.length = 32)
def raiseM (x : Et) : Et × List Int × Int :=
  if okE x = false then (x, [], 1) else if x.au = true then (if fullE x then (x, [], 2) else ((passE { x with st := x.st + 1 }).1, (passE { x with st := x.st + 1 }).2, 0))
  else if 32 < x.ln.length + x.gs.length then (x, [], 2) else ({ x with up := true, ln := [], gs := x.gs ++ x.ln }, x.ln, 0)
theorem pass_lenE (x : Et) : (passE x).1.ln.length ≤ x.ln.length ∧ (passE x).1.gs.length ≤ x.gs.length + 1 ∧ (passE x).2.length ≤ 1 := by
  obtain ⟨au, up, ln, gs, st, sp, tk⟩ := x
  unfold passE
  cases ln with
  | nil => cases up <;> simp
  | cons a r => simp
theorem raiseE_len (x : Et) : (raiseM x).1.ln.length ≤ x.ln.length + x.gs.length + 1 ∧ (raiseM x).1.gs.length ≤ x.ln.length + x.gs.length + 1 ∧ (raiseM x).2.1.length ≤ x.ln.length + 1 := by
  have h := pass_lenE { x with st := x.st + 1 }
  simp only at h
  unfold raiseM
  repeat' split
  all_goals (refine ⟨?_, ?_, ?_⟩ <;> simp <;> omega)
end Go.Proofs.Ytbhdjcggcgddfaa
namespace Go.Proofs.Ytbhdjcggcgddfaa
open Go.RowKit Pl Il

def stepM (x : Et) (who : Int) : Et × List Int × Int :=
  if okE x = false then (x, [], 1) else if hasL x.ln who = true then ({ x with ln := lessL x.ln who }, [], 0) else if hasL x.gs who = false then (x, [], 3)
  else if x.au = true ∧ x.up = true ∧ 1000000000 ≤ x.sp then (x, [], 2) else if x.au = true then ((passE { x with gs := lessL x.gs who }).1, (passE { x with gs := lessL x.gs who }).2, 0) else ({ x with gs := lessL x.gs who }, [], 0)
theorem stepE_len (x : Et) (y : Int) : (stepM x y).1.ln.length ≤ x.ln.length + x.gs.length + 1 ∧ (stepM x y).1.gs.length ≤ x.ln.length + x.gs.length + 1 ∧ (stepM x y).2.1.length ≤ x.ln.length + 1 := by
  have h := pass_lenE { x with gs := lessL x.gs y }
  have h1 := less_len x.gs y
  have h2 := less_len x.ln y
  simp only at h
  unfold stepM
  repeat' split
  all_goals (refine ⟨?_, ?_, ?_⟩ <;> dsimp only [List.length_nil] <;> omega)
/-- Who waits was not told. -/
theorem wait_apart {x : Et} {who : Int} (h : okE x = true) (hh : hasL x.ln who = true) : lessL x.gs who = x.gs := by
  simp only [okE, waitE, waitL, Bool.and_eq_true] at h
  have ha := h.1.1.1.2
  refine List.erase_of_not_mem fun hm => ?_
  simp only [apartL, List.all_eq_true] at ha
  have := ha who hm
  rw [hh] at this
  simp at this
theorem less_not {xs : List Int} {who : Int} (h : hasL xs who = false) : lessL xs who = xs := List.erase_of_not_mem (by simpa [hasL] using h)
end Go.Proofs.Ytbhdjcggcgddfaa
namespace Go.Proofs.Ytbhdjcggcgddfaa
open Go.RowKit Pl Il

/-- What Join answers: the line, and the code. -/
def joinL (xs : List Int) (x : Int) : List Int × Int :=
  if !lineL xs || !clientL x then (xs, 1) else if hasL xs x then (xs, 5) else if 32 ≤ xs.length then (xs, 2) else (xs ++ [x], 0)
/-- What Leave answers: the line, and the code. -/
def leaveL (xs : List Int) (x : Int) : List Int × Int :=
  if !lineL xs then (xs, 1) else if !hasL xs x then (xs, 3) else (lessL xs x, 0)
theorem join_bad {xs : List Int} {x : Int} (h : lineL xs = false ∨ clientL x = false) : joinL xs x = (xs, 1) := by rcases h with h | h <;> simp [joinL, h]
theorem join_there {xs : List Int} {x : Int} (h1 : lineL xs = true) (h2 : clientL x = true) (h3 : hasL xs x = true) : joinL xs x = (xs, 5) := by simp [joinL, h1, h2, h3]
theorem join_full {xs : List Int} {x : Int} (h1 : lineL xs = true) (h2 : clientL x = true) (h3 : hasL xs x = false) (h4 : 32 ≤ xs.length) : joinL xs x = (xs, 2) := by simp [joinL, h1, h2, h3, h4]
theorem join_done {xs : List Int} {x : Int} (h1 : lineL xs = true) (h2 : clientL x = true) (h3 : hasL xs x = false) (h4 : ¬ 32 ≤ xs.length) : joinL xs x = (xs ++ [x], 0) := by simp only [joinL, h1, h2, h3, h4, Bool.not_true, Bool.or_self, if_false, Bool.false_eq_true]
theorem leave_bad {xs : List Int} {x : Int} (h : lineL xs = false) : leaveL xs x = (xs, 1) := by simp [leaveL, h]
theorem leave_none {xs : List Int} {x : Int} (h : lineL xs = true) (h2 : hasL xs x = false) : leaveL xs x = (xs, 3) := by simp [leaveL, h, h2]
theorem leave_done {xs : List Int} {x : Int} (h : lineL xs = true) (h2 : hasL xs x = true) : leaveL xs x = (lessL xs x, 0) := by simp [leaveL, h, h2]


end Go.Proofs.Ytbhdjcggcgddfaa
namespace Go.Proofs.Ytbhdjcggcgddfaa
open Go.RowKit Pl Il

/-- How many Wake wakes. -/
def wakeN (xs : List Int) (n : Int) : Nat := if n > (xs.length : Int) then xs.length else n.toNat
theorem wakeN_le (xs : List Int) (n : Int) (h : 0 ≤ n) : wakeN xs n ≤ xs.length := by
  unfold wakeN
  split <;> omega
theorem wakeN_over {xs : List Int} {n : Int} (h : n > (xs.length : Int)) : wakeN xs n = xs.length := by simp [wakeN, h]
theorem wakeN_in {xs : List Int} {n : Int} (h : ¬ n > (xs.length : Int)) : wakeN xs n = n.toNat := by simp only [wakeN, h, if_false]


theorem line_len {xs : List Int} (h : lineL xs = true) : xs.length ≤ 32 := by
  unfold lineL at h
  simp at h
  exact h.1

/-- Two lists that the call has made, apart from one another. -/
structure Both (w : World) (g1 m1 c1 : Nat) (xs : List Int) (g2 m2 c2 : Nat) (ys : List Int) (w' : World) : Prop where
  one : Owns w.heap.size w' g1 m1 c1 xs
  two : Owns w.heap.size w' g2 m2 c2 ys
  apart : g1 ≠ g2
  below : Below w.heap.size w w'
theorem both_of {w w1 w2 w3 : World} {g1 m1 c1 : Nat} {xs : List Int} {g2 m2 c2 : Nat} {ys : List Int} (h1 : Below w.heap.size w w1) (o1 : Owns w1.heap.size w2 g1 m1 c1 xs) (h2 : Below w1.heap.size w1 w2) (o2 : Owns w2.heap.size w3 g2 m2 c2 ys) (h3 : Below w2.heap.size w2 w3) :
    Both w g1 m1 c1 xs g2 m2 c2 ys w3 where
  one := owns_keep (owns_mono o1 h1.size) h3
  two := owns_mono o2 (Nat.le_trans h1.size h2.size)
  apart := by
    have a := (owns_parts o1).2.2.1
    have b := (owns_parts o2).2.1
    omega
  below := bl_trans (bl_trans h1 h2) h3




end Go.Proofs.Ytbhdjcggcgddfaa
namespace Go.Proofs.Ytbhdjcggcgddfaa
open Go.RowKit Pl Il

/-- The first place of x in xs, unless it has gone. -/
def placeG (xs gone : List Int) (x : Int) : Option Nat := if gone.contains x then none else xs.findIdx? (· == x)
/-- How many different ones stand in xs. -/
def dist (xs : List Int) : Nat := ((List.range xs.length).filter fun i => !hasL (xs.take i) (xs.getD i 0)).length
/-- Who stands still, of the first k. -/
def standTo (xs gone : List Int) (k : Nat) : List Int := ((List.range k).filter fun i => placeG xs gone (xs.getD i 0) == some i).map fun i => xs.getD i 0
theorem place_isSome (xs : List Int) (x : Int) : (placeG xs [] x).isSome = hasL xs x := by
  simp only [placeG, List.contains_nil, Bool.false_eq_true, if_false, hasL]
  rw [List.findIdx?_isSome]
  rw [Bool.eq_iff_iff]
  simp only [List.any_eq_true, beq_iff_eq, List.contains_eq_mem, decide_eq_true_eq]
  exact ⟨fun ⟨y, hy, e⟩ => e ▸ hy, fun h => ⟨x, h, rfl⟩⟩
theorem place_placeL (xs : List Int) (x : Int) : placeL xs x = match placeG xs [] x with | some i => (i : Int) | none => -1 := by
  simp only [placeL, placeG, List.contains_nil, Bool.false_eq_true, if_false]
  cases xs.findIdx? (· == x) <;> rfl

/-- What the map of places reads as. -/
structure Reads (D : DataW Unit) (xs gone : List Int) : Prop where
  has : ∀ x, Maps.has D (.int .i64 x) = (placeG xs gone x).isSome
  val : ∀ x i, placeG xs gone x = some i → D.atKey (.int .i64 x) (.lit (.int .i64 0)) = .lit (.int .i64 (i : Int))
  size : gone = [] → Maps.size D = dist xs
theorem Reads.empty : Reads (.map []) [] [] := ⟨fun x => by simp [Maps.has, placeG], fun x i h => by simp [placeG] at h, fun _ => rfl⟩

theorem lit_ne {x y : Int} (h : ¬ x = y) : Lit.int .i64 x ≠ Lit.int .i64 y := fun e => h (by injection e)

theorem dist_snoc (xs : List Int) (x : Int) : dist (xs ++ [x]) = dist xs + if hasL xs x then 0 else 1 := by
  unfold dist
  rw [List.length_append, List.length_singleton, List.range_succ, List.filter_append, List.length_append]
  congr 1
  · refine congrArg List.length (List.filter_congr fun i hi => ?_)
    have hi := List.mem_range.1 hi
    rw [List.take_append_of_le_length (Nat.le_of_lt hi)]
    simp [List.getD, List.getElem?_append_left hi]
  · have e : (xs ++ [x]).getD xs.length 0 = x := by simp [List.getD]
    have e2 : (xs ++ [x]).take xs.length = xs := by simp
    rw [List.filter_cons, List.filter_nil, e, e2]
    cases hasL xs x <;> simp
theorem dist_le (xs : List Int) : dist xs ≤ xs.length := by
  unfold dist
  exact Nat.le_trans (List.length_filter_le _ _) (by simp)

theorem Reads.join_new {D : DataW Unit} {xs : List Int} {x : Int} (h : Reads D xs []) (ht : Maps.Tidy D) (hx : hasL xs x = false) : Reads (D.put (.int .i64 x) (.lit (.int .i64 (xs.length : Int)))) (xs ++ [x]) [] := by
  have key : ∀ y, ¬ y = x → placeG (xs ++ [x]) [] y = placeG xs [] y := fun y hy => by
    simp only [placeG, List.contains_nil, Bool.false_eq_true, if_false]
    rw [List.findIdx?_append]
    have : [x].findIdx? (· == y) = none := by
      rw [List.findIdx?_eq_none_iff]
      intro z hz
      rw [List.mem_singleton] at hz
      subst hz
      simp only [beq_eq_false_iff_ne, ne_eq]
      exact fun e => hy e.symm
    simp [this]
  have self : placeG (xs ++ [x]) [] x = some xs.length := by
    have h0 : placeG xs [] x = none := by
      have := place_isSome xs x
      rw [hx] at this
      simpa using this
    simp only [placeG, List.contains_nil, Bool.false_eq_true, if_false] at h0 ⊢
    rw [List.findIdx?_append, h0]
    simp [List.findIdx?_cons]
  refine ⟨fun y => ?_, fun y i hi => ?_, fun _ => ?_⟩
  · by_cases e : y = x
    · subst e
      rw [Maps.has_put_same (k := .int .i64 y) ht.isMap trivial, self]; rfl
    · rw [Maps.has_put_other (lit_ne e), key y e]; exact h.has y
  · by_cases e : y = x
    · subst e
      rw [self] at hi
      injection hi with hi
      subst hi
      rw [Maps.atKey_put_same (k := .int .i64 y) ht.isMap trivial]
    · rw [Maps.atKey_put_other (lit_ne e)]
      rw [key y e] at hi
      exact h.val y i hi
  · rw [Maps.size_put ht, h.has x, place_isSome, hx, dist_snoc, hx, h.size rfl]
    simp
theorem Reads.join_old {D : DataW Unit} {xs : List Int} {x : Int} (h : Reads D xs []) (hx : hasL xs x = true) : Reads D (xs ++ [x]) [] := by
  have key : ∀ y, placeG (xs ++ [x]) [] y = placeG xs [] y := fun y => by
    by_cases e : y = x
    · subst e
      have := place_isSome xs y
      rw [hx] at this
      obtain ⟨i, hi⟩ := Option.isSome_iff_exists.1 this
      rw [hi]
      simp only [placeG, List.contains_nil, Bool.false_eq_true, if_false] at hi ⊢
      rw [List.findIdx?_append, hi]; rfl
    · simp only [placeG, List.contains_nil, Bool.false_eq_true, if_false]
      rw [List.findIdx?_append]
      have : [x].findIdx? (· == y) = none := by
        rw [List.findIdx?_eq_none_iff]
        intro z hz
        rw [List.mem_singleton] at hz
        subst hz
        simp only [beq_eq_false_iff_ne, ne_eq]
        exact fun e' => e e'.symm
      simp [this]
  refine ⟨fun y => ?_, fun y i hi => ?_, fun _ => ?_⟩
  · rw [key]; exact h.has y
  · rw [key] at hi; exact h.val y i hi
  · rw [dist_snoc, hx, h.size rfl]; simp
theorem place_gone (xs gone : List Int) (x y : Int) : placeG xs (gone ++ [x]) y = if y = x then none else placeG xs gone y := by
  unfold placeG
  by_cases e : y = x
  · subst e; simp
  · simp [e]
theorem Reads.leave {D : DataW Unit} {xs gone : List Int} {x : Int} (h : Reads D xs gone) : Reads (D.del (.int .i64 x)) xs (gone ++ [x]) := by
  refine ⟨fun y => ?_, fun y i hi => ?_, fun e => by simp at e⟩
  · rw [place_gone]
    by_cases e : y = x
    · subst e
      rw [Maps.has_del_same]; simp
    · rw [Maps.has_del_other (lit_ne e), h.has]; simp [e]
  · rw [place_gone] at hi
    by_cases e : y = x
    · subst e; simp at hi
    · rw [Maps.atKey_del_other (lit_ne e)]
      simp [e] at hi
      exact h.val y i hi

theorem stand_yes {xs gone : List Int} {k : Nat} {y : Int} (hy : xs.getD k 0 = y) (h : placeG xs gone y = some k) : standTo xs gone (k + 1) = standTo xs gone k ++ [y] := by
  unfold standTo
  rw [List.range_succ, List.filter_append, List.map_append]
  congr 1
  rw [List.filter_cons, hy, h]
  simp [List.getD] at hy
  simp [List.getD, hy]
theorem stand_no {xs gone : List Int} {k : Nat} {y : Int} (hy : xs.getD k 0 = y) (h : ¬ placeG xs gone y = some k) : standTo xs gone (k + 1) = standTo xs gone k := by
  unfold standTo
  rw [List.range_succ, List.filter_append, List.map_append]
  have : (placeG xs gone (xs.getD k 0) == some k) = false := by
    rw [hy, beq_eq_false_iff_ne]; exact h
  rw [List.filter_cons, this]
  simp
theorem stand_len (xs gone : List Int) (k : Nat) : (standTo xs gone k).length ≤ k := by
  unfold standTo
  rw [List.length_map]
  exact Nat.le_trans (List.length_filter_le _ _) (by simp)

theorem nodup_line {xs : List Int} (h : lineL xs = true) : xs.Nodup := by
  simp only [lineL, lineTo, Bool.and_eq_true, List.all_eq_true, List.mem_range] at h
  rw [List.nodup_iff_pairwise_ne, List.pairwise_iff_getElem]
  intro i j hi hj hij e
  have := (h.2 j hj).2
  have e2 : xs.getD j 0 = xs[j] := by simp [List.getD, List.getElem?_eq_getElem hj]
  rw [e2] at this
  have hm : xs[j] ∈ xs.take j := by
    rw [List.mem_take_iff_getElem]
    exact ⟨i, by omega, e⟩
  simp [hasL, hm] at this
theorem find_nodup {xs : List Int} (h : xs.Nodup) {i : Nat} (hi : i < xs.length) : xs.findIdx? (· == xs[i]) = some i := by
  rw [List.findIdx?_eq_some_iff_getElem]
  refine ⟨hi, by simp, fun j hj => ?_⟩
  intro e
  have e : xs[j]'(by omega) = xs[i] := by simpa using e
  rw [List.nodup_iff_pairwise_ne, List.pairwise_iff_getElem] at h
  exact h j i (by omega) hi hj e
theorem map_range (xs : List Int) : (List.range xs.length).map (fun i => xs.getD i 0) = xs := by
  apply List.ext_getElem
  · simp
  · intro i h1 h2
    simp [List.getD, List.getElem?_eq_getElem h2]
theorem stand_all {xs : List Int} (h : xs.Nodup) (gone : List Int) : standTo xs gone xs.length = xs.filter fun y => !gone.contains y := by
  have e : (List.range xs.length).filter (fun i => placeG xs gone (xs.getD i 0) == some i) = (List.range xs.length).filter ((fun y => !gone.contains y) ∘ fun i => xs.getD i 0) := by
    refine List.filter_congr fun i hi => ?_
    have hi := List.mem_range.1 hi
    have e : xs.getD i 0 = xs[i] := by simp [List.getD, List.getElem?_eq_getElem hi]
    simp only [Function.comp, e, placeG, find_nodup h hi]
    cases gone.contains xs[i] <;> simp
  unfold standTo
  rw [e, ← List.filter_map, map_range]
theorem stand_full {xs : List Int} (h : xs.Nodup) : standTo xs [] xs.length = xs := by
  rw [stand_all h]; simp
theorem stand_less {xs : List Int} (h : xs.Nodup) (x : Int) : standTo xs [x] xs.length = lessL xs x := by
  rw [stand_all h, lessL, h.erase_eq_filter]
  refine List.filter_congr fun y _ => ?_
  by_cases e : y = x <;> simp [e]
theorem stand_rest {xs : List Int} (h : xs.Nodup) (k : Nat) : standTo xs (xs.take k) xs.length = xs.drop k := by
  rw [stand_all h]
  have e : xs.filter (fun y => !(xs.take k).contains y) = (xs.take k ++ xs.drop k).filter (fun y => !(xs.take k).contains y) := by rw [List.take_append_drop]
  rw [e, List.filter_append, List.filter_eq_nil_iff.2 (fun y hy => by simp [hy]), List.nil_append, List.filter_eq_self.2 (fun y hy => ?_)]
  have h2 : (xs.take k ++ xs.drop k).Nodup := by rw [List.take_append_drop]; exact h
  have := (List.nodup_append.1 h2).2.2
  simp only [List.contains_eq_mem, Bool.not_eq_true', decide_eq_false_iff_not]
  exact fun hm => this y hm y hy rfl
theorem nodup_snoc {xs : List Int} (h : xs.Nodup) {x : Int} (hx : hasL xs x = false) : (xs ++ [x]).Nodup := by
  rw [List.nodup_append]
  refine ⟨h, by simp, fun a ha b hb e => ?_⟩
  rw [List.mem_singleton] at hb
  subst hb
  subst e
  simp [hasL, ha] at hx

theorem filter_len_eq {α : Type} {p : α → Bool} : ∀ {l : List α}, (l.filter p).length = l.length → ∀ x ∈ l, p x = true
  | [], _, x, hx => by cases hx
  | y :: r, h, x, hx => by
    cases hy : p y
    · rw [List.filter_cons, hy] at h
      have := List.length_filter_le p r
      simp at h
      omega
    · rw [List.filter_cons, hy] at h
      rcases List.mem_cons.1 hx with rfl | hx
      · exact hy
      · exact filter_len_eq (l := r) (by simpa using h) x hx
/-- All are clients: the line is right just if all are different. -/
theorem line_dist {xs : List Int} (h32 : xs.length ≤ 32) (hc : ∀ i, i < xs.length → clientL (xs.getD i 0) = true) : lineL xs = decide (dist xs = xs.length) := by
  rw [Bool.eq_iff_iff]
  simp only [lineL, h32, decide_true, Bool.true_and, decide_eq_true_eq]
  constructor
  · intro h
    simp only [lineTo, List.all_eq_true, List.mem_range, Bool.and_eq_true] at h
    unfold dist
    rw [List.filter_eq_self.2 (fun i hi => (h i (List.mem_range.1 hi)).2)]
    simp
  · intro h
    unfold dist at h
    have := filter_len_eq (l := List.range xs.length) (by rw [h]; simp)
    simp only [lineTo, List.all_eq_true, List.mem_range, Bool.and_eq_true]
    exact fun i hi => ⟨hc i hi, this i (List.mem_range.2 hi)⟩
end Go.Proofs.Ytbhdjcggcgddfaa
