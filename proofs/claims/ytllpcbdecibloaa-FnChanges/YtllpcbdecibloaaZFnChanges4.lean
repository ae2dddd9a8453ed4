/-
  Cells: plain mathematics of what is answered.
  Cells: what a look, and one who has been told, is answered.
  Walks of the specification's lines: who joins, who leaves, who is woken.
  Walks of the specification's lines: who is woken.
  The plain mathematics of a queue whose places stand in a map (no program in it).
  The program's queue in memory, and walks of its small methods.
  Walks of the program's queue: who joins.
  Walks of the program's queue: made of a list, and looked at.
  Walks of the program's queue: who stands.
  Walks of the program's lists: a copy.
  Walks of the program's lists: a copy, and who is woken.
-/
import Derived.Test.YtllpcbdecibloaaZFnChanges3
import Derived.Test.YtllpcbdecibloaaZFnChanges2
import Derived.Deep.RegionHeld3
import Derived.Maps.OwnSet
import Derived.Deep.Upon
namespace Go.Proofs.Ytllpcbdecibloaa
open Go.RowKit Pl Il

/-- A right cell. -/
def okC (x : Ct) : Bool := okB x.kd x.nu x.tx && cnt x.ve && waitL x.ln x.gs && !(x.cl && decide (0 < x.ln.length))
theorem okC_parts {x : Ct} (h : okC x = true) : okB x.kd x.nu x.tx = true ∧ (0 ≤ x.ve ∧ x.ve ≤ 1000000000) ∧ lineL x.ln = true ∧ lineL x.gs = true ∧ (x.cl = true → x.ln = []) := by
  simp only [okC, Bool.and_eq_true, waitL] at h
  obtain ⟨⟨⟨h1, h2⟩, ⟨h3, h4⟩, _⟩, h5⟩ := h
  refine ⟨h1, cnt_bd'' h2, h3, h4, fun e => ?_⟩
  rw [e] at h5
  simp at h5
  exact h5
def watchM (x : Ct) (who seen : Int) : Ct × Int :=
  if okC x = false ∨ clientL who = false then (x, 1) else if hasL x.ln who = true ∨ hasL x.gs who = true then (x, 5) else if seen < x.ve then (x, 0) else if x.cl = true then (x, 6) else if x.ln.length = 32 then (x, 2) else ({ x with ln := x.ln ++ [who] }, 4)
def unwatchM (x : Ct) (who : Int) : Ct × Int :=
  if okC x = false then (x, 1) else if hasL x.ln who = false ∧ hasL x.gs who = false then (x, 3) else ({ x with ln := lessL x.ln who, gs := lessL x.gs who }, 0)
theorem watch_len (x : Ct) (y z : Int) : (watchM x y z).1.ln.length ≤ x.ln.length + x.gs.length + 1 ∧ (watchM x y z).1.gs.length ≤ x.ln.length + x.gs.length + 1 := by
  unfold watchM
  repeat' split
  all_goals first | (simp; omega) | (simp; done)
theorem unwatch_len (x : Ct) (y : Int) : (unwatchM x y).1.ln.length ≤ x.ln.length + x.gs.length + 1 ∧ (unwatchM x y).1.gs.length ≤ x.ln.length + x.gs.length + 1 := by
  have h1 : (lessL x.gs y).length ≤ x.gs.length := by unfold lessL; exact List.length_erase_le
  have h2 : (lessL x.ln y).length ≤ x.ln.length := by unfold lessL; exact List.length_erase_le
  unfold unwatchM
  repeat' split
  all_goals (constructor <;> dsimp only <;> omega)
end Go.Proofs.Ytllpcbdecibloaa
namespace Go.Proofs.Ytllpcbdecibloaa
open Go.RowKit Pl Il

/-- How a look ends. -/
def lookC (x : Ct) : Int := if x.cl = true then 6 else 0
theorem lookC_no {x : Ct} (h : false = x.cl) : lookC x = 0 := by unfold lookC; rw [← h]; rfl
theorem lookC_yes {x : Ct} (h : true = x.cl) : lookC x = 6 := by unfold lookC; rw [← h]; rfl
def lookM (x : Ct) : Int × Int × ByteArray × Int × Int := if okC x = false then (0, 0, ⟨#[]⟩, 0, 1) else (x.kd, x.nu, x.tx, x.ve, lookC x)
/-- A look's answer. -/
def LookP (x : Ct) (e : Ending) : Prop := e = .returned (.tuple #[.agg #[.int .i64 (lookM x).1, .int .i64 (lookM x).2.1, .string (lookM x).2.2.1], .int .i64 (lookM x).2.2.2.1, .int .i64 (lookM x).2.2.2.2])
end Go.Proofs.Ytllpcbdecibloaa
namespace Go.Proofs.Ytllpcbdecibloaa
open Go.RowKit Pl Il

/-- What Join answers: the line, and the code. -/
def joinL (xs : List Int) (x : Int) : List Int × Int :=
  if !lineL xs || !clientL x then (xs, 1) else if hasL xs x then (xs, 5) else if 32 ≤ xs.length then (xs, 2) else (xs ++ [x], 0)
/-- What Leave answers: the line, and the code. -/
def leaveL (xs : List Int) (x : Int) : List Int × Int :=
  if !lineL xs then (xs, 1) else if !hasL xs x then (xs, 3) else (lessL xs x, 0)
theorem join_bad {xs : List Int} {x : Int} (h : lineL xs = false ∨ clientL x = false) : joinL xs x = (xs, 1) := by rcases h with h | h <;> simp [joinL, h]
theorem join_there {xs : List Int} {x : Int} (h1 : lineL xs = true) (h2 : clientL x = true) (h3 : hasL xs x = true) : joinL xs x = (xs, 5) := by simp [joinL, h1, h2, h3]
theorem join_full {xs : List Int} {x : Int} (h1 : lineL xs = true) (h2 : clientL x = true) (h3 : hasL xs x = false) (h4 : 32 ≤ xs.length) : joinL xs x = (xs, 2) := by simp [joinL, h1, h2, h3, h4]
theorem join_done {xs : List Int} {x : Int} (h1 : lineL xs = true) (h2 : clientL x = true) (h3 : hasL xs x = false) (h4 : ¬ 32 ≤ xs.length) : joinL xs x = (xs ++ [x], 0) := by simp only [joinL, h1, h2, h3, h4, Bool.not_true, Bool.or_self, if_false, Bool.false_eq_true]
theorem leave_bad {xs : List Int} {x : Int} (h : lineL xs = false) : leaveL xs x = (xs, 1) := by simp [leaveL, h]
theorem leave_none {xs : List Int} {x : Int} (h : lineL xs = true) (h2 : hasL xs x = false) : leaveL xs x = (xs, 3) := by simp [leaveL, h, h2]
theorem leave_done {xs : List Int} {x : Int} (h : lineL xs = true) (h2 : hasL xs x = true) : leaveL xs x = (lessL xs x, 0) := by simp [leaveL, h, h2]


end Go.Proofs.Ytllpcbdecibloaa
namespace Go.Proofs.Ytllpcbdecibloaa
open Go.RowKit Pl Il

/-- How many Wake wakes. -/
def wakeN (xs : List Int) (n : Int) : Nat := if n > (xs.length : Int) then xs.length else n.toNat
theorem wakeN_le (xs : List Int) (n : Int) (h : 0 ≤ n) : wakeN xs n ≤ xs.length := by
  unfold wakeN
  split <;> omega
theorem wakeN_over {xs : List Int} {n : Int} (h : n > (xs.length : Int)) : wakeN xs n = xs.length := by simp [wakeN, h]
theorem wakeN_in {xs : List Int} {n : Int} (h : ¬ n > (xs.length : Int)) : wakeN xs n = n.toNat := by simp only [wakeN, h, if_false]


theorem line_len {xs : List Int} (h : lineL xs = true) : xs.length ≤ 32 := by
  unfold lineL at h
  simp at h
  exact h.1

/-- Two lists that the call has made, apart from one another. -/
structure Both (w : World) (g1 m1 c1 : Nat) (xs : List Int) (g2 m2 c2 : Nat) (ys : List Int) (w' : World) : Prop where
  one : Owns w.heap.size w' g1 m1 c1 xs
  two : Owns w.heap.size w' g2 m2 c2 ys
  apart : g1 ≠ g2
  below : Below w.heap.size w w'
theorem both_of {w w1 w2 w3 : World} {g1 m1 c1 : Nat} {xs : List Int} {g2 m2 c2 : Nat} {ys : List Int} (h1 : Below w.heap.size w w1) (o1 : Owns w1.heap.size w2 g1 m1 c1 xs) (h2 : Below w1.heap.size w1 w2) (o2 : Owns w2.heap.size w3 g2 m2 c2 ys) (h3 : Below w2.heap.size w2 w3) :
    Both w g1 m1 c1 xs g2 m2 c2 ys w3 where
  one := owns_keep (owns_mono o1 h1.size) h3
  two := owns_mono o2 (Nat.le_trans h1.size h2.size)
  apart := by
    have a := (owns_parts o1).2.2.1
    have b := (owns_parts o2).2.1
    omega
  below := bl_trans (bl_trans h1 h2) h3




end Go.Proofs.Ytllpcbdecibloaa
namespace Go.Proofs.Ytllpcbdecibloaa
open Go.RowKit Pl Il

/-- The first place of x in xs, unless it has gone. -/
def placeG (xs gone : List Int) (x : Int) : Option Nat := if gone.contains x then none else xs.findIdx? (· == x)
/-- How many different ones stand in xs. -/
def dist (xs : List Int) : Nat := ((List.range xs.length).filter fun i => !hasL (xs.take i) (xs.getD i 0)).length
/-- Who stands still, of the first k. -/
def standTo (xs gone : List Int) (k : Nat) : List Int := ((List.range k).filter fun i => placeG xs gone (xs.getD i 0) == some i).map fun i => xs.getD i 0
theorem place_isSome (xs : List Int) (x : Int) : (placeG xs [] x).isSome = hasL xs x := by
  simp only [placeG, List.contains_nil, Bool.false_eq_true, if_false, hasL]
  rw [List.findIdx?_isSome]
  rw [Bool.eq_iff_iff]
  simp only [List.any_eq_true, beq_iff_eq, List.contains_eq_mem, decide_eq_true_eq]
  exact ⟨fun ⟨y, hy, e⟩ => e ▸ hy, fun h => ⟨x, h, rfl⟩⟩
theorem place_placeL (xs : List Int) (x : Int) : placeL xs x = match placeG xs [] x with | some i => (i : Int) | none => -1 := by
  simp only [placeL, placeG, List.contains_nil, Bool.false_eq_true, if_false]
  cases xs.findIdx? (· == x) <;> rfl

/-- What the map of places reads as. -/
structure Reads (D : DataW Unit) (xs gone : List Int) : Prop where
  has : ∀ x, Maps.has D (.int .i64 x) = (placeG xs gone x).isSome
  val : ∀ x i, placeG xs gone x = some i → D.atKey (.int .i64 x) (.lit (.int .i64 0)) = .lit (.int .i64 (i : Int))
  size : gone = [] → Maps.size D = dist xs
theorem Reads.empty : Reads (.map []) [] [] := ⟨fun x => by simp [Maps.has, placeG], fun x i h => by simp [placeG] at h, fun _ => rfl⟩

theorem lit_ne {x y : Int} (h : ¬ x = y) : Lit.int .i64 x ≠ Lit.int .i64 y := fun e => h (by injection e)

theorem dist_snoc (xs : List Int) (x : Int) : dist (xs ++ [x]) = dist xs + if hasL xs x then 0 else 1 := by
  unfold dist
  rw [List.length_append, List.length_singleton, List.range_succ, List.filter_append, List.length_append]
  congr 1
  · refine congrArg List.length (List.filter_congr fun i hi => ?_)
    have hi := List.mem_range.1 hi
    rw [List.take_append_of_le_length (Nat.le_of_lt hi)]
    simp [List.getD, List.getElem?_append_left hi]
  · have e : (xs ++ [x]).getD xs.length 0 = x := by simp [List.getD]
    have e2 : (xs ++ [x]).take xs.length = xs := by simp
    rw [List.filter_cons, List.filter_nil, e, e2]
    cases hasL xs x <;> simp
theorem dist_le (xs : List Int) : dist xs ≤ xs.length := by
  unfold dist
  exact Nat.le_trans (List.length_filter_le _ _) (by simp)

theorem Reads.join_new {D : DataW Unit} {xs : List Int} {x : Int} (h : Reads D xs []) (ht : Maps.Tidy D) (hx : hasL xs x = false) : Reads (D.put (.int .i64 x) (.lit (.int .i64 (xs.length : Int)))) (xs ++ [x]) [] := by
  have key : ∀ y, ¬ y = x → placeG (xs ++ [x]) [] y = placeG xs [] y := fun y hy => by
    simp only [placeG, List.contains_nil, Bool.false_eq_true, if_false]
    rw [List.findIdx?_append]
    have : [x].findIdx? (· == y) = none := by
      rw [List.findIdx?_eq_none_iff]
      intro z hz
      rw [List.mem_singleton] at hz
      subst hz
      simp only [beq_eq_false_iff_ne, ne_eq]
      exact fun e => hy e.symm
    simp [this]
  have self : placeG (xs ++ [x]) [] x = some xs.length := by
    have h0 : placeG xs [] x = none := by
      have := place_isSome xs x
      rw [hx] at this
      simpa using this
    simp only [placeG, List.contains_nil, Bool.false_eq_true, if_false] at h0 ⊢
    rw [List.findIdx?_append, h0]
    simp [List.findIdx?_cons]
  refine ⟨fun y => ?_, fun y i hi => ?_, fun _ => ?_⟩
  · by_cases e : y = x
    · subst e
      rw [Maps.has_put_same (k := .int .i64 y) ht.isMap trivial, self]; rfl
    · rw [Maps.has_put_other (lit_ne e), key y e]; exact h.has y
  · by_cases e : y = x
    · subst e
      rw [self] at hi
      injection hi with hi
      subst hi
      rw [Maps.atKey_put_same (k := .int .i64 y) ht.isMap trivial]
    · rw [Maps.atKey_put_other (lit_ne e)]
      rw [key y e] at hi
      exact h.val y i hi
  · rw [Maps.size_put ht, h.has x, place_isSome, hx, dist_snoc, hx, h.size rfl]
    simp
theorem Reads.join_old {D : DataW Unit} {xs : List Int} {x : Int} (h : Reads D xs []) (hx : hasL xs x = true) : Reads D (xs ++ [x]) [] := by
  have key : ∀ y, placeG (xs ++ [x]) [] y = placeG xs [] y := fun y => by
    by_cases e : y = x
    · subst e
      have := place_isSome xs y
      rw [hx] at this
      obtain ⟨i, hi⟩ := Option.isSome_iff_exists.1 this
      rw [hi]
      simp only [placeG, List.contains_nil, Bool.false_eq_true, if_false] at hi ⊢
      rw [List.findIdx?_append, hi]; rfl
    · simp only [placeG, List.contains_nil, Bool.false_eq_true, if_false]
      rw [List.findIdx?_append]
      have : [x].findIdx? (· == y) = none := by
        rw [List.findIdx?_eq_none_iff]
        intro z hz
        rw [List.mem_singleton] at hz
        subst hz
        simp only [beq_eq_false_iff_ne, ne_eq]
        exact fun e' => e e'.symm
      simp [this]
  refine ⟨fun y => ?_, fun y i hi => ?_, fun _ => ?_⟩
  · rw [key]; exact h.has y
  · rw [key] at hi; exact h.val y i hi
  · rw [dist_snoc, hx, h.size rfl]; simp
theorem place_gone (xs gone : List Int) (x y : Int) : placeG xs (gone ++ [x]) y = if y = x then none else placeG xs gone y := by
  unfold placeG
  by_cases e : y = x
  · subst e; simp
  · simp [e]
theorem Reads.leave {D : DataW Unit} {xs gone : List Int} {x : Int} (h : Reads D xs gone) : Reads (D.del (.int .i64 x)) xs (gone ++ [x]) := by
  refine ⟨fun y => ?_, fun y i hi => ?_, fun e => by simp at e⟩
  · rw [place_gone]
    by_cases e : y = x
    · subst e
      rw [Maps.has_del_same]; simp
    · rw [Maps.has_del_other (lit_ne e), h.has]; simp [e]
  · rw [place_gone] at hi
    by_cases e : y = x
    · subst e; simp at hi
    · rw [Maps.atKey_del_other (lit_ne e)]
      simp [e] at hi
      exact h.val y i hi

theorem stand_yes {xs gone : List Int} {k : Nat} {y : Int} (hy : xs.getD k 0 = y) (h : placeG xs gone y = some k) : standTo xs gone (k + 1) = standTo xs gone k ++ [y] := by
  unfold standTo
  rw [List.range_succ, List.filter_append, List.map_append]
  congr 1
  rw [List.filter_cons, hy, h]
  simp [List.getD] at hy
  simp [List.getD, hy]
theorem stand_no {xs gone : List Int} {k : Nat} {y : Int} (hy : xs.getD k 0 = y) (h : ¬ placeG xs gone y = some k) : standTo xs gone (k + 1) = standTo xs gone k := by
  unfold standTo
  rw [List.range_succ, List.filter_append, List.map_append]
  have : (placeG xs gone (xs.getD k 0) == some k) = false := by
    rw [hy, beq_eq_false_iff_ne]; exact h
  rw [List.filter_cons, this]
  simp
theorem stand_len (xs gone : List Int) (k : Nat) : (standTo xs gone k).length ≤ k := by
  unfold standTo
  rw [List.length_map]
  exact Nat.le_trans (List.length_filter_le _ _) (by simp)

theorem nodup_line {xs : List Int} (h : lineL xs = true) : xs.Nodup := by
  simp only [lineL, lineTo, Bool.and_eq_true, List.all_eq_true, List.mem_range] at h
  rw [List.nodup_iff_pairwise_ne, List.pairwise_iff_getElem]
  intro i j hi hj hij e
  have := (h.2 j hj).2
  have e2 : xs.getD j 0 = xs[j] := by simp [List.getD, List.getElem?_eq_getElem hj]
  rw [e2] at this
  have hm : xs[j] ∈ xs.take j := by
    rw [List.mem_take_iff_getElem]
    exact ⟨i, by omega, e⟩
  simp [hasL, hm] at this
theorem find_nodup {xs : List Int} (h : xs.Nodup) {i : Nat} (hi : i < xs.length) : xs.findIdx? (· == xs[i]) = some i := by
  rw [List.findIdx?_eq_some_iff_getElem]
  refine ⟨hi, by simp, fun j hj => ?_⟩
  intro e
  have e : xs[j]'(by omega) = xs[i] := by simpa using e
  rw [List.nodup_iff_pairwise_ne, List.pairwise_iff_getElem] at h
  exact h j i (by omega) hi hj e
theorem map_range (xs : List Int) : (List.range xs.length).map (fun i => xs.getD i 0) = xs := by
  apply List.ext_getElem
  · simp
  · intro i h1 h2
    simp [List.getD, List.getElem?_eq_getElem h2]
theorem stand_all {xs : List Int} (h : xs.Nodup) (gone : List Int) : standTo xs gone xs.length = xs.filter fun y => !gone.contains y := by
  have e : (List.range xs.length).filter (fun i => placeG xs gone (xs.getD i 0) == some i) = (List.range xs.length).filter ((fun y => !gone.contains y) ∘ fun i => xs.getD i 0) := by
    refine List.filter_congr fun i hi => ?_
    have hi := List.mem_range.1 hi
    have e : xs.getD i 0 = xs[i] := by simp [List.getD, List.getElem?_eq_getElem hi]
    simp only [Function.comp, e, placeG, find_nodup h hi]
    cases gone.contains xs[i] <;> simp
  unfold standTo
  rw [e, ← List.filter_map, map_range]
theorem stand_full {xs : List Int} (h : xs.Nodup) : standTo xs [] xs.length = xs := by
  rw [stand_all h]; simp
theorem stand_less {xs : List Int} (h : xs.Nodup) (x : Int) : standTo xs [x] xs.length = lessL xs x := by
  rw [stand_all h, lessL, h.erase_eq_filter]
  refine List.filter_congr fun y _ => ?_
  by_cases e : y = x <;> simp [e]
theorem stand_rest {xs : List Int} (h : xs.Nodup) (k : Nat) : standTo xs (xs.take k) xs.length = xs.drop k := by
  rw [stand_all h]
  have e : xs.filter (fun y => !(xs.take k).contains y) = (xs.take k ++ xs.drop k).filter (fun y => !(xs.take k).contains y) := by rw [List.take_append_drop]
  rw [e, List.filter_append, List.filter_eq_nil_iff.2 (fun y hy => by simp [hy]), List.nil_append, List.filter_eq_self.2 (fun y hy => ?_)]
  have h2 : (xs.take k ++ xs.drop k).Nodup := by rw [List.take_append_drop]; exact h
  have := (List.nodup_append.1 h2).2.2
  simp only [List.contains_eq_mem, Bool.not_eq_true', decide_eq_false_iff_not]
  exact fun hm => this y hm y hy rfl
theorem nodup_snoc {xs : List Int} (h : xs.Nodup) {x : Int} (hx : hasL xs x = false) : (xs ++ [x]).Nodup := by
  rw [List.nodup_append]
  refine ⟨h, by simp, fun a ha b hb e => ?_⟩
  rw [List.mem_singleton] at hb
  subst hb
  subst e
  simp [hasL, ha] at hx

theorem filter_len_eq {α : Type} {p : α → Bool} : ∀ {l : List α}, (l.filter p).length = l.length → ∀ x ∈ l, p x = true
  | [], _, x, hx => by cases hx
  | y :: r, h, x, hx => by
    cases hy : p y
    · rw [List.filter_cons, hy] at h
      have := List.length_filter_le p r
      simp at h
      omega
    · rw [List.filter_cons, hy] at h
      rcases List.mem_cons.1 hx with rfl | hx
      · exact hy
      · exact filter_len_eq (l := r) (by simpa using h) x hx
/-- All are clients: the line is right just if all are different. -/
theorem line_dist {xs : List Int} (h32 : xs.length ≤ 32) (hc : ∀ i, i < xs.length → clientL (xs.getD i 0) = true) : lineL xs = decide (dist xs = xs.length) := by
  rw [Bool.eq_iff_iff]
  simp only [lineL, h32, decide_true, Bool.true_and, decide_eq_true_eq]
  constructor
  · intro h
    simp only [lineTo, List.all_eq_true, List.mem_range, Bool.and_eq_true] at h
    unfold dist
    rw [List.filter_eq_self.2 (fun i hi => (h i (List.mem_range.1 hi)).2)]
    simp
  · intro h
    unfold dist at h
    have := filter_len_eq (l := List.range xs.length) (by rw [h]; simp)
    simp only [lineTo, List.all_eq_true, List.mem_range, Bool.and_eq_true]
    exact fun i hi => ⟨hc i hi, this i (List.mem_range.2 hi)⟩
end Go.Proofs.Ytllpcbdecibloaa
namespace Go.Proofs.Ytllpcbdecibloaa
open Go.RowKit Go.Maps Pl Il

theorem law3 : Keyed Try.prog 3 := int_keyed Try.underlying3
theorem zero3 (w : World) : (zeroValue 3).run Try.prog w = .ok (.int .i64 0) w := by kernel_rfl

/-- The parts of a queue in memory: its own block qb, the row of those who came (cv), the map of places (block mb, at most n entries, reading as D). -/
structure QMem (B : Nat) (w : World) (qb mb : Nat) (cv : Value) (D : DataW Unit) (n : Nat) (xs : List Int) : Prop where
  blk : w.heap[qb]? = some (.cells #[cv, .map (some mb)] 175 (0, 0))
  row : w.ownsRow B 3 1 cv xs.length (xs.map (Value.int .i64))
  map : w.ownsMap Try.prog 3 (plainElem Try.prog 3) mb n D
  ge : B ≤ qb
  ge' : B ≤ mb
structure QParts (B : Nat) (w : World) (qb mb : Nat) (cv : Value) (D : DataW Unit) (xs gone : List Int) : Prop where
  mem : QMem B w qb mb cv D xs.length xs
  rd : Reads D xs gone
/-- A queue at block qb: xs came, gone have left. -/
def QAt (B : Nat) (w : World) (qb : Nat) (xs gone : List Int) : Prop := ∃ mb cv D, QParts B w qb mb cv D xs gone

section
variable {B : Nat} {w : World} {qb mb n : Nat} {cv : Value} {D : DataW Unit} {xs gone : List Int}
theorem QMem.lt (h : QMem B w qb mb cv D n xs) : qb < w.heap.size := by
  rcases Nat.lt_or_ge qb w.heap.size with k | k
  · exact k
  · have := h.blk
    rw [Array.getElem?_eq_none k] at this; cases this
theorem QMem.size (h : QMem B w qb mb cv D n xs) : B ≤ w.heap.size := Nat.le_trans h.ge (Nat.le_of_lt h.lt)
theorem QMem.c0 (h : QMem B w qb mb cv D n xs) : w.cell? ⟨qb, 0, none⟩ = some cv := by simp [World.cell?, h.blk]
theorem QMem.c1 (h : QMem B w qb mb cv D n xs) : w.cell? ⟨qb, 1, none⟩ = some (.map (some mb)) := by simp [World.cell?, h.blk]
theorem QMem.f0 (h : QMem B w qb mb cv D n xs) : w.frozen? ⟨qb, 0, none⟩ = false := by simp [World.frozen?, h.blk]
theorem QMem.ne (h : QMem B w qb mb cv D n xs) : mb ≠ qb := by
  obtain ⟨es, clock, hb, _⟩ := h.map
  rintro rfl
  rw [h.blk] at hb; cases hb
theorem QMem.rowQ (h : QMem B w qb mb cv D n xs) : cv.ownBlock ≠ some qb := by
  intro e
  obtain ⟨_, ⟨rfl, _⟩ | ⟨g, cap, cur, rfl, _, hg, _⟩⟩ := h.row
  · cases e
  · simp [Value.ownBlock] at e
    subst e
    rw [h.blk] at hg
    simp at hg
theorem QMem.rowM (h : QMem B w qb mb cv D n xs) : cv.ownBlock ≠ some mb := by
  intro e
  obtain ⟨es, clock, hb, _⟩ := h.map
  obtain ⟨_, ⟨rfl, _⟩ | ⟨g, cap, cur, rfl, _, hg, _⟩⟩ := h.row
  · cases e
  · simp [Value.ownBlock] at e
    subst e
    rw [hb] at hg
    cases hg
theorem QMem.form (h : QMem B w qb mb cv D n xs) : ∃ a c, cv = .slice a xs.length c ∧ IntsAt w a xs.length xs := by
  obtain ⟨a, c, e, ho⟩ := own_of h.row xs rfl
  exact ⟨a, c, e, ho.ints⟩
theorem QMem.keep {w' : World} (h : QMem B w qb mb cv D n xs) (hb : Below w.heap.size w w') : QMem B w' qb mb cv D n xs := by
  have hg : w.grownBy w' none := ⟨hb.os, hb.tape, hb.output, hb.size, fun k hk _ => hb.block k hk⟩
  exact ⟨by rw [hb.block qb h.lt]; exact h.blk, h.row.kept hg (by cases cv.ownBlock <;> simp), h.map.kept hg (by simp), h.ge, h.ge'⟩
theorem QAt.keep {w' : World} (h : QAt B w qb xs gone) (hb : Below w.heap.size w w') : QAt B w' qb xs gone := by
  obtain ⟨mb, cv, D, h⟩ := h
  exact ⟨mb, cv, D, h.mem.keep hb, h.rd⟩
theorem QMem.mapped {w' : World} {D' : DataW Unit} {n' : Nat} (h : QMem B w qb mb cv D n xs) (hm : w'.ownsMap Try.prog 3 (plainElem Try.prog 3) mb n' D') (hg : w.grownBy w' (some mb)) : QMem B w' qb mb cv D' n' xs :=
  ⟨by rw [hg.block qb h.lt (by intro e; cases e; exact h.ne rfl)]; exact h.blk, h.row.kept hg (.inr h.rowM), hm, h.ge, h.ge'⟩
theorem QParts.has (h : QParts B w qb mb cv D xs gone) (x : Int) : Maps.has D (.int .i64 x) = (placeG xs gone x).isSome := h.rd.has x
theorem QParts.at (h : QParts B w qb mb cv D xs gone) {x c : Int} (hat : D.atKey (.int .i64 x) (.lit (.int .i64 0)) = .lit (.int .i64 c)) : c = ((placeG xs gone x).getD 0 : Nat) := by
  cases hp : placeG xs gone x with
  | none =>
    have := h.rd.has x
    rw [hp] at this
    rw [atKey_of_not_has this] at hat
    injection hat with hat
    injection hat with _ hat
    simp [← hat]
  | some i =>
    rw [h.rd.val x i hp] at hat
    injection hat with hat
    injection hat with _ hat
    simp [← hat]
end

theorem isClient_any (x : Int) (w : World) :
    Calls Try.prog 59 #[.int .i64 x] w fun e w' => e = .returned (.bool (clientL x)) ∧ w' = w := by
  go_enter Try.func59, Try.ntmps59
  go_wp2
  all_goals go_ret
  all_goals (refine ⟨rbool ?_, rfl⟩; rw [Bool.eq_iff_iff]; simp [clientL]; try omega)
theorem placeOf_any (B qb : Nat) (xs gone : List Int) (x : Int) (w : World) (hQ : QAt B w qb xs gone) (hx : (Lit.int .i64 x).wf = true) :
    Calls Try.prog 133 #[.pointer (some ⟨qb, 0, none⟩), .int .i64 x] w fun e w' => e = .returned (.tuple #[.int .i64 ((placeG xs gone x).getD 0 : Nat), .bool (placeG xs gone x).isSome]) ∧ w' = w := by
  obtain ⟨mb, cv, D, hq⟩ := hQ
  have hkey := keyOf_int_mk Try.underlying3 hx
  have c1 := hq.mem.c1
  have hown := hq.mem.map
  have hh := hq.has x
  have hv := fun c => hq.at (x := x) (c := c)
  have HV := hidOf hv
  have HH := hidOf hh
  clear hq hv hh
  go_enter Try.func133, Try.ntmps133
  go_wp2_with (first
    | (at_lookup; refine wpList_lookup_own_ok_int _ rfl _ _ 173 rfl 3 3 .i64 law3 Try.underlying173 Try.underlying3 (zero3 _) mb _ D rfl hown _ _ rfl hkey ?_; intro c hat hwc)
    | go_in)
  go_ret2
  rw [HV.out c hat, HH.out]
  exact ⟨rfl, rfl⟩

theorem leave_parts (B qb mb : Nat) (cv : Value) (D : DataW Unit) (xs gone : List Int) (x : Int) (w : World) (hq : QParts B w qb mb cv D xs gone) (hx : (Lit.int .i64 x).wf = true) :
    Calls Try.prog 136 #[.pointer (some ⟨qb, 0, none⟩), .int .i64 x] w fun e w' => e = .returned (.tuple #[]) ∧ QParts B w' qb mb cv (D.del (.int .i64 x)) xs (gone ++ [x]) ∧ w.grownBy w' (some mb) := by
  have hkey := keyOf_int_mk Try.underlying3 hx
  have c1 := hq.mem.c1
  have hown := hq.mem.map
  have HQ := hidOf hq
  clear hq
  go_enter Try.func136, Try.ntmps136
  go_wp2_with (first
    | (at_delete; refine wpList_delete_own _ rfl _ _ 173 3 rfl 3 law3 Try.underlying173 _ mb _ D rfl hown _ _ rfl hkey ?_; intro w1 hown1 hturn1)
    | go_in)
  go_end0
  exact ⟨rfl, ⟨HQ.out.mem.mapped hown1 hturn1.grown, HQ.out.rd.leave⟩, hturn1.grown⟩
theorem leave_any (B qb : Nat) (xs gone : List Int) (x : Int) (w : World) (hQ : QAt B w qb xs gone) (hx : (Lit.int .i64 x).wf = true) :
    Calls Try.prog 136 #[.pointer (some ⟨qb, 0, none⟩), .int .i64 x] w fun e w' => e = .returned (.tuple #[]) ∧ QAt B w' qb xs (gone ++ [x]) ∧ Below B w w' := by
  obtain ⟨mb, cv, D, hq⟩ := hQ
  refine (leave_parts B qb mb cv D xs gone x w hq hx).mono ?_
  rintro e w1 ⟨rfl, h1, hg⟩
  exact ⟨rfl, ⟨mb, cv, _, h1⟩, (Below.refl _ _).grown hg hq.mem.size (fun k hk => by cases hk; exact hq.mem.ge')⟩
end Go.Proofs.Ytllpcbdecibloaa
namespace Go.Proofs.Ytllpcbdecibloaa
open Go.RowKit Go.Maps Pl Il

theorem QMem.appended {B : Nat} {w w' : World} {qb mb g c n : Nat} {cv : Value} {D : DataW Unit} {xs : List Int} {x : Int} (h : QMem B w qb mb cv D n xs) (hr : w'.ownsRow B 3 1 (.slice (some ⟨g, 0, none⟩) (xs.length + 1) c) (xs.length + 1) ((xs ++ [x]).map (Value.int .i64)))
    (hg : w.grownBy w' cv.ownBlock) (hl : cv.ownBlock = some g ∨ w.heap.size ≤ g) :
    QMem B (w'.setCell ⟨qb, 0, none⟩ (.slice (some ⟨g, 0, none⟩) (xs.length + 1) c)) qb mb (.slice (some ⟨g, 0, none⟩) (xs.length + 1) c) D n (xs ++ [x]) := by
  have hq : w'.heap[qb]? = some (.cells #[cv, .map (some mb)] 175 (0, 0)) := by
    rw [hg.block qb h.lt (fun e => h.rowQ e.symm)]; exact h.blk
  have hgq : g ≠ qb := by
    rcases hl with hl | hl
    · intro e; subst e; exact h.rowQ hl
    · have := h.lt; omega
  have hm := (h.map.kept hg (fun e => h.rowM e.symm)).setCell (a := ⟨qb, 0, none⟩) h.ne (.slice (some ⟨g, 0, none⟩) (xs.length + 1) c)
  have hs : w'.grownBy (w'.setCell ⟨qb, 0, none⟩ (.slice (some ⟨g, 0, none⟩) (xs.length + 1) c)) (some qb) := ⟨rfl, rfl, rfl, by simp, fun k _ hk => Below.heap_setCell _ _ _ _ (by rintro rfl; exact hk rfl)⟩
  refine ⟨?_, ?_, hm, h.ge, h.ge'⟩
  · have hlt : qb < w'.heap.size := by
      rcases Nat.lt_or_ge qb w'.heap.size with k | k
      · exact k
      · rw [Array.getElem?_eq_none k] at hq; cases hq
    have hq' : w'.heap[qb] = .cells #[cv, .map (some mb)] 175 (0, 0) := by
      rw [Array.getElem?_eq_getElem hlt] at hq
      exact Option.some.inj hq
    simp [World.setCell, Array.getElem_modify, hlt, hq']
  · have := hr.kept hs (.inr (by simp [Value.ownBlock]; exact hgq))
    simpa using this

theorem QMem.mono {B : Nat} {w : World} {qb mb n n' : Nat} {cv : Value} {D : DataW Unit} {xs : List Int} (h : QMem B w qb mb cv D n xs) (hn : n ≤ n') : QMem B w qb mb cv D n' xs := ⟨h.blk, h.row, h.map.mono hn, h.ge, h.ge'⟩
/-- What is needed of the world at the walk's last store. -/
theorem QMem.ready {B : Nat} {w : World} {qb mb n : Nat} {cv : Value} {D : DataW Unit} {xs : List Int} (x : Int) (h : QMem B w qb mb cv D n xs) (hn : xs.length ≤ 2097152) : ∃ (g c : Nat) (w' : World),
    (Builtin.append_ #[35, 35] 35 #[cv, .slice (some ⟨w.heap.size, 0, none⟩) 1 1]).run Try.prog (w.alloc (.cells #[.int .i64 x] 3)) = .ok (.slice (some ⟨g, 0, none⟩) (xs.length + 1) c) w' ∧
    QMem B (w'.setCell ⟨qb, 0, none⟩ (.slice (some ⟨g, 0, none⟩) (xs.length + 1) c)) qb mb (.slice (some ⟨g, 0, none⟩) (xs.length + 1) c) D n (xs ++ [x]) ∧
    Below B w (w'.setCell ⟨qb, 0, none⟩ (.slice (some ⟨g, 0, none⟩) (xs.length + 1) c)) ∧ w'.cell? ⟨qb, 0, none⟩ = some cv ∧ w'.frozen? ⟨qb, 0, none⟩ = false := by
  obtain ⟨g, c, w', hr, ho, hg, hl⟩ := append_own1 B xs.length cv xs x w h.row h.size (by omega)
  refine ⟨g, c, w', hr, h.appended ho hg hl, ((Below.refl _ _).grown hg h.size (fun k hk => (h.row.lt k hk).1)).setCell (p := ⟨qb, 0, none⟩) h.ge _, ?_, ?_⟩
  · rw [← h.c0]; exact World.cell?_of_block (hg.block qb h.lt (fun e => h.rowQ e.symm))
  · rw [← h.f0]; exact World.frozen?_of_block (hg.block qb h.lt (fun e => h.rowQ e.symm))

theorem join_any (B qb : Nat) (xs : List Int) (x : Int) (w : World) (hQ : QAt B w qb xs []) (hx : (Lit.int .i64 x).wf = true) (hn : xs.length ≤ 2097152) :
    Calls Try.prog 143 #[.pointer (some ⟨qb, 0, none⟩), .int .i64 x] w fun e w' => e = .returned (.tuple #[]) ∧ QAt B w' qb (xs ++ [x]) [] ∧ Below B w w' := by
  obtain ⟨mb, cv, D, hq⟩ := hQ
  have hkey := keyOf_int_mk Try.underlying3 hx
  have c0 := hq.mem.c0
  have c1 := hq.mem.c1
  have hown := hq.mem.map
  have hh := hq.has x
  rw [place_isSome] at hh
  cases hhas : hasL xs x
  · rw [hhas] at hh
    obtain ⟨a, ca, rfl, _⟩ := hq.mem.form
    have hwl : (Lit.int .i64 (xs.length : Int)).wf = true := WalkArith.wf_i64 (by omega)
    obtain ⟨w1, hrun, hown1, hturn1⟩ := World.ownsMap.store (t := 173) (e := 3) hown.drew law3 Try.underlying173 (by unfold maxLen; omega) hkey (plainElem_int Try.underlying3 hwl)
    have hM1 := (hq.mem.keep (Below.refl _ w).drew).mapped hown1 hturn1.grown
    have hb1 : Below B w w1 := (Below.refl _ w).drew.grown hturn1.grown hq.mem.size (fun k hk => by cases hk; exact hq.mem.ge')
    have hrd := hq.rd.join_new (hown.tidy law3) hhas
    obtain ⟨g, c, w', hr, hP, hb, c0', f0'⟩ := hM1.ready x hn
    have d0 := hM1.c0
    have d1 := hM1.c1
    have Hr := hidOf hr
    have HP := hidOf hP
    have hb2 := hb1.trans hb
    clear hr hP hq hown1 hturn1 hM1 hb1 hb
    go_enter Try.func143, Try.ntmps143
    go_wp2_with (first
      | (at_lookup; refine wpList_lookup_own_ok_int _ rfl _ _ 173 rfl 3 3 .i64 law3 Try.underlying173 Try.underlying3 (zero3 _) mb _ D rfl hown _ _ rfl hkey ?_; intro c0 hat hwc)
      | go_in)
    go_region_with (fail)
    all_goals go_wp2_with (first
      | (at_builtin; refine wpList_append_run rfl _ _ 35 rfl _ _ _ rfl rfl Hr.out ?_)
      | go_in)
    all_goals go_end0
    all_goals exact ⟨rfl, ⟨mb, _, _, HP.out.mono (by simp), hrd⟩, hb2⟩
  · rw [hhas] at hh
    obtain ⟨g, c, w', hr, hP, hb, c0', f0'⟩ := hq.mem.ready x hn
    have hrd := hq.rd.join_old hhas
    obtain ⟨a, ca, rfl, _⟩ := hq.mem.form
    have Hr := hidOf hr
    have HP := hidOf hP
    clear hr hP hq
    go_enter Try.func143, Try.ntmps143
    go_wp2_with (first
      | (at_lookup; refine wpList_lookup_own_ok_int _ rfl _ _ 173 rfl 3 3 .i64 law3 Try.underlying173 Try.underlying3 (zero3 _) mb _ D rfl hown _ _ rfl hkey ?_; intro c0 hat hwc)
      | (at_builtin; refine wpList_append_run rfl _ _ 35 rfl _ _ _ rfl rfl Hr.out ?_)
      | go_in)
    go_end0
    exact ⟨rfl, ⟨mb, _, _, HP.out.mono (by simp), hrd⟩, hb⟩
end Go.Proofs.Ytllpcbdecibloaa
namespace Go.Proofs.Ytllpcbdecibloaa
open Go.RowKit Go.Maps Pl Il

theorem QAt.new (w : World) : QAt w.heap.size ((w.alloc (.map #[] 0)).alloc (.cells #[.slice none 0 0, .map (some w.heap.size)] 175 (0, 0))) (w.heap.size + 1) [] [] := by
  refine ⟨w.heap.size, .slice none 0 0, .map [], ⟨?_, ⟨rfl, .inl ⟨rfl, rfl⟩⟩, ?_, by omega, Nat.le_refl _⟩, Reads.empty⟩
  · have := heap_alloc_new (w.alloc (.map #[] 0)) (.cells #[.slice none 0 0, .map (some w.heap.size)] 175 (0, 0))
    simpa using this
  · exact (World.ownsMap_made w _ _ _).alloc _

theorem queueOf_any (a : Option Addr) (n cap : Nat) (xs : List Int) (w : World) (hI : IntsAt w a n xs) (hn : n ≤ 2097152) (hw : wfL xs) :
    Calls Try.prog 111 #[.slice a n cap] w fun e w' => ∃ qb, e = .returned (.pointer (some ⟨qb, 0, none⟩)) ∧ QAt w.heap.size w' qb xs [] ∧ Below w.heap.size w w' := by
  have hmm := @run_makeMap Try.prog
  have hS := QAt.new w
  have hbS : Below w.heap.size w ((w.alloc (.map #[] 0)).alloc (.cells #[.slice none 0 0, .map (some w.heap.size)] 175 (0, 0))) := bl_alloc (bl_alloc (Below.refl _ _) _) _
  obtain ⟨hlen, rfl | ⟨b, off, rfl, hb, hcell⟩⟩ := hI
  · have hx : xs = [] := List.length_eq_zero_iff.1 hlen
    subst hx
    go_enter Try.func111, Try.ntmps111
    go_wp2
    go_loopw [11] (fun i wr => i = .int .i64 0 ∧ QAt w.heap.size wr (w.heap.size + 1) [] [] ∧ Below w.heap.size w wr) (fun _ _ => 0)
    case atStart => exact ⟨rfl, hS, hbS⟩
    case round =>
      obtain ⟨rfl, hq, hbr⟩ := hrel
      go_wp2
      go_ret
      exact ⟨_, rfl, hq, hbr⟩
  · go_enter Try.func111, Try.ntmps111
    go_wp2
    go_loopw [11] (fun i wr => ∃ k : Nat, k ≤ n ∧ i = .int .i64 k ∧ QAt w.heap.size wr (w.heap.size + 1) (xs.take k) [] ∧ Below w.heap.size w wr) (fun i _ => n - (intOf i).toNat)
    case atStart => exact ⟨0, Nat.zero_le _, rfl, hS, hbS⟩
    case round =>
      rename_i wr
      obtain ⟨k, hk, rfl, hq, hbr⟩ := hrel
      clear hS hbS hmm
      by_cases hlt : k < n
      · have hc : wr.cell? ⟨b, off + k, none⟩ = some (.int .i64 (xs.getD k 0)) := by rw [hbr.cell (p := ⟨b, off + k, none⟩) hb]; exact hcell k hlt
        have hwk := wf_at hw (k := k) (by omega)
        have hcall := join_any w.heap.size (w.heap.size + 1) (xs.take k) (xs.getD k 0) wr hq hwk (by rw [List.length_take]; omega)
        have hst : xs.take k ++ [xs.getD k 0] = xs.take (k + 1) := by
          rw [List.take_succ_eq_append_getElem (by omega)]
          simp [List.getD, List.getElem?_eq_getElem (show k < xs.length by omega)]
        rw [hst] at hcall
        generalize xs.getD k 0 = y at hc hcall
        have HC := hidOf hcall
        clear hcell hcall hq hst
        go_wp2_with fail
        refine (HC.out).mono ?_
        rintro e w1 ⟨rfl, hq1, hb1⟩
        go_wp2
        go_roundw
        case rel => exact ⟨k + 1, by omega, by go_num, hq1, hbr.trans hb1⟩
        case measure => simp [intOf]; omega
      · obtain rfl : k = n := by omega
        clear hcell
        rw [List.take_of_length_le (by omega)] at hq
        go_wp2
        go_ret
        exact ⟨_, rfl, hq, hbr⟩

theorem line_noclient {xs : List Int} {k : Nat} {y : Int} (hk : k < xs.length) (hy : xs.getD k 0 = y) (h : clientL y = false) : lineL xs = false := line_bad hk hy (.inl h)

theorem lineQueue_any (a : Option Addr) (n cap : Nat) (xs : List Int) (w : World) (hI : IntsAt w a n xs) (hn : n ≤ 2097152) (hw : wfL xs) :
    Calls Try.prog 135 #[.slice a n cap] w fun e w' => ∃ p, e = .returned (.tuple #[.pointer p, .bool (lineL xs)]) ∧ (lineL xs = true → ∃ qb, p = some ⟨qb, 0, none⟩ ∧ QAt w.heap.size w' qb xs []) ∧ Below w.heap.size w w' := by
  by_cases h32 : n ≤ 32
  · have h32' : ¬ 32 < (n : Int) := by omega
    have hI0 := hI
    obtain ⟨hlen, rfl | ⟨b, off, rfl, hb, hcell⟩⟩ := hI
    · have hx : xs = [] := List.length_eq_zero_iff.1 hlen
      subst hx
      have HI := hidOf hI0
      clear hI0
      go_enter Try.func135, Try.ntmps135
      go_wp2
      go_loop [12] (fun i => i = .int .i64 0) (fun _ => 0)
      case atStart => rfl
      case round =>
        subst hrel
        go_wp2_with fail
        refine (queueOf_any a 0 cap [] _ HI.out hn hw).mono ?_
        rintro e w1 ⟨qb, rfl, hq, hb1⟩
        obtain ⟨mb, cv, D, hp⟩ := id hq
        have c1 := hp.mem.c1
        have hown := hp.mem.map
        have hsz := hp.rd.size rfl
        have HQ := hidOf hq
        clear hq hp
        go_wp2_with (first
          | (at_len; refine wpList_len_own _ rfl _ 173 rfl 3 3 Try.underlying173 _ mb _ D rfl hown ?_)
          | go_in)
        go_ret2
        refine ⟨some ⟨qb, 0, none⟩, ?_, fun _ => ⟨qb, rfl, HQ.out⟩, hb1⟩
        rfl
    · have HI := hidOf hI0
      clear hI0
      go_enter Try.func135, Try.ntmps135
      go_wp2
      go_loop [12] (fun i => ∃ k : Nat, k ≤ n ∧ i = .int .i64 k ∧ ∀ j, j < k → clientL (xs.getD j 0) = true) (fun i => n - (intOf i).toNat)
      case atStart => exact ⟨0, Nat.zero_le _, rfl, fun j hj => by omega⟩
      case round =>
        obtain ⟨k, hk, rfl, hto⟩ := hrel
        have Hto := hidOf hto
        clear hto
        by_cases hlt : k < n
        · have hc := hcell k hlt
          generalize hy : xs.getD k 0 = y at hc
          have HY := hidOf hy
          clear hy hcell
          go_wp2_with fail
          refine (isClient_any y _).mono ?_
          rintro e w1 ⟨rfl, rfl⟩
          cases hcl : clientL y
          · go_wp2
            go_ret2
            rw [line_noclient (by omega) HY.out hcl]
            exact ⟨none, rfl, fun h => (by cases h), Below.refl _ _⟩
          · go_wp2
            go_round
            case rel => exact ⟨k + 1, by omega, by go_num, fun j hj => by
              by_cases e : j = k
              · subst e; rw [HY.out]; exact hcl
              · exact Hto.out j (by omega)⟩
            case measure => simp [intOf]; omega
        · obtain rfl : k = n := by omega
          clear hcell
          have hd := line_dist (xs := xs) (by omega) (by rw [hlen]; exact Hto.out)
          go_wp2_with fail
          refine (queueOf_any _ k cap xs _ HI.out hn hw).mono ?_
          rintro e w1 ⟨qb, rfl, hq, hb1⟩
          obtain ⟨mb, cv, D, hp⟩ := id hq
          have c1 := hp.mem.c1
          have hown := hp.mem.map
          have hsz := hp.rd.size rfl
          have HQ := hidOf hq
          clear hq hp
          go_wp2_with (first
            | (at_len; refine wpList_len_own _ rfl _ 173 rfl 3 3 Try.underlying173 _ mb _ D rfl hown ?_)
            | go_in)
          go_ret2
          refine ⟨some ⟨qb, 0, none⟩, ?_, fun _ => ⟨qb, rfl, HQ.out⟩, hb1⟩
          rw [hd, hlen]
          refine congrArg (fun b => Ending.returned (.tuple #[.pointer (some ⟨qb, 0, none⟩), .bool b])) ?_
          rw [Bool.eq_iff_iff]
          simp
          omega
  · have h32' : 32 < (n : Int) := by omega
    have hq := line_long (xs := xs) (by rw [hI.len]; exact h32)
    clear hI
    go_enter Try.func135, Try.ntmps135
    go_wp2
    go_ret2
    rw [hq]
    exact ⟨none, rfl, fun h => (by cases h), Below.refl _ _⟩
end Go.Proofs.Ytllpcbdecibloaa
namespace Go.Proofs.Ytllpcbdecibloaa
open Go.RowKit Go.Maps Pl Il

theorem QParts.look {B : Nat} {w : World} {qb mb : Nat} {cv : Value} {D : DataW Unit} {xs gone : List Int} (h : QParts B w qb mb cv D xs gone) {x : Int} (hx : (Lit.int .i64 x).wf = true) {p : Option Nat} (hp : placeG xs gone x = p) :
    (Instr.lookup 173 (.map (some mb)) (.int .i64 x) true).run Try.prog w = .ok (.tuple #[.int .i64 (p.getD 0 : Nat), .bool p.isSome]) w := by
  obtain ⟨v, ps, hrun, hv⟩ := h.mem.map.look_ok (t := 173) (e := 3) law3 Try.underlying173 (zero3 _) (plainElem_int Try.underlying3 (by decide)) (keyOf_int_mk Try.underlying3 hx)
  obtain ⟨c, rfl, hc, _⟩ := plainElem_int_inv Try.underlying3 hv
  rw [hrun, h.has x, h.at (congrArg Prod.fst hc), hp]

theorem append_more (B m : Nat) (v : Value) (ys : List Int) (x : Int) (w w0 : World) (hB : B = w0.heap.size) (ho : w.ownsRow B 3 1 v m (ys.map (Value.int .i64))) (hb : Below B w0 w) (hs : m + 1 ≤ 4194304) :
    ∃ (g' c' : Nat) (w' : World), (Builtin.append_ #[35, 35] 35 #[v, .slice (some ⟨w.heap.size, 0, none⟩) 1 1]).run Try.prog (w.alloc (.cells #[.int .i64 x] 3)) = .ok (.slice (some ⟨g', 0, none⟩) (m + 1) c') w' ∧
      w'.ownsRow B 3 1 (.slice (some ⟨g', 0, none⟩) (m + 1) c') (m + 1) ((ys ++ [x]).map (Value.int .i64)) ∧ Below B w0 w' := by
  subst hB
  obtain ⟨g, c, w', hr, ho', hg, _⟩ := append_own1 _ m v ys x w ho hb.size hs
  exact ⟨g, c, w', hr, ho', hb.grown hg hb.size (fun k hk => (ho.lt k hk).1)⟩

theorem standing_any (B qb : Nat) (xs gone : List Int) (w : World) (hQ : QAt B w qb xs gone) (hw : wfL xs) (hn : xs.length ≤ 2097152) :
    Calls Try.prog 113 #[.pointer (some ⟨qb, 0, none⟩)] w fun e w' => ∃ v, e = .returned v ∧ w'.ownsRow w.heap.size 3 1 v (standTo xs gone xs.length).length ((standTo xs gone xs.length).map (Value.int .i64)) ∧ Below w.heap.size w w' := by
  obtain ⟨mb, cv, D, hq⟩ := hQ
  have c0 := hq.mem.c0
  have hlq := hq.mem.lt
  obtain ⟨a, ca, rfl, hI⟩ := hq.mem.form
  have HQ := hidOf hq
  clear hq
  obtain ⟨_, h0 | ⟨b, off, rfl, hb, hcell⟩⟩ := hI
  · have hx : xs = [] := List.length_eq_zero_iff.1 h0
    subst hx
    go_enter Try.func113, Try.ntmps113
    go_wp2
    go_loop [3, 13] (fun v i => v = .slice none 0 0 ∧ i = .int .i64 0) (fun _ _ => 0)
    case atStart => exact ⟨rfl, rfl⟩
    case round =>
      obtain ⟨rfl, rfl⟩ := hrel
      go_wp2
      go_ret
      exact ⟨_, rfl, ⟨rfl, .inl ⟨rfl, rfl⟩⟩, Below.refl _ _⟩
  · generalize hnn : xs.length = n at *
    go_enter Try.func113, Try.ntmps113
    go_wp2
    go_loopw [3, 13] (fun v i wr => ∃ k : Nat, k ≤ n ∧ i = .int .i64 k ∧ wr.ownsRow w.heap.size 3 1 v (standTo xs gone k).length ((standTo xs gone k).map (Value.int .i64)) ∧ Below w.heap.size w wr) (fun _ i _ => n - (intOf i).toNat)
    case atStart => exact ⟨0, Nat.zero_le _, rfl, ⟨rfl, .inl ⟨rfl, rfl⟩⟩, Below.refl _ _⟩
    case round =>
      rename_i wr
      obtain ⟨k, hk, rfl, ho, hbr⟩ := hrel
      by_cases hlt : k < n
      · have hc : wr.cell? ⟨b, off + k, none⟩ = some (.int .i64 (xs.getD k 0)) := by rw [hbr.cell (p := ⟨b, off + k, none⟩) hb]; exact hcell k hlt
        have hwk := wf_at hw (k := k) (by omega)
        have hp : QParts B wr qb mb _ D xs gone := ⟨HQ.out.mem.keep hbr, HQ.out.rd⟩
        have c1 := hp.mem.c1
        generalize hy : xs.getD k 0 = y at hc hwk
        have hlook := fun p => hp.look hwk (p := p)
        have hm := stand_len xs gone k
        obtain ⟨g', c', w', hr, ho', hb'⟩ := append_more w.heap.size _ u3 _ y wr w rfl ho hbr (by omega)
        have hyes := fun h => stand_yes (gone := gone) hy h
        have hno := fun h => stand_no (gone := gone) hy h
        generalize hst : standTo xs gone k = st at *
        generalize hsl : st.length = sl at *
        have Hr := hidOf hr
        have Ho := hidOf ho
        have Ho' := hidOf ho'
        have Hbr := hidOf hbr
        have Hb' := hidOf hb'
        have Hyes := hidOf hyes
        have Hno := hidOf hno
        have HS := hidOf hsl
        have hkk : (k : Int) < (n : Int) := by omega
        clear hy hcell hr ho ho' hbr hb' hp hyes hno hst hsl
        cases hpl : placeG xs gone y with
        | none =>
          have hl := hlook _ hpl
          simp only [Option.getD_none, Option.isSome_none] at hl
          clear hlook
          go_wp2
          go_roundw
          case rel => exact ⟨k + 1, by omega, by go_num, by rw [Hno.out (by rw [hpl]; simp), HS.out]; exact Ho.out, Hbr.out⟩
          case measure => simp [intOf]; omega
        | some j =>
          have hl := hlook _ hpl
          simp only [Option.getD_some, Option.isSome_some] at hl
          clear hlook
          by_cases hj : j = k
          · subst hj
            have hjj : ((j : Int) == (j : Int)) = true := by simp
            go_wp2_with (first
              | (at_builtin; refine wpList_append_run rfl _ _ 35 rfl _ _ _ rfl rfl Hr.out ?_)
              | go_in)
            go_roundw
            case rel => exact ⟨j + 1, by omega, by go_num, by rw [Hyes.out hpl, List.length_append, HS.out]; exact Ho'.out, Hb'.out⟩
            case measure => simp [intOf]; omega
          · have hjj : ((j : Int) == (k : Int)) = false := by simp; omega
            go_wp2
            go_roundw
            case rel => exact ⟨k + 1, by omega, by go_num, by rw [Hno.out (by rw [hpl]; simp; omega), HS.out]; exact Ho.out, Hbr.out⟩
            case measure => simp [intOf]; omega
      · obtain rfl : k = n := by omega
        clear hcell
        go_wp2
        go_ret
        exact ⟨_, rfl, ho, hbr⟩
end Go.Proofs.Ytllpcbdecibloaa
namespace Go.Proofs.Ytllpcbdecibloaa
open Go.RowKit Pl Il

theorem copied_run (a : Option Addr) (n cap : Nat) (xs : List Int) (w : World) (hI : IntsAt w a n xs) (hn : n ≤ 2097152) : ∃ (v : Value) (w' : World),
    (Builtin.append_ #[35, 35] 35 #[.slice none 0 0, .slice a n cap]).run Try.prog w = .ok v w' ∧ w'.ownsRow w.heap.size 3 1 v n (xs.map (Value.int .i64)) ∧ Below w.heap.size w w' := by
  obtain ⟨i, hi, hz0, hz1, hz2⟩ := info_parts info3
  have hnil : w.ownsRow w.heap.size 3 1 (.slice none 0 0) 0 [] := ⟨rfl, .inl ⟨rfl, rfl⟩⟩
  obtain ⟨hlen, h0⟩ := hI
  rcases Nat.eq_zero_or_pos n with rfl | hpos
  · have hx : xs = [] := List.length_eq_zero_iff.1 hlen
    subst hx
    refine ⟨_, _, run_append_nothing w 35 35 35 3 i Try.underlying35 hi none 0 0 (Nat.le_refl _) _ ?_, hnil, Below.refl _ _⟩
    rcases a with _ | ad
    · exact Src.ofNil _ Try.underlying35 cap
    · exact Src.ofSlice _ Try.underlying35 ad 0 cap [] (by simp) (fun j u h => by simp at h) (fun u h => by cases h)
  · rcases h0 with h0 | ⟨b, off, rfl, hb, hcell⟩
    · omega
    · obtain ⟨g', c', w', hr, hown, hgrow, _, _⟩ := run_append_lies (P := Try.prog) w 35 35 w.heap.size 3 i (.int .i64 0) 1 8 Try.underlying35 hi hz0 hz1 hz2 rfl (by omega) _ 0 _ hnil ⟨b, off, none⟩ n cap (xs.map (Value.int .i64)) (by simp [hlen])
        (fun j u h => by
          rw [Addr.add_lit]
          have hj : j < n := by
            have := (List.getElem?_eq_some_iff.1 h).1
            simpa [hlen] using this
          rw [hcell j hj]
          simp only [List.getElem?_map] at h
          rw [List.getElem?_eq_getElem (by omega)] at h
          simp only [Option.map_some, Option.some.injEq] at h
          rw [← h]
          simp [List.getD, List.getElem?_eq_getElem (show j < xs.length by omega)])
        (fun u hu => by obtain ⟨_, _, rfl⟩ := List.mem_map.1 hu; rfl) hpos (by unfold maxLen; omega) (by omega) (Nat.le_refl _) _ rfl
      rw [Nat.zero_add] at hr hown
      rw [List.nil_append] at hown
      exact ⟨_, w', hr, hown, (Below.refl _ _).grown hgrow (Nat.le_refl _) (fun k hk => by cases hk)⟩

theorem copied_any2 (a : Option Addr) (n cap : Nat) (xs : List Int) (w : World) (hI : IntsAt w a n xs) (hn : n ≤ 2097152) :
    Calls Try.prog 122 #[.slice a n cap] w fun e w' => ∃ a' c', e = .returned (.slice a' n c') ∧ Il.OwnAt w.heap.size w' a' n xs ∧ Below w.heap.size w w' ∧ n ≤ c' := by
  obtain ⟨v, w', hr, ho, hb⟩ := copied_run a n cap xs w hI hn
  obtain ⟨a', c', rfl, hO⟩ := own_of ho xs rfl
  have hcp := own_cap ho
  have Hr := hidOf hr
  clear hr ho hI
  go_enter Try.func122, Try.ntmps122
  go_wp2_with (at_builtin; refine wpList_append_run rfl _ _ 35 rfl _ _ _ rfl rfl Hr.out ?_)
  go_ret
  exact ⟨a', c', rfl, hO, hb, hcp⟩

theorem copied_any (a : Option Addr) (n cap : Nat) (xs : List Int) (w : World) (hI : IntsAt w a n xs) (hn : n ≤ 2097152) :
    Calls Try.prog 122 #[.slice a n cap] w fun e w' => ∃ a' c', e = .returned (.slice a' n c') ∧ Il.OwnAt w.heap.size w' a' n xs ∧ Below w.heap.size w w' :=
  (copied_any2 a n cap xs w hI hn).mono fun _ _ ⟨a', c', h1, h2, h3, _⟩ => ⟨a', c', h1, h2, h3⟩

end Go.Proofs.Ytllpcbdecibloaa
namespace Go.Proofs.Ytllpcbdecibloaa
open Go.RowKit Go.Maps Pl Il

theorem Il.OwnAt.grown {B : Nat} {w w' : World} {a : Option Addr} {n mb : Nat} {xs : List Int} (h : Il.OwnAt B w a n xs) (hg : w.grownBy w' (some mb)) (hm : mb < B) : Il.OwnAt B w' a n xs := by
  have key : ∀ b, b < w.heap.size → B ≤ b → w'.heap[b]? = w.heap[b]? := fun b hb hB => hg.block b hb (by intro e; cases e; omega)
  obtain ⟨⟨hl, hr⟩, ho⟩ := h
  rcases hr with h0 | ⟨b, off, rfl, hlt, hc⟩
  · exact ⟨⟨hl, .inl h0⟩, .inl h0⟩
  · rcases ho with h0 | ⟨b', off', e, hB, hf⟩
    · exact ⟨⟨hl, .inl h0⟩, .inl h0⟩
    · cases e
      refine ⟨⟨hl, .inr ⟨b, off, rfl, Nat.lt_of_lt_of_le hlt hg.size, fun i hi => ?_⟩⟩, .inr ⟨b, off, rfl, hB, fun i hi => ?_⟩⟩
      · rw [← hc i hi]; exact World.cell?_of_block (key b hlt hB)
      · rw [← hf i hi]; exact World.frozen?_of_block (key b hlt hB)
theorem Il.OwnAt.take {B : Nat} {w : World} {a : Option Addr} {n : Nat} {xs : List Int} (h : Il.OwnAt B w a n xs) (i : Nat) (hi : i ≤ n) : Il.OwnAt B w a i (xs.take i) := by
  refine ⟨h.ints.take i hi, ?_⟩
  rcases h.own with h0 | ⟨b, off, rfl, hB, hf⟩
  · exact .inl (by omega)
  · exact .inr ⟨b, off, rfl, hB, fun j hj => hf j (by omega)⟩

theorem QParts.mlt {B : Nat} {w : World} {qb mb : Nat} {cv : Value} {D : DataW Unit} {xs gone : List Int} (h : QParts B w qb mb cv D xs gone) : mb < w.heap.size := h.mem.map.lt

theorem grown_trans {w w1 w2 : World} {b : Nat} (h : w.grownBy w1 (some b)) (k : w1.grownBy w2 (some b)) : w.grownBy w2 (some b) :=
  ⟨k.os.trans h.os, k.tape.trans h.tape, k.output.trans h.output, Nat.le_trans h.size k.size, fun i hi hn => (k.block i (Nat.lt_of_lt_of_le hi h.size) hn).trans (h.block i hi hn)⟩

/-- The first of the line leave, and are told. -/
theorem wake_any (B qb : Nat) (xs : List Int) (m : Nat) (w : World) (hQ : QAt B w qb xs []) (hw : wfL xs) (hd : xs.Nodup) (hn : xs.length ≤ 32) (hm : m ≤ xs.length) (k : Int) (hk : k = (m : Int) ∨ m = xs.length ∧ (m : Int) ≤ k) :
    Calls Try.prog 112 #[.pointer (some ⟨qb, 0, none⟩), .int .i64 k] w fun e w' => ∃ a c, e = .returned (.slice a m c) ∧ Il.OwnAt w.heap.size w' a m (xs.take m) ∧ QAt B w' qb xs (xs.take m) ∧ Below B w w' := by
  have hBs : B ≤ w.heap.size := by obtain ⟨_, _, _, h⟩ := hQ; exact h.mem.size
  have hst := stand_full hd
  have hS := standing_any B qb xs [] w hQ hw (by omega)
  rw [hst] at hS
  obtain ⟨mb, cv, D, hq⟩ := hQ
  have hmb := hq.mlt
  have hge := hq.mem.ge'
  have HS := hidOf hS
  have HQ := hidOf hq
  clear hS hq hst
  go_enter Try.func112, Try.ntmps112
  go_wp2_with fail
  refine HS.out.mono ?_
  rintro e w1 ⟨v, rfl, ho, hb1⟩
  have HP := hidOf (show QParts B w1 qb mb cv D xs [] from ⟨HQ.out.mem.keep hb1, HQ.out.rd⟩)
  clear HS HQ
  by_cases hlt : m < xs.length
  · obtain rfl : k = (m : Int) := by omega
    obtain ⟨g, cap, rfl, _⟩ := ho.form (by omega)
    have hcap := (owns_parts ho).2.2.2.1
    have hO := Il.OwnAt.take (owns_parts ho).2.2.2.2.2 m (by omega)
    have HO := hidOf hO
    have i1 : (m : Int) < (xs.length : Int) := by omega
    have i2 : (0 : Int) ≤ (m : Int) := by omega
    have i3 : (m : Int) ≤ (cap : Int) := by omega
    clear hO ho hk
    go_wp2
    go_loopw [19] (fun i wr => ∃ (j : Nat) (D' : DataW Unit), j ≤ m ∧ i = .int .i64 j ∧ QParts B wr qb mb cv D' xs ((xs.take m).take j) ∧ w1.grownBy wr (some mb)) (fun i _ => m - (intOf i).toNat)
    case atStart => exact ⟨0, D, Nat.zero_le _, rfl, by rw [List.take_zero]; exact HP.out, ⟨rfl, rfl, rfl, Nat.le_refl _, fun _ _ _ => rfl⟩⟩
    case round =>
      obtain ⟨j, D', hj, rfl, hp, hg⟩ := hrel
      have hO2 := Il.OwnAt.grown HO.out hg hmb
      by_cases hlt : j < m
      · obtain ⟨_, h0 | ⟨b', off', e', hb', hcell⟩⟩ := id hO2.ints
        · omega
        · cases e'
          have hc := hcell j hlt
          rw [Nat.zero_add] at hc
          have hwj := wf_at (wf_take hw m) (k := j) (by rw [List.length_take]; omega)
          have hcall := leave_parts B qb mb cv D' xs _ ((xs.take m).getD j 0) _ hp hwj
          have hst' : (xs.take m).take j ++ [(xs.take m).getD j 0] = (xs.take m).take (j + 1) := by
            have hl : j < (xs.take m).length := by rw [List.length_take]; omega
            rw [List.take_succ_eq_append_getElem hl]
            simp only [List.getD, List.getElem?_eq_getElem hl, Option.getD_some]
          rw [hst'] at hcall
          generalize (xs.take m).getD j 0 = y at hc hcall
          have HC := hidOf hcall
          have Hg := hidOf hg
          have hjm : (j : Int) < (m : Int) := by omega
          clear hcell hcall hp hO2 hg hst'
          go_wp2_with fail
          refine (HC.out).mono ?_
          rintro e w2 ⟨rfl, hp1, hg1⟩
          go_wp2
          go_roundw
          case rel => exact ⟨j + 1, _, by omega, by go_num, hp1, grown_trans Hg.out hg1⟩
          case measure => simp [intOf]; omega
      · obtain rfl : j = m := by omega
        rw [List.take_take, Nat.min_self] at hp
        have Hp := hidOf hp
        have HO2 := hidOf hO2
        have Hb := (hb1.mono hBs).grown (row := some mb) hg (Nat.le_trans hBs hb1.size) (fun k hk => by cases hk; exact hge)
        clear hp hO2
        go_wp2
        go_ret
        exact ⟨_, _, rfl, HO2.out, ⟨_, _, _, Hp.out⟩, Hb⟩
  · have hmx : m = xs.length := by omega
    have hk' : ¬ k < (m : Int) := by omega
    have htk : xs.take m = xs := by rw [hmx]; exact List.take_length
    rw [← hmx] at ho
    rcases Nat.eq_zero_or_pos m with h0 | hpos
    · obtain ⟨a, c, rfl, hO⟩ := own_of ho xs rfl
      have HO := hidOf (show Il.OwnAt w.heap.size w1 a m (xs.take m) by rw [htk]; exact hO)
      have HP2 := hidOf (show QParts B w1 qb mb cv D xs (xs.take m) by rw [h0, List.take_zero]; exact HP.out)
      have Hb : Below B w w1 := hb1.mono hBs
      have hm0 : ¬ (0 : Int) < (m : Int) := by omega
      clear hO ho hk htk hmx
      go_wp2
      go_loop [19] (fun i => i = .int .i64 0) (fun _ => 0)
      case atStart => rfl
      case round =>
        subst hrel
        go_wp2
        go_ret
        exact ⟨_, ⟨_, rfl⟩, ⟨⟨rfl, .inl rfl⟩, .inl rfl⟩, ⟨_, _, _, HP.out⟩, Hb⟩
    · obtain ⟨g, cap, rfl, _⟩ := ho.form hpos
      have hO := Il.OwnAt.take (owns_parts ho).2.2.2.2.2 m (Nat.le_refl _)
      have HO := hidOf hO
      have Hm := hidOf hmx
      clear hO ho hk htk hmx
      go_wp2
      go_loopw [19] (fun i wr => ∃ (j : Nat) (D' : DataW Unit), j ≤ m ∧ i = .int .i64 j ∧ QParts B wr qb mb cv D' xs ((xs.take m).take j) ∧ w1.grownBy wr (some mb)) (fun i _ => m - (intOf i).toNat)
      case atStart => exact ⟨0, D, Nat.zero_le _, rfl, by rw [List.take_zero]; exact HP.out, ⟨rfl, rfl, rfl, Nat.le_refl _, fun _ _ _ => rfl⟩⟩
      case round =>
        obtain ⟨j, D', hj, rfl, hp, hg⟩ := hrel
        have hO2 := Il.OwnAt.grown HO.out hg hmb
        by_cases hlt : j < m
        · obtain ⟨_, h0 | ⟨b', off', e', hb', hcell⟩⟩ := id hO2.ints
          · omega
          · cases e'
            have hc := hcell j hlt
            rw [Nat.zero_add] at hc
            have hwj := wf_at (wf_take hw m) (k := j) (by rw [List.length_take]; omega)
            have hcall := leave_parts B qb mb cv D' xs _ ((xs.take m).getD j 0) _ hp hwj
            have hst' : (xs.take m).take j ++ [(xs.take m).getD j 0] = (xs.take m).take (j + 1) := by
              have hl : j < (xs.take m).length := by rw [List.length_take]; omega
              rw [List.take_succ_eq_append_getElem hl]
              simp only [List.getD, List.getElem?_eq_getElem hl, Option.getD_some]
            rw [hst'] at hcall
            generalize (xs.take m).getD j 0 = y at hc hcall
            have HC := hidOf hcall
            have Hg := hidOf hg
            have hjm : (j : Int) < (m : Int) := by omega
            clear hcell hcall hp hO2 hg hst'
            go_wp2_with fail
            refine (HC.out).mono ?_
            rintro e w2 ⟨rfl, hp1, hg1⟩
            go_wp2
            go_roundw
            case rel => exact ⟨j + 1, _, by omega, by go_num, hp1, grown_trans Hg.out hg1⟩
            case measure => simp [intOf]; omega
        · obtain rfl : j = m := by omega
          rw [List.take_take, Nat.min_self] at hp
          have Hp := hidOf hp
          have HO2 := hidOf hO2
          have Hb := (hb1.mono hBs).grown (row := some mb) hg (Nat.le_trans hBs hb1.size) (fun k hk => by cases hk; exact hge)
          clear hp hO2
          go_wp2
          go_ret
          exact ⟨_, _, rfl, HO2.out, ⟨_, _, _, Hp.out⟩, Hb⟩
end Go.Proofs.Ytllpcbdecibloaa
