/-
  Walks of the specification's lines: who is woken
  The plain mathematics of a queue whose places stand in a map (no progr
  The program's queue in memory, and walks of its small methods
  Walks of the program's queue: who joins
-/
import Derived.Test.YtfgknbflgmblmaaZBl0
import Derived.ChangeOld
import Derived.Lib.SmallJoins
import Derived.Maps.OwnSet
import Derived.OpenShut
import Derived.ProofKit
namespace Go.Proofs.Ytfgknbflgmblmaa
open Go.RowKit Pl Il
/-- How many Wake wakes. -/
def wakeN (xs : List Int) (n : Int) : Nat := if n > (xs.length : Int) then xs.length else n.toNat
theorem wakeN_le (xs : List Int) (n : Int) (h : 0 ≤ n) : wakeN xs n ≤ xs.length := by
  unfold wakeN
  split <;> omega
theorem wakeN_over {xs : List Int} {n : Int} (h : n > (xs.length : Int)) : wakeN xs n = xs.length := by simp [wakeN, h]
theorem wakeN_in {xs : List Int} {n : Int} (h : ¬ n > (xs.length : Int)) : wakeN xs n = n.toNat := by simp only [wakeN, h, if_false]
theorem line_len {xs : List Int} (h : lineL xs = true) : xs.length ≤ 32 := by
  unfold lineL at h
  simp at h
  exact h.1
open Go.RowKit Pl Il
/-- The first place of x in xs, unless it has gone. -/
def placeG (xs gone : List Int) (x : Int) : Option Nat := if gone.contains x then none else xs.findIdx? (· == x)
/-- How many different ones stand in xs. -/
def dist (xs : List Int) : Nat := ((List.range xs.length).filter fun i => !hasL (xs.take i) (xs.getD i 0)).length
/-- Who stands still, of the first k. -/
def standTo (xs gone : List Int) (k : Nat) : List Int := ((List.range k).filter fun i => placeG xs gone (xs.getD i 0) == some i).map fun i => xs.getD i 0
theorem place_isSome (xs : List Int) (x : Int) : (placeG xs [] x).isSome = hasL xs x := by
  simp only [placeG, List.contains_nil, Bool.false_eq_true, if_false, hasL]
  rw [List.findIdx?_isSome]
  rw [Bool.eq_iff_iff]
  simp only [List.any_eq_true, beq_iff_eq, List.contains_eq_mem, decide_eq_true_eq]
  exact ⟨fun ⟨y, hy, e⟩ => e ▸ hy, fun h => ⟨x, h, rfl⟩⟩
theorem place_placeL (xs : List Int) (x : Int) : placeL xs x = match placeG xs [] x with | some i => (i : Int) | none => -1 := by
  simp only [placeL, placeG, List.contains_nil, Bool.false_eq_true, if_false]
  try (cases xs.findIdx? (· == x) <;> rfl)
/-- What the map of places reads as. -/
structure Reads (D : DataW Unit) (xs gone : List Int) : Prop where
  has : ∀ x, Maps.has D (.int .i64 x) = (placeG xs gone x).isSome
  val : ∀ x i, placeG xs gone x = some i → D.atKey (.int .i64 x) (.lit (.int .i64 0)) = .lit (.int .i64 (i : Int))
  size : gone = [] → Maps.size D = dist xs
theorem Reads.empty : Reads (.map []) [] [] := ⟨fun x => by simp [Maps.has, placeG], fun x i h => by simp [placeG] at h, fun _ => rfl⟩
theorem lit_ne {x y : Int} (h : ¬ x = y) : Lit.int .i64 x ≠ Lit.int .i64 y := fun e => h (by injection e)
theorem dist_snoc (xs : List Int) (x : Int) : dist (xs ++ [x]) = dist xs + if hasL xs x then 0 else 1 := by
  unfold dist
  rw [List.length_append, List.length_singleton, List.range_succ, List.filter_append, List.length_append]
  congr 1
  · refine congrArg List.length (List.filter_congr fun i hi => ?_)
    have hi := List.mem_range.1 hi
    rw [List.take_append_of_le_length (Nat.le_of_lt hi)]
    simp [List.getD, List.getElem?_append_left hi]
  · have e : (xs ++ [x]).getD xs.length 0 = x := by simp [List.getD]
    have e2 : (xs ++ [x]).take xs.length = xs := by simp
    rw [List.filter_cons, List.filter_nil, e, e2]
    cases hasL xs x <;> simp
theorem Reads.join_new {D : DataW Unit} {xs : List Int} {x : Int} (h : Reads D xs []) (ht : Maps.Tidy D) (hx : hasL xs x = false) : Reads (D.put (.int .i64 x) (.lit (.int .i64 (xs.length : Int)))) (xs ++ [x]) [] := by
  have key : ∀ y, ¬ y = x → placeG (xs ++ [x]) [] y = placeG xs [] y := fun y hy => by
    simp only [placeG, List.contains_nil, Bool.false_eq_true, if_false]
    rw [List.findIdx?_append]
    have : [x].findIdx? (· == y) = none := by
      rw [List.findIdx?_eq_none_iff]
      intro z hz
      rw [List.mem_singleton] at hz
      subst hz
      simp only [beq_eq_false_iff_ne, ne_eq]
      exact fun e => hy e.symm
    simp [this]
  have self : placeG (xs ++ [x]) [] x = some xs.length := by
    have h0 : placeG xs [] x = none := by
      have := place_isSome xs x
      rw [hx] at this
      simpa using this
    simp only [placeG, List.contains_nil, Bool.false_eq_true, if_false] at h0 ⊢
    rw [List.findIdx?_append, h0]
    simp [List.findIdx?_cons]
  refine ⟨fun y => ?_, fun y i hi => ?_, fun _ => ?_⟩
  · by_cases e : y = x
    · subst e
      rw [Maps.has_put_same (k := .int .i64 y) ht.isMap trivial, self]; rfl
    · rw [Maps.has_put_other (lit_ne e), key y e]; exact h.has y
  · by_cases e : y = x
    · subst e
      rw [self] at hi
      injection hi with hi
      subst hi
      rw [Maps.atKey_put_same (k := .int .i64 y) ht.isMap trivial]
    · rw [Maps.atKey_put_other (lit_ne e)]
      rw [key y e] at hi
      exact h.val y i hi
  · rw [Maps.size_put ht, h.has x, place_isSome, hx, dist_snoc, hx, h.size rfl]
    simp
theorem Reads.join_old {D : DataW Unit} {xs : List Int} {x : Int} (h : Reads D xs []) (hx : hasL xs x = true) : Reads D (xs ++ [x]) [] := by
  have key : ∀ y, placeG (xs ++ [x]) [] y = placeG xs [] y := fun y => by
    by_cases e : y = x
    · subst e
      have := place_isSome xs y
      rw [hx] at this
      obtain ⟨i, hi⟩ := Option.isSome_iff_exists.1 this
      rw [hi]
      simp only [placeG, List.contains_nil, Bool.false_eq_true, if_false] at hi ⊢
      rw [List.findIdx?_append, hi]; rfl
    · simp only [placeG, List.contains_nil, Bool.false_eq_true, if_false]
      rw [List.findIdx?_append]
      have : [x].findIdx? (· == y) = none := by
        rw [List.findIdx?_eq_none_iff]
        intro z hz
        rw [List.mem_singleton] at hz
        subst hz
        simp only [beq_eq_false_iff_ne, ne_eq]
        exact fun e' => e e'.symm
      simp [this]
  refine ⟨fun y => ?_, fun y i hi => ?_, fun _ => ?_⟩
  · rw [key]; exact h.has y
  · rw [key] at hi; exact h.val y i hi
  · rw [dist_snoc, hx, h.size rfl]; simp
theorem place_gone (xs gone : List Int) (x y : Int) : placeG xs (gone ++ [x]) y = if y = x then none else placeG xs gone y := by
  unfold placeG
  by_cases e : y = x
  · subst e; simp
  · simp [e]
theorem Reads.leave {D : DataW Unit} {xs gone : List Int} {x : Int} (h : Reads D xs gone) : Reads (D.del (.int .i64 x)) xs (gone ++ [x]) := by
  refine ⟨fun y => ?_, fun y i hi => ?_, fun e => by simp at e⟩
  · rw [place_gone]
    by_cases e : y = x
    · subst e
      rw [Maps.has_del_same]; simp
    · rw [Maps.has_del_other (lit_ne e), h.has]; simp [e]
  · rw [place_gone] at hi
    by_cases e : y = x
    · subst e; simp at hi
    · rw [Maps.atKey_del_other (lit_ne e)]
      simp [e] at hi
      exact h.val y i hi
theorem stand_yes {xs gone : List Int} {k : Nat} {y : Int} (hy : xs.getD k 0 = y) (h : placeG xs gone y = some k) : standTo xs gone (k + 1) = standTo xs gone k ++ [y] := by
  unfold standTo
  rw [List.range_succ, List.filter_append, List.map_append]
  congr 1
  rw [List.filter_cons, hy, h]
  simp [List.getD] at hy
  simp [List.getD, hy]
theorem stand_no {xs gone : List Int} {k : Nat} {y : Int} (hy : xs.getD k 0 = y) (h : ¬ placeG xs gone y = some k) : standTo xs gone (k + 1) = standTo xs gone k := by
  unfold standTo
  rw [List.range_succ, List.filter_append, List.map_append]
  have : (placeG xs gone (xs.getD k 0) == some k) = false := by
    rw [hy, beq_eq_false_iff_ne]; exact h
  rw [List.filter_cons, this]
  simp
theorem stand_len (xs gone : List Int) (k : Nat) : (standTo xs gone k).length ≤ k := by
  unfold standTo
  rw [List.length_map]
  exact Nat.le_trans (List.length_filter_le _ _) (by simp)
theorem nodup_line {xs : List Int} (h : lineL xs = true) : xs.Nodup := by
  simp only [lineL, lineTo, Bool.and_eq_true, List.all_eq_true, List.mem_range] at h
  rw [List.nodup_iff_pairwise_ne, List.pairwise_iff_getElem]
  intro i j hi hj hij e
  have := (h.2 j hj).2
  have e2 : xs.getD j 0 = xs[j] := by simp [List.getD, List.getElem?_eq_getElem hj]
  rw [e2] at this
  have hm : xs[j] ∈ xs.take j := by
    rw [List.mem_take_iff_getElem]
    exact ⟨i, by omega, e⟩
  simp [hasL, hm] at this
theorem find_nodup {xs : List Int} (h : xs.Nodup) {i : Nat} (hi : i < xs.length) : xs.findIdx? (· == xs[i]) = some i := by
  rw [List.findIdx?_eq_some_iff_getElem]
  refine ⟨hi, by simp, fun j hj => ?_⟩
  intro e
  have e : xs[j]'(by omega) = xs[i] := by simpa using e
  rw [List.nodup_iff_pairwise_ne, List.pairwise_iff_getElem] at h
  exact h j i (by omega) hi hj e
theorem map_range (xs : List Int) : (List.range xs.length).map (fun i => xs.getD i 0) = xs := by
  apply List.ext_getElem
  · simp
  · intro i h1 h2
    simp [List.getD, List.getElem?_eq_getElem h2]
theorem stand_all {xs : List Int} (h : xs.Nodup) (gone : List Int) : standTo xs gone xs.length = xs.filter fun y => !gone.contains y := by
  have e : (List.range xs.length).filter (fun i => placeG xs gone (xs.getD i 0) == some i) = (List.range xs.length).filter ((fun y => !gone.contains y) ∘ fun i => xs.getD i 0) := by
    refine List.filter_congr fun i hi => ?_
    have hi := List.mem_range.1 hi
    have e : xs.getD i 0 = xs[i] := by simp [List.getD, List.getElem?_eq_getElem hi]
    simp only [Function.comp, e, placeG, find_nodup h hi]
    cases gone.contains xs[i] <;> simp
  unfold standTo
  rw [e, ← List.filter_map, map_range]
theorem stand_full {xs : List Int} (h : xs.Nodup) : standTo xs [] xs.length = xs := by
  rw [stand_all h]; simp
theorem stand_less {xs : List Int} (h : xs.Nodup) (x : Int) : standTo xs [x] xs.length = lessL xs x := by
  rw [stand_all h, lessL, h.erase_eq_filter]
  refine List.filter_congr fun y _ => ?_
  by_cases e : y = x <;> simp [e]
theorem stand_rest {xs : List Int} (h : xs.Nodup) (k : Nat) : standTo xs (xs.take k) xs.length = xs.drop k := by
  rw [stand_all h]
  have e : xs.filter (fun y => !(xs.take k).contains y) = (xs.take k ++ xs.drop k).filter (fun y => !(xs.take k).contains y) := by rw [List.take_append_drop]
  rw [e, List.filter_append, List.filter_eq_nil_iff.2 (fun y hy => by simp [hy]), List.nil_append, List.filter_eq_self.2 (fun y hy => ?_)]
  have h2 : (xs.take k ++ xs.drop k).Nodup := by rw [List.take_append_drop]; exact h
  have := (List.nodup_append.1 h2).2.2
  simp only [List.contains_eq_mem, Bool.not_eq_true', decide_eq_false_iff_not]
  exact fun hm => this y hm y hy rfl
theorem filter_len_eq {α : Type} {p : α → Bool} : ∀ {l : List α}, (l.filter p).length = l.length → ∀ x ∈ l, p x = true
  | [], _, x, hx => by cases hx
  | y :: r, h, x, hx => by
    cases hy : p y
    · rw [List.filter_cons, hy] at h
      have := List.length_filter_le p r
      simp at h
      omega
    · rw [List.filter_cons, hy] at h
      rcases List.mem_cons.1 hx with rfl | hx
      · exact hy
      · exact filter_len_eq (l := r) (by simpa using h) x hx
/-- All are clients: the line is right just if all are different. -/
theorem line_dist {xs : List Int} (h32 : xs.length ≤ 32) (hc : ∀ i, i < xs.length → clientL (xs.getD i 0) = true) : lineL xs = decide (dist xs = xs.length) := by
  rw [Bool.eq_iff_iff]
  simp only [lineL, h32, decide_true, Bool.true_and, decide_eq_true_eq]
  constructor
  · intro h
    simp only [lineTo, List.all_eq_true, List.mem_range, Bool.and_eq_true] at h
    unfold dist
    rw [List.filter_eq_self.2 (fun i hi => (h i (List.mem_range.1 hi)).2)]
    simp
  · intro h
    unfold dist at h
    have := filter_len_eq (l := List.range xs.length) (by rw [h]; simp)
    simp only [lineTo, List.all_eq_true, List.mem_range, Bool.and_eq_true]
    exact fun i hi => ⟨hc i hi, this i (List.mem_range.2 hi)⟩
end Go.Proofs.Ytfgknbflgmblmaa
namespace Go.Proofs.Ytfgknbflgmblmaa
open Go.RowKit Go.Maps Pl Il
theorem law3 : Keyed Try.prog 3 := int_keyed Try.underlying3
theorem zero3 (w : World) : (zeroValue 3).run Try.prog w = .ok (.int .i64 0) w := by kernel_rfl
/-- The parts of a queue in memory: its own block qb, the row of those who came (cv), the map of places (block mb, at most n entries, reading as D). -/
structure QMem (B : Nat) (w : World) (qb mb : Nat) (cv : Value) (D : DataW Unit) (n : Nat) (xs : List Int) : Prop where
  blk : w.heap[qb]? = some (.cells #[cv, .map (some mb)] 106 (0, 0))
  row : w.ownsRow B 3 1 cv xs.length (xs.map (Value.int .i64))
  map : w.ownsMap Try.prog 3 (plainElem Try.prog 3) mb n D
  ge : B ≤ qb
  ge' : B ≤ mb
structure QParts (B : Nat) (w : World) (qb mb : Nat) (cv : Value) (D : DataW Unit) (xs gone : List Int) : Prop where
  mem : QMem B w qb mb cv D xs.length xs
  rd : Reads D xs gone
/-- A queue at block qb: xs came, gone have left. -/
def QAt (B : Nat) (w : World) (qb : Nat) (xs gone : List Int) : Prop := ∃ mb cv D, QParts B w qb mb cv D xs gone
section
variable {B : Nat} {w : World} {qb mb n : Nat} {cv : Value} {D : DataW Unit} {xs gone : List Int}
theorem QMem.lt (h : QMem B w qb mb cv D n xs) : qb < w.heap.size := by
  rcases Nat.lt_or_ge qb w.heap.size with k | k
  · exact k
  · have := h.blk
    rw [Array.getElem?_eq_none k] at this; cases this
theorem QMem.size (h : QMem B w qb mb cv D n xs) : B ≤ w.heap.size := Nat.le_trans h.ge (Nat.le_of_lt h.lt)
theorem QMem.c0 (h : QMem B w qb mb cv D n xs) : w.cell? ⟨qb, 0, none⟩ = some cv := by simp [World.cell?, h.blk]
theorem QMem.c1 (h : QMem B w qb mb cv D n xs) : w.cell? ⟨qb, 1, none⟩ = some (.map (some mb)) := by simp [World.cell?, h.blk]
theorem QMem.f0 (h : QMem B w qb mb cv D n xs) : w.frozen? ⟨qb, 0, none⟩ = false := by simp [World.frozen?, h.blk]
theorem QMem.ne (h : QMem B w qb mb cv D n xs) : mb ≠ qb := by
  obtain ⟨es, clock, hb, _⟩ := h.map
  rintro rfl
  rw [h.blk] at hb; cases hb
theorem QMem.rowQ (h : QMem B w qb mb cv D n xs) : cv.ownBlock ≠ some qb := by
  intro e
  obtain ⟨_, ⟨rfl, _⟩ | ⟨g, cap, cur, rfl, _, hg, _⟩⟩ := h.row
  · cases e
  · simp [Value.ownBlock] at e
    subst e
    rw [h.blk] at hg
    simp at hg
theorem QMem.rowM (h : QMem B w qb mb cv D n xs) : cv.ownBlock ≠ some mb := by
  intro e
  obtain ⟨es, clock, hb, _⟩ := h.map
  obtain ⟨_, ⟨rfl, _⟩ | ⟨g, cap, cur, rfl, _, hg, _⟩⟩ := h.row
  · cases e
  · simp [Value.ownBlock] at e
    subst e
    rw [hb] at hg
    cases hg
theorem QMem.form (h : QMem B w qb mb cv D n xs) : ∃ a c, cv = .slice a xs.length c ∧ IntsAt w a xs.length xs := by
  obtain ⟨a, c, e, ho⟩ := own_of h.row xs rfl
  exact ⟨a, c, e, ho.ints⟩
theorem QMem.keep {w' : World} (h : QMem B w qb mb cv D n xs) (hb : Below w.heap.size w w') : QMem B w' qb mb cv D n xs := by
  have hg : w.grownBy w' none := ⟨hb.os, hb.tape, hb.output, hb.size, fun k hk _ => hb.block k hk⟩
  exact ⟨by rw [hb.block qb h.lt]; exact h.blk, h.row.kept hg (by cases cv.ownBlock <;> simp), h.map.kept hg (by simp), h.ge, h.ge'⟩
theorem QAt.keep {w' : World} (h : QAt B w qb xs gone) (hb : Below w.heap.size w w') : QAt B w' qb xs gone := by
  obtain ⟨mb, cv, D, h⟩ := h
  exact ⟨mb, cv, D, h.mem.keep hb, h.rd⟩
theorem QMem.mapped {w' : World} {D' : DataW Unit} {n' : Nat} (h : QMem B w qb mb cv D n xs) (hm : w'.ownsMap Try.prog 3 (plainElem Try.prog 3) mb n' D') (hg : w.grownBy w' (some mb)) : QMem B w' qb mb cv D' n' xs :=
  ⟨by rw [hg.block qb h.lt (by intro e; cases e; exact h.ne rfl)]; exact h.blk, h.row.kept hg (.inr h.rowM), hm, h.ge, h.ge'⟩
theorem QParts.has (h : QParts B w qb mb cv D xs gone) (x : Int) : Maps.has D (.int .i64 x) = (placeG xs gone x).isSome := h.rd.has x
theorem QParts.at (h : QParts B w qb mb cv D xs gone) {x c : Int} (hat : D.atKey (.int .i64 x) (.lit (.int .i64 0)) = .lit (.int .i64 c)) : c = ((placeG xs gone x).getD 0 : Nat) := by
  cases hp : placeG xs gone x with
  | none =>
    have := h.rd.has x
    rw [hp] at this
    rw [atKey_of_not_has this] at hat
    injection hat with hat
    injection hat with _ hat
    simp [← hat]
  | some i =>
    rw [h.rd.val x i hp] at hat
    injection hat with hat
    injection hat with _ hat
    simp [← hat]
end
theorem isClient_any (x : Int) (w : World) :
    Calls Try.prog 54 #[.int .i64 x] w fun e w' => e = .returned (.bool (clientL x)) ∧ w' = w := by
  go_enter Try.func54, Try.ntmps54
  go_wp2
  all_goals go_ret
  all_goals (refine ⟨rbool ?_, rfl⟩; rw [Bool.eq_iff_iff]; simp [clientL]; try omega)
theorem placeOf_any (B qb : Nat) (xs gone : List Int) (x : Int) (w : World) (hQ : QAt B w qb xs gone) (hx : (Lit.int .i64 x).wf = true) :
    Calls Try.prog 78 #[.pointer (some ⟨qb, 0, none⟩), .int .i64 x] w fun e w' => e = .returned (.tuple #[.int .i64 ((placeG xs gone x).getD 0 : Nat), .bool (placeG xs gone x).isSome]) ∧ w' = w := by
  obtain ⟨mb, cv, D, hq⟩ := hQ
  have hkey := keyOf_int_mk Try.underlying3 hx
  have c1 := hq.mem.c1
  have hown := hq.mem.map
  have hh := hq.has x
  have hv := fun c => hq.at (x := x) (c := c)
  have HV := hidOf hv
  have HH := hidOf hh
  clear hq hv hh
  go_enter Try.func78, Try.ntmps78
  go_wp2_with (first
    | (at_lookup; refine wpList_lookup_own_ok_int _ rfl _ _ 104 rfl 3 3 .i64 law3 Try.underlying104 Try.underlying3 (zero3 _) mb _ D rfl hown _ _ rfl hkey ?_; intro c hat hwc)
    | go_in)
  go_ret2
  rw [HV.out c hat, HH.out]
  exact ⟨rfl, rfl⟩
theorem leave_parts (B qb mb : Nat) (cv : Value) (D : DataW Unit) (xs gone : List Int) (x : Int) (w : World) (hq : QParts B w qb mb cv D xs gone) (hx : (Lit.int .i64 x).wf = true) :
    Calls Try.prog 80 #[.pointer (some ⟨qb, 0, none⟩), .int .i64 x] w fun e w' => e = .returned (.tuple #[]) ∧ QParts B w' qb mb cv (D.del (.int .i64 x)) xs (gone ++ [x]) ∧ w.grownBy w' (some mb) := by
  have hkey := keyOf_int_mk Try.underlying3 hx
  have c1 := hq.mem.c1
  have hown := hq.mem.map
  have HQ := hidOf hq
  clear hq
  go_enter Try.func80, Try.ntmps80
  go_wp2_with (first
    | (at_delete; refine wpList_delete_own _ rfl _ _ 104 3 rfl 3 law3 Try.underlying104 _ mb _ D rfl hown _ _ rfl hkey ?_; intro w1 hown1 hturn1)
    | go_in)
  go_end0
  exact ⟨rfl, ⟨HQ.out.mem.mapped hown1 hturn1.grown, HQ.out.rd.leave⟩, hturn1.grown⟩
theorem leave_any (B qb : Nat) (xs gone : List Int) (x : Int) (w : World) (hQ : QAt B w qb xs gone) (hx : (Lit.int .i64 x).wf = true) :
    Calls Try.prog 80 #[.pointer (some ⟨qb, 0, none⟩), .int .i64 x] w fun e w' => e = .returned (.tuple #[]) ∧ QAt B w' qb xs (gone ++ [x]) ∧ Below B w w' := by
  obtain ⟨mb, cv, D, hq⟩ := hQ
  refine (leave_parts B qb mb cv D xs gone x w hq hx).mono ?_
  rintro e w1 ⟨rfl, h1, hg⟩
  exact ⟨rfl, ⟨mb, cv, _, h1⟩, (Below.refl _ _).grown hg hq.mem.size (fun k hk => by cases hk; exact hq.mem.ge')⟩
open Go.RowKit Go.Maps Pl Il
theorem QMem.appended {B : Nat} {w w' : World} {qb mb g c n : Nat} {cv : Value} {D : DataW Unit} {xs : List Int} {x : Int} (h : QMem B w qb mb cv D n xs) (hr : w'.ownsRow B 3 1 (.slice (some ⟨g, 0, none⟩) (xs.length + 1) c) (xs.length + 1) ((xs ++ [x]).map (Value.int .i64)))
    (hg : w.grownBy w' cv.ownBlock) (hl : cv.ownBlock = some g ∨ w.heap.size ≤ g) :
    QMem B (w'.setCell ⟨qb, 0, none⟩ (.slice (some ⟨g, 0, none⟩) (xs.length + 1) c)) qb mb (.slice (some ⟨g, 0, none⟩) (xs.length + 1) c) D n (xs ++ [x]) := by
  have hq : w'.heap[qb]? = some (.cells #[cv, .map (some mb)] 106 (0, 0)) := by
    rw [hg.block qb h.lt (fun e => h.rowQ e.symm)]; exact h.blk
  have hgq : g ≠ qb := by
    rcases hl with hl | hl
    · intro e; subst e; exact h.rowQ hl
    · have := h.lt; omega
  have hm := (h.map.kept hg (fun e => h.rowM e.symm)).setCell (a := ⟨qb, 0, none⟩) h.ne (.slice (some ⟨g, 0, none⟩) (xs.length + 1) c)
  have hs : w'.grownBy (w'.setCell ⟨qb, 0, none⟩ (.slice (some ⟨g, 0, none⟩) (xs.length + 1) c)) (some qb) := ⟨rfl, rfl, rfl, by simp, fun k _ hk => Below.heap_setCell _ _ _ _ (by rintro rfl; exact hk rfl)⟩
  refine ⟨?_, ?_, hm, h.ge, h.ge'⟩
  · have hlt : qb < w'.heap.size := by
      rcases Nat.lt_or_ge qb w'.heap.size with k | k
      · exact k
      · rw [Array.getElem?_eq_none k] at hq; cases hq
    have hq' : w'.heap[qb] = .cells #[cv, .map (some mb)] 106 (0, 0) := by
      rw [Array.getElem?_eq_getElem hlt] at hq
      exact Option.some.inj hq
    simp [World.setCell, Array.getElem_modify, hlt, hq']
  · have := hr.kept hs (.inr (by simp [Value.ownBlock]; exact hgq))
    simpa using this
theorem QMem.mono {B : Nat} {w : World} {qb mb n n' : Nat} {cv : Value} {D : DataW Unit} {xs : List Int} (h : QMem B w qb mb cv D n xs) (hn : n ≤ n') : QMem B w qb mb cv D n' xs := ⟨h.blk, h.row, h.map.mono hn, h.ge, h.ge'⟩
/-- What is needed of the world at the walk's last store. -/
theorem QMem.ready {B : Nat} {w : World} {qb mb n : Nat} {cv : Value} {D : DataW Unit} {xs : List Int} (x : Int) (h : QMem B w qb mb cv D n xs) (hn : xs.length ≤ 2097152) : ∃ (g c : Nat) (w' : World),
    (Builtin.append_ #[24, 24] 24 #[cv, .slice (some ⟨w.heap.size, 0, none⟩) 1 1]).run Try.prog (w.alloc (.cells #[.int .i64 x] 3)) = .ok (.slice (some ⟨g, 0, none⟩) (xs.length + 1) c) w' ∧
    QMem B (w'.setCell ⟨qb, 0, none⟩ (.slice (some ⟨g, 0, none⟩) (xs.length + 1) c)) qb mb (.slice (some ⟨g, 0, none⟩) (xs.length + 1) c) D n (xs ++ [x]) ∧
    Below B w (w'.setCell ⟨qb, 0, none⟩ (.slice (some ⟨g, 0, none⟩) (xs.length + 1) c)) ∧ w'.cell? ⟨qb, 0, none⟩ = some cv ∧ w'.frozen? ⟨qb, 0, none⟩ = false := by
  obtain ⟨g, c, w', hr, ho, hg, hl⟩ := append_own1 B xs.length cv xs x w h.row h.size (by omega)
  refine ⟨g, c, w', hr, h.appended ho hg hl, ((Below.refl _ _).grown hg h.size (fun k hk => (h.row.lt k hk).1)).setCell (p := ⟨qb, 0, none⟩) h.ge _, ?_, ?_⟩
  · rw [← h.c0]; exact World.cell?_of_block (hg.block qb h.lt (fun e => h.rowQ e.symm))
  · rw [← h.f0]; exact World.frozen?_of_block (hg.block qb h.lt (fun e => h.rowQ e.symm))
theorem join_any (B qb : Nat) (xs : List Int) (x : Int) (w : World) (hQ : QAt B w qb xs []) (hx : (Lit.int .i64 x).wf = true) (hn : xs.length ≤ 2097152) :
    Calls Try.prog 92 #[.pointer (some ⟨qb, 0, none⟩), .int .i64 x] w fun e w' => e = .returned (.tuple #[]) ∧ QAt B w' qb (xs ++ [x]) [] ∧ Below B w w' := by
  obtain ⟨mb, cv, D, hq⟩ := hQ
  have hkey := keyOf_int_mk Try.underlying3 hx
  have c0 := hq.mem.c0
  have c1 := hq.mem.c1
  have hown := hq.mem.map
  have hh := hq.has x
  rw [place_isSome] at hh
  cases hhas : hasL xs x
  · rw [hhas] at hh
    obtain ⟨a, ca, rfl, _⟩ := hq.mem.form
    have hwl : (Lit.int .i64 (xs.length : Int)).wf = true := WalkArith.wf_i64 (by omega)
    obtain ⟨w1, hrun, hown1, hturn1⟩ := World.ownsMap.store (t := 104) (e := 3) hown.drew law3 Try.underlying104 (by unfold maxLen; omega) hkey (plainElem_int Try.underlying3 hwl)
    have hM1 := (hq.mem.keep (Below.refl _ w).drew).mapped hown1 hturn1.grown
    have hb1 : Below B w w1 := (Below.refl _ w).drew.grown hturn1.grown hq.mem.size (fun k hk => by cases hk; exact hq.mem.ge')
    have hrd := hq.rd.join_new (hown.tidy law3) hhas
    obtain ⟨g, c, w', hr, hP, hb, c0', f0'⟩ := hM1.ready x hn
    have d0 := hM1.c0
    have d1 := hM1.c1
    have Hr := hidOf hr
    have HP := hidOf hP
    have hb2 := hb1.trans hb
    clear hr hP hq hown1 hturn1 hM1 hb1 hb
    go_enter Try.func92, Try.ntmps92
    go_wp2_with (first
      | (at_lookup; refine wpList_lookup_own_ok_int _ rfl _ _ 104 rfl 3 3 .i64 law3 Try.underlying104 Try.underlying3 (zero3 _) mb _ D rfl hown _ _ rfl hkey ?_; intro c0 hat hwc)
      | go_in)
    go_region_with (fail)
    all_goals go_wp2_with (first
      | (at_builtin; refine wpList_append_run rfl _ _ 24 rfl _ _ _ rfl rfl Hr.out ?_)
      | go_in)
    all_goals go_end0
    all_goals exact ⟨rfl, ⟨mb, _, _, HP.out.mono (by simp), hrd⟩, hb2⟩
  · rw [hhas] at hh
    obtain ⟨g, c, w', hr, hP, hb, c0', f0'⟩ := hq.mem.ready x hn
    have hrd := hq.rd.join_old hhas
    obtain ⟨a, ca, rfl, _⟩ := hq.mem.form
    have Hr := hidOf hr
    have HP := hidOf hP
    clear hr hP hq
    go_enter Try.func92, Try.ntmps92
    go_wp2_with (first
      | (at_lookup; refine wpList_lookup_own_ok_int _ rfl _ _ 104 rfl 3 3 .i64 law3 Try.underlying104 Try.underlying3 (zero3 _) mb _ D rfl hown _ _ rfl hkey ?_; intro c0 hat hwc)
      | (at_builtin; refine wpList_append_run rfl _ _ 24 rfl _ _ _ rfl rfl Hr.out ?_)
      | go_in)
    go_end0
    exact ⟨rfl, ⟨mb, _, _, HP.out.mono (by simp), hrd⟩, hb⟩
open Go.RowKit Go.Maps Pl Il
theorem QAt.new (w : World) : QAt w.heap.size ((w.alloc (.map #[] 0)).alloc (.cells #[.slice none 0 0, .map (some w.heap.size)] 106 (0, 0))) (w.heap.size + 1) [] [] := by
  refine ⟨w.heap.size, .slice none 0 0, .map [], ⟨?_, ⟨rfl, .inl ⟨rfl, rfl⟩⟩, ?_, by omega, Nat.le_refl _⟩, Reads.empty⟩
  · have := heap_alloc_new (w.alloc (.map #[] 0)) (.cells #[.slice none 0 0, .map (some w.heap.size)] 106 (0, 0))
    simpa using this
  · exact (World.ownsMap_made w _ _ _).alloc _
theorem queueOf_any (a : Option Addr) (n cap : Nat) (xs : List Int) (w : World) (hI : IntsAt w a n xs) (hn : n ≤ 2097152) (hw : wfL xs) :
    Calls Try.prog 77 #[.slice a n cap] w fun e w' => ∃ qb, e = .returned (.pointer (some ⟨qb, 0, none⟩)) ∧ QAt w.heap.size w' qb xs [] ∧ Below w.heap.size w w' := by
  have hmm := @run_makeMap Try.prog
  have hS := QAt.new w
  have hbS : Below w.heap.size w ((w.alloc (.map #[] 0)).alloc (.cells #[.slice none 0 0, .map (some w.heap.size)] 106 (0, 0))) := bl_alloc (bl_alloc (Below.refl _ _) _) _
  obtain ⟨hlen, rfl | ⟨b, off, rfl, hb, hcell⟩⟩ := hI
  · have hx : xs = [] := List.length_eq_zero_iff.1 hlen
    subst hx
    go_enter Try.func77, Try.ntmps77
    go_wp2
    go_loopw [11] (fun i wr => i = .int .i64 0 ∧ QAt w.heap.size wr (w.heap.size + 1) [] [] ∧ Below w.heap.size w wr) (fun _ _ => 0)
    case atStart => exact ⟨rfl, hS, hbS⟩
    case round =>
      obtain ⟨rfl, hq, hbr⟩ := hrel
      go_wp2
      go_ret
      exact ⟨_, rfl, hq, hbr⟩
  · go_enter Try.func77, Try.ntmps77
    go_wp2
    go_loopw [11] (fun i wr => ∃ k : Nat, k ≤ n ∧ i = .int .i64 k ∧ QAt w.heap.size wr (w.heap.size + 1) (xs.take k) [] ∧ Below w.heap.size w wr) (fun i _ => n - (intOf i).toNat)
    case atStart => exact ⟨0, Nat.zero_le _, rfl, hS, hbS⟩
    case round =>
      rename_i wr
      obtain ⟨k, hk, rfl, hq, hbr⟩ := hrel
      clear hS hbS hmm
      by_cases hlt : k < n
      · have hc : wr.cell? ⟨b, off + k, none⟩ = some (.int .i64 (xs.getD k 0)) := by rw [hbr.cell (p := ⟨b, off + k, none⟩) hb]; exact hcell k hlt
        have hwk := wf_at hw (k := k) (by omega)
        have hcall := join_any w.heap.size (w.heap.size + 1) (xs.take k) (xs.getD k 0) wr hq hwk (by rw [List.length_take]; omega)
        have hst : xs.take k ++ [xs.getD k 0] = xs.take (k + 1) := by
          rw [List.take_succ_eq_append_getElem (by omega)]
          simp [List.getD, List.getElem?_eq_getElem (show k < xs.length by omega)]
        rw [hst] at hcall
        generalize xs.getD k 0 = y at hc hcall
        have HC := hidOf hcall
        clear hcell hcall hq hst
        go_wp2_with fail
        refine (HC.out).mono ?_
        rintro e w1 ⟨rfl, hq1, hb1⟩
        go_wp2
        go_roundw
        case rel => exact ⟨k + 1, by omega, by go_num, hq1, hbr.trans hb1⟩
        case measure => simp [intOf]; omega
      · obtain rfl : k = n := by omega
        clear hcell
        rw [List.take_of_length_le (by omega)] at hq
        go_wp2
        go_ret
        exact ⟨_, rfl, hq, hbr⟩
theorem line_noclient {xs : List Int} {k : Nat} {y : Int} (hk : k < xs.length) (hy : xs.getD k 0 = y) (h : clientL y = false) : lineL xs = false := line_bad hk hy (.inl h)
theorem lineQueue_any (a : Option Addr) (n cap : Nat) (xs : List Int) (w : World) (hI : IntsAt w a n xs) (hn : n ≤ 2097152) (hw : wfL xs) :
  Calls Try.prog 79 #[.slice a n cap] w fun e w' => ∃ p, e = .returned (.tuple #[.pointer p, .bool (lineL xs)]) ∧ (lineL xs = true → ∃ qb, p = some ⟨qb, 0, none⟩ ∧ QAt w.heap.size w' qb xs []) ∧ Below w.heap.size w w' := by
 by_cases h32 : n ≤ 32
 ·have h32' : ¬ 32 < (n : Int) := by omega
  have hI0 := hI
  obtain ⟨hlen, rfl | ⟨b, off, rfl, hb, hcell⟩⟩ := hI
  ·have hx : xs = [] := List.length_eq_zero_iff.1 hlen
   subst hx
   have HI := hidOf hI0
   clear hI0
   go_enter Try.func79, Try.ntmps79
   go_wp2
   go_loop [12] (fun i => i = .int .i64 0) (fun _ => 0)
   case atStart => rfl
   case round =>
    subst hrel
    go_wp2_with fail
    refine (queueOf_any a 0 cap [] _ HI.out hn hw).mono ?_
    rintro e w1 ⟨qb, rfl, hq, hb1⟩
    obtain ⟨mb, cv, D, hp⟩ := id hq
    have c1 := hp.mem.c1
    have hown := hp.mem.map
    have hsz := hp.rd.size rfl
    have HQ := hidOf hq
    clear hq hp
    go_wp2_with (first
     | (at_len; refine wpList_len_own _ rfl _ 104 rfl 3 3 Try.underlying104 _ mb _ D rfl hown ?_)
     | go_in)
    go_ret2
    refine ⟨some ⟨qb, 0, none⟩, ?_, fun _ => ⟨qb, rfl, HQ.out⟩, hb1⟩
    rfl
  ·have HI := hidOf hI0
   clear hI0
   go_enter Try.func79, Try.ntmps79
   go_wp2
   go_loop [12] (fun i => ∃ k : Nat, k ≤ n ∧ i = .int .i64 k ∧ ∀ j, j < k → clientL (xs.getD j 0) = true) (fun i => n - (intOf i).toNat)
   case atStart => exact ⟨0, Nat.zero_le _, rfl, fun j hj => by omega⟩
   case round =>
    obtain ⟨k, hk, rfl, hto⟩ := hrel
    have Hto := hidOf hto
    clear hto
    by_cases hlt : k < n
    ·have hc := hcell k hlt
     generalize hy : xs.getD k 0 = y at hc
     have HY := hidOf hy
     clear hy hcell
     go_wp2_with fail
     refine (isClient_any y _).mono ?_
     rintro e w1 ⟨rfl, rfl⟩
     cases hcl : clientL y
     ·go_wp2
      go_ret2
      rw [line_noclient (by omega) HY.out hcl]
      exact ⟨none, rfl, fun h => (by cases h), Below.refl _ _⟩
     ·go_wp2
      go_round
      case rel => exact ⟨k + 1, by omega, by go_num, fun j hj => by
       by_cases e : j = k
       ·subst e; rw [HY.out]; exact hcl
       ·exact Hto.out j (by omega)⟩
      case measure => simp [intOf]; omega
    ·obtain rfl : k = n := by omega
     clear hcell
     have hd := line_dist (xs := xs) (by omega) (by rw [hlen]; exact Hto.out)
     go_wp2_with fail
     refine (queueOf_any _ k cap xs _ HI.out hn hw).mono ?_
     rintro e w1 ⟨qb, rfl, hq, hb1⟩
     obtain ⟨mb, cv, D, hp⟩ := id hq
     have c1 := hp.mem.c1
     have hown := hp.mem.map
     have hsz := hp.rd.size rfl
     have HQ := hidOf hq
     clear hq hp
     go_wp2_with (first
      | (at_len; refine wpList_len_own _ rfl _ 104 rfl 3 3 Try.underlying104 _ mb _ D rfl hown ?_)
      | go_in)
     go_ret2
     refine ⟨some ⟨qb, 0, none⟩, ?_, fun _ => ⟨qb, rfl, HQ.out⟩, hb1⟩
     rw [hd, hlen]
     refine congrArg (fun b => Ending.returned (.tuple #[.pointer (some ⟨qb, 0, none⟩), .bool b])) ?_
     rw [Bool.eq_iff_iff]
     simp
     omega
 ·have h32' : 32 < (n : Int) := by omega
  have hq := line_long (xs := xs) (by rw [hI.len]; exact h32)
  clear hI
  go_enter Try.func79, Try.ntmps79
  go_wp2
  go_ret2
  rw [hq]
  exact ⟨none, rfl, fun h => (by cases h), Below.refl _ _⟩
open Go.RowKit Go.Maps Pl Il
theorem QParts.look {B : Nat} {w : World} {qb mb : Nat} {cv : Value} {D : DataW Unit} {xs gone : List Int} (h : QParts B w qb mb cv D xs gone) {x : Int} (hx : (Lit.int .i64 x).wf = true) {p : Option Nat} (hp : placeG xs gone x = p) :
    (Instr.lookup 104 (.map (some mb)) (.int .i64 x) true).run Try.prog w = .ok (.tuple #[.int .i64 (p.getD 0 : Nat), .bool p.isSome]) w := by
  obtain ⟨v, ps, hrun, hv⟩ := h.mem.map.look_ok (t := 104) (e := 3) law3 Try.underlying104 (zero3 _) (plainElem_int Try.underlying3 (by decide)) (keyOf_int_mk Try.underlying3 hx)
  obtain ⟨c, rfl, hc, _⟩ := plainElem_int_inv Try.underlying3 hv
  rw [hrun, h.has x, h.at (congrArg Prod.fst hc), hp]
theorem append_more (B m : Nat) (v : Value) (ys : List Int) (x : Int) (w w0 : World) (hB : B = w0.heap.size) (ho : w.ownsRow B 3 1 v m (ys.map (Value.int .i64))) (hb : Below B w0 w) (hs : m + 1 ≤ 4194304) :
    ∃ (g' c' : Nat) (w' : World), (Builtin.append_ #[24, 24] 24 #[v, .slice (some ⟨w.heap.size, 0, none⟩) 1 1]).run Try.prog (w.alloc (.cells #[.int .i64 x] 3)) = .ok (.slice (some ⟨g', 0, none⟩) (m + 1) c') w' ∧
      w'.ownsRow B 3 1 (.slice (some ⟨g', 0, none⟩) (m + 1) c') (m + 1) ((ys ++ [x]).map (Value.int .i64)) ∧ Below B w0 w' := by
  subst hB
  obtain ⟨g, c, w', hr, ho', hg, _⟩ := append_own1 _ m v ys x w ho hb.size hs
  exact ⟨g, c, w', hr, ho', hb.grown hg hb.size (fun k hk => (ho.lt k hk).1)⟩
theorem standing_any (B qb : Nat) (xs gone : List Int) (w : World) (hQ : QAt B w qb xs gone) (hw : wfL xs) (hn : xs.length ≤ 2097152) :
  Calls Try.prog 81 #[.pointer (some ⟨qb, 0, none⟩)] w fun e w' => ∃ v, e = .returned v ∧ w'.ownsRow w.heap.size 3 1 v (standTo xs gone xs.length).length ((standTo xs gone xs.length).map (Value.int .i64)) ∧ Below w.heap.size w w' := by
 obtain ⟨mb, cv, D, hq⟩ := hQ
 have c0 := hq.mem.c0
 have hlq := hq.mem.lt
 obtain ⟨a, ca, rfl, hI⟩ := hq.mem.form
 have HQ := hidOf hq
 clear hq
 obtain ⟨_, h0 | ⟨b, off, rfl, hb, hcell⟩⟩ := hI
 ·have hx : xs = [] := List.length_eq_zero_iff.1 h0
  subst hx
  go_enter Try.func81, Try.ntmps81
  go_wp2
  go_loop [3, 13] (fun v i => v = .slice none 0 0 ∧ i = .int .i64 0) (fun _ _ => 0)
  case atStart => exact ⟨rfl, rfl⟩
  case round =>
   obtain ⟨rfl, rfl⟩ := hrel
   go_wp2
   go_ret
   exact ⟨_, rfl, ⟨rfl, .inl ⟨rfl, rfl⟩⟩, Below.refl _ _⟩
 ·generalize hnn : xs.length = n at *
  go_enter Try.func81, Try.ntmps81
  go_wp2
  go_loopw [3, 13] (fun v i wr => ∃ k : Nat, k ≤ n ∧ i = .int .i64 k ∧ wr.ownsRow w.heap.size 3 1 v (standTo xs gone k).length ((standTo xs gone k).map (Value.int .i64)) ∧ Below w.heap.size w wr) (fun _ i _ => n - (intOf i).toNat)
  case atStart => exact ⟨0, Nat.zero_le _, rfl, ⟨rfl, .inl ⟨rfl, rfl⟩⟩, Below.refl _ _⟩
  case round =>
   rename_i wr
   obtain ⟨k, hk, rfl, ho, hbr⟩ := hrel
   by_cases hlt : k < n
   ·have hc : wr.cell? ⟨b, off + k, none⟩ = some (.int .i64 (xs.getD k 0)) := by rw [hbr.cell (p := ⟨b, off + k, none⟩) hb]; exact hcell k hlt
    have hwk := wf_at hw (k := k) (by omega)
    have hp : QParts B wr qb mb _ D xs gone := ⟨HQ.out.mem.keep hbr, HQ.out.rd⟩
    have c1 := hp.mem.c1
    generalize hy : xs.getD k 0 = y at hc hwk
    have hlook := fun p => hp.look hwk (p := p)
    have hm := stand_len xs gone k
    obtain ⟨g', c', w', hr, ho', hb'⟩ := append_more w.heap.size _ u3 _ y wr w rfl ho hbr (by omega)
    have hyes := fun h => stand_yes (gone := gone) hy h
    have hno := fun h => stand_no (gone := gone) hy h
    generalize hst : standTo xs gone k = st at *
    generalize hsl : st.length = sl at *
    have Hr := hidOf hr
    have Ho := hidOf ho
    have Ho' := hidOf ho'
    have Hbr := hidOf hbr
    have Hb' := hidOf hb'
    have Hyes := hidOf hyes
    have Hno := hidOf hno
    have HS := hidOf hsl
    have hkk : (k : Int) < (n : Int) := by omega
    clear hy hcell hr ho ho' hbr hb' hp hyes hno hst hsl
    cases hpl : placeG xs gone y with
    | none =>
     have hl := hlook _ hpl
     simp only [Option.getD_none, Option.isSome_none] at hl
     clear hlook
     go_wp2
     go_roundw
     case rel => exact ⟨k + 1, by omega, by go_num, by rw [Hno.out (by rw [hpl]; simp), HS.out]; exact Ho.out, Hbr.out⟩
     case measure => simp [intOf]; omega
    | some j =>
     have hl := hlook _ hpl
     simp only [Option.getD_some, Option.isSome_some] at hl
     clear hlook
     by_cases hj : j = k
     ·subst hj
      have hjj : ((j : Int) == (j : Int)) = true := by simp
      go_wp2_with (first
       | (at_builtin; refine wpList_append_run rfl _ _ 24 rfl _ _ _ rfl rfl Hr.out ?_)
       | go_in)
      go_roundw
      case rel => exact ⟨j + 1, by omega, by go_num, by rw [Hyes.out hpl, List.length_append, HS.out]; exact Ho'.out, Hb'.out⟩
      case measure => simp [intOf]; omega
     ·have hjj : ((j : Int) == (k : Int)) = false := by simp; omega
      go_wp2
      go_roundw
      case rel => exact ⟨k + 1, by omega, by go_num, by rw [Hno.out (by rw [hpl]; simp; omega), HS.out]; exact Ho.out, Hbr.out⟩
      case measure => simp [intOf]; omega
   ·obtain rfl : k = n := by omega
    clear hcell
    go_wp2
    go_ret
    exact ⟨_, rfl, ho, hbr⟩
end Go.Proofs.Ytfgknbflgmblmaa
namespace Go.Proofs.Ytfgknbflgmblmaa
open Go.RowKit Pl Il
theorem sameInts_any (a a' : Option Addr) (n n' cap cap' : Nat) (xs ys : List Int) (w : World) (hI : IntsAt w a n xs) (hJ : IntsAt w a' n' ys) (hn : n ≤ 2097152) (hn' : n' ≤ 2097152) :
    Calls Try.prog 16 #[.slice a n cap, .slice a' n' cap'] w fun e w' => e = .returned (.bool (eqL xs ys)) ∧ Below w.heap.size w w' := by
  by_cases hl : n = n'
  · subst hl
    obtain ⟨hlen, rfl | ⟨b, off, rfl, hb, hcell⟩⟩ := hI
    · have : xs = [] := List.length_eq_zero_iff.1 hlen
      have e2 : ys = [] := List.length_eq_zero_iff.1 hJ.len
      subst this e2
      go_enter Try.func16, Try.ntmps16
      go_wp2
      go_loop [5] (fun i => i = .int .i64 0) (fun _ => 0)
      case atStart => rfl
      case round =>
        subst hrel
        go_wp2
        go_ret
        exact ⟨rfl, Below.refl _ _⟩
    · obtain ⟨hlen', rfl | ⟨b', off', rfl, hb', hcell'⟩⟩ := hJ
      · have : xs = [] := List.length_eq_zero_iff.1 hlen
        have e2 : ys = [] := List.length_eq_zero_iff.1 hlen'
        subst this e2
        go_enter Try.func16, Try.ntmps16
        go_wp2
        go_loop [5] (fun i => i = .int .i64 0) (fun _ => 0)
        case atStart => rfl
        case round =>
          subst hrel
          go_wp2
          go_ret
          exact ⟨rfl, Below.refl _ _⟩
      · go_enter Try.func16, Try.ntmps16
        go_wp2
        go_loopw [5] (fun i wr => ∃ k : Nat, k ≤ n ∧ i = .int .i64 k ∧ xs.take k = ys.take k ∧ ∃ q, wr = w.drewN q) (fun i _ => n - (intOf i).toNat)
        case atStart => exact ⟨0, Nat.zero_le _, rfl, rfl, 0, rfl⟩
        case round =>
          obtain ⟨k, hk, rfl, hno, q, rfl⟩ := hrel
          have Hno : Hid _ := hno
          clear hno
          by_cases hlt : k < n
          · have hc := hcell k hlt
            have hc' := hcell' k hlt
            generalize hy : xs.getD k 0 = y at hc
            generalize hz : ys.getD k 0 = z at hc'
            have HY : Hid _ := hy
            have HZ : Hid _ := hz
            clear hy hz hcell hcell'
            have hki : (k : Int) < (n : Int) := by omega
            cases hyz : (y != z)
            · go_wp2
              go_quiet (fail)
              go_wp2
              go_roundw
              case rel => exact ⟨k + 1, by omega, by go_num, eq_step (by omega) (by omega) Hno.out (by rw [HY.out, HZ.out]; exact hyz), _, rfl⟩
              case measure => simp [intOf]; omega
            · go_wp2
              go_quiet (fail)
              go_wp2
              go_ret
              exact ⟨rbool (eq_no (k := k) (by rw [HY.out, HZ.out]; exact hyz)).symm, bl_drewN (bl_drewN (Below.refl _ _) _) _⟩
          · clear hcell hcell'
            go_wp2
            go_ret
            exact ⟨rbool (eq_end (by omega) (by omega) Hno.out).symm, bl_drewN (Below.refl _ _) _⟩
  · have hne : ((n : Int) != (n' : Int)) = true := by simp; omega
    have hq := eq_len (xs := xs) (ys := ys) (by rw [hI.len, hJ.len]; exact hl)
    clear hI hJ
    go_enter Try.func16, Try.ntmps16
    go_wp2
    go_ret
    exact ⟨rbool hq.symm, Below.refl _ _⟩
open Go.RowKit Pl Il
theorem own_span {B : Nat} {w : World} {a : Option Addr} {n : Nat} {xs : List Int} (h : Il.OwnAt B w a n xs) : n = 0 ∨ ∀ b off, a = some ⟨b, off, none⟩ → B ≤ b ∧ b < w.heap.size := by
  rcases h.own with h0 | ⟨b, off, e, hB, _⟩
  · exact .inl h0
  · rcases h.ints.row with h0 | ⟨b2, off2, e2, hl, _⟩
    · exact .inl h0
    · refine .inr fun b1 o1 e1 => ?_
      rw [e] at e1 e2; cases e1; cases e2; exact ⟨hB, hl⟩
/-- The list at a3 lies apart from the two lists . -/
def Apart3 (a1 : Option Addr) (m1 : Nat) (a2 : Option Addr) (m2 : Nat) (a3 : Option Addr) (m3 : Nat) : Prop :=
  m3 = 0 ∨ ∀ b3 off3, a3 = some ⟨b3, off3, none⟩ → (m1 = 0 ∨ ∀ b off, a1 = some ⟨b, off, none⟩ → b3 ≠ b) ∧ (m2 = 0 ∨ ∀ b off, a2 = some ⟨b, off, none⟩ → b3 ≠ b)
open Go.RowKit Pl Il
theorem NOwn.far6 {B : Nat} {w : World} {A : Na} {x : Nt} (h : NOwn B w A x) (N : Nat) (hN : N < B) (y0 y1 y2 y3 y4 y5 : Value) :
    NOwn B ((((((w.setCell ⟨N, 0, none⟩ y0).setCell ⟨N, 1, none⟩ y1).setCell ⟨N, 2, none⟩ y2).setCell ⟨N, 3, none⟩ y3).setCell ⟨N, 4, none⟩ y4).setCell ⟨N, 5, none⟩ y5) A x :=
  (((((h.far N 0 hN y0).far N 1 hN y1).far N 2 hN y2).far N 3 hN y3).far N 4 hN y4).far N 5 hN y5
open Go.RowKit Pl Il
/-- A notification is handed back, and more. -/
def NOutP (w : World) (y : Nt) (r : List Value) (e : Ending) (w' : World) : Prop :=
  ∃ A' : Na, e = .returned (.tuple (#[.agg #[.bool y.pm, .slice A'.a A'.n A'.c, .slice A'.a' A'.n' A'.c', .int .i64 y.on, .int .i64 y.sp, .int .i64 y.tk]] ++ r.toArray)) ∧ NOwn w.heap.size w' A' y ∧ A'.n ≤ A'.c ∧ Below w.heap.size w w'
/-- It is handed back, a list apart from it, and a number. -/
def NOutT (w : World) (y : Nt) (l : List Int) (r : Int) (e : Ending) (w' : World) : Prop :=
  ∃ (A' : Na) (a : Option Addr) (m c : Nat), e = .returned (.tuple #[.agg #[.bool y.pm, .slice A'.a A'.n A'.c, .slice A'.a' A'.n' A'.c', .int .i64 y.on, .int .i64 y.sp, .int .i64 y.tk], .slice a m c, .int .i64 r]) ∧ NOwn w.heap.size w' A' y ∧ A'.n ≤ A'.c ∧ Il.OwnAt w.heap.size w' a m l ∧ Apart3 A'.a A'.n A'.a' A'.n' a m ∧ Below w.heap.size w w'
end Go.Proofs.Ytfgknbflgmblmaa
namespace Go.Proofs.Ytfgknbflgmblmaa
open Go.ChangeShapes Go.WideShapes Go.ChangeAt Go.RowKit Go.Joins
theorem js1 : (laidOutB Try.prog) = true := by kernel_rfl
theorem js2 : (mapsRowed Try.prog) = true := by kernel_rfl
theorem js6 : ((Try.prog.stops == [])) = true := by kernel_rfl
theorem js8 : ((Try.prog.stopKnobs == [])) = true := by kernel_rfl
theorem js22 : ((true == Try.prog.plainKeys)) = true := by kernel_rfl
theorem js24 : (Try.prog.stopsHeard) = true := by kernel_rfl
theorem js25 : (Try.prog.mayEnter) = true := by kernel_rfl
theorem js26 : ((false == Try.prog.liftsFinal)) = true := by kernel_rfl
theorem js27 : ((Try.prog.make == some Make.cut)) = true := by kernel_rfl
theorem and_all {b0 b1 b2 b3 b4 b5 b6 b7 b8 b9 b10 b11 b12 b13 b14 b15 b16 b17 b18 b19 b20 b21 b22 b23 b24 b25 b26 b27 b28 b29 b30 b31 : Bool} (h0 : b0 = true) (h1 : b1 = true) (h2 : b2 = true) (h3 : b3 = true) (h4 : b4 = true) (h5 : b5 = true) (h6 : b6 = true) (h7 : b7 = true) (h8 : b8 = true) (h9 : b9 = true) (h10 : b10 = true) (h11 : b11 = true) (h12 : b12 = true) (h13 : b13 = true) (h14 : b14 = true) (h15 : b15 = true) (h16 : b16 = true) (h17 : b17 = true) (h18 : b18 = true) (h19 : b19 = true) (h20 : b20 = true) (h21 : b21 = true) (h22 : b22 = true) (h23 : b23 = true) (h24 : b24 = true) (h25 : b25 = true) (h26 : b26 = true) (h27 : b27 = true) (h28 : b28 = true) (h29 : b29 = true) (h30 : b30 = true) (h31 : b31 = true) : (b0 && b1 && b2 && b3 && b4 && b5 && b6 && b7 && b8 && b9 && b10 && b11 && b12 && b13 && b14 && b15 && b16 && b17 && b18 && b19 && b20 && b21 && b22 && b23 && b24 && b25 && b26 && b27 && b28 && b29 && b30 && b31) = true := by
  subst h0 h1 h2 h3 h4 h5 h6 h7 h8 h9 h10 h11 h12 h13 h14 h15 h16 h17 h18 h19 h20 h21 h22 h23 h24 h25 h26 h27 h28 h29 h30 h31
  rfl
end Go.Proofs.Ytfgknbflgmblmaa
namespace Go.Proofs.Ytfgknbflgmblmaa
theorem tK {P : Program} {ops : Array Oper} {Q : Exit → Act → World → Prop} {md : Region.Mode} {S : World → Prop} (i : Nat) {oi : Oper} (v : Value) {fuel : Nat} {listed : Array Bool} {a : Act} {w : World} (hi : ops[i]? = some oi)
    (hb : (Region.noSelect ops && (Region.free md ops listed i && (Region.ready md ops listed).contains i)) = true) (hw : Region.wanted oi (yielded ops a.tmps) = true) (hv : ∀ w, S w → (execOp a.eval oi).run P w = .ok (.value v) w) (hS : S w)
    (hQ : ∀ c a w, Q (.panic c) (a.put oi.dst v) w → Q (.panic c) a w) (h : wpAnyH P md ops Q S fuel (listed.setIfInBounds i true) (a.put oi.dst v) w) : wpAnyH P md ops Q S (fuel + 1) listed a w := by
  simp only [Bool.and_eq_true] at hb
  exact wpAnyH_take (i := i) (v := v) hi hb.1 hb.2.1 hb.2.2 hQ (Or.inl ⟨hw, hv⟩) hS h
theorem tR {P : Program} {ops : Array Oper} {Q : Exit → Act → World → Prop} {md : Region.Mode} {S : World → Prop} (i : Nat) {oi : Oper} {v : Value} {fuel : Nat} {listed L : Array Bool} {a b : Act} {w : World} (h : wpAnyH P md ops Q S fuel L b w) (hi : ops[i]? = some oi := by rfl)
    (hb : (Region.noSelect ops && (Region.free md ops listed i && (Region.ready md ops listed).contains i)) = true := by kernel_rfl) (hw : Region.wanted oi (yielded ops a.tmps) = true := by rfl)
    (hv : ∀ w, S w → (execOp a.eval oi).run P w = .ok (.value v) w := by (intro w hSw; (try dsimp only at hSw); go_simp; try with_reducible rfl)) (hS : S w := by assumption)
    (ha : a.put oi.dst v = b := by ((try simp only [Act.put, zGA, zG0, zGC, zSA, zS0, zSC]); try rfl))
    (hL : listed.setIfInBounds i true = L := by ((try simp only [Act.put, zGA, zG0, zGC, zSA, zS0, zSC]); try rfl))
    (hQ : ∀ c a w, Q (.panic c) (a.put oi.dst v) w → Q (.panic c) a w := by exact fun _ _ _ h => h) : wpAnyH P md ops Q S (fuel + 1) listed a w := by
  simp only [Bool.and_eq_true] at hb
  subst ha; subst hL
  exact wpAnyH_take (i := i) (v := v) hi hb.1 hb.2.1 hb.2.2 hQ (Or.inl ⟨hw, hv⟩) hS h
theorem tW {P : Program} {ops : Array Oper} {Q : Exit → Act → World → Prop} {md : Region.Mode} {S : World → Prop} (i : Nat) {o : Oper} {fuel : Nat} {listed : Array Bool} {a : Act} {w : World}
    (h : ∀ K' : Act → World → Prop, Shut (∀ a w, S w → (S w → wpAnyH P md ops Q S fuel (listed.setIfInBounds i true) a w) → K' a w) → if Region.wanted o (yielded ops a.tmps) = true then Oper.wp P o a w K' Q else K' (a.put o.dst undef) w)
    (hr : Region.ready md ops listed = [i] := by kernel_rfl) (ho : ops[i]? = some o := by rfl) : wpAnyH P md ops Q S (fuel + 1) listed a w :=
  wpAnyH_ready hr (by simp) (AllReadyH.cons ho h AllReadyH.nil)
end Go.Proofs.Ytfgknbflgmblmaa
