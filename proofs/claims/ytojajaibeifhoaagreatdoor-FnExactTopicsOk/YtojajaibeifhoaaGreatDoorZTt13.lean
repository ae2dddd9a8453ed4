/-
  Walk of the law on RingOk, out of the contracts of the specification's and the program's.
  The specification's rings: what the walk of RingOk holds on to.
  Walks of the specification's lines: who joins, who leaves, who is woken.
  Walks of the specification's lines: who is woken.
  The plain mathematics of a queue whose places stand in a map (no program in it).
  Rings: plain mathematics. What a right ring is, as the specification and as the program ask for it: the same.
  What a filter lets pass: plain mathematics.
  Walks of the program's terms: which are right, how many an Op takes.
  The program's stack of tests in memory; taking one off it, laying one down.
-/
import Derived.Test.YtojajaibeifhoaaGreatDoorZTt10
import Derived.Test.YtojajaibeifhoaaGreatDoorZTt12
import Derived.Deep.RegionHeld3
import Derived.Test.YtojajaibeifhoaaGreatDoorZTt9
import Derived.Test.YtojajaibeifhoaaGreatDoorZTt8
import Derived.Maps.OwnSet
import Derived.Deep.Upon
import Derived.Deep.AppendLies
import Derived.Laws.EntriesVeiled
import Derived.WalkSmall
namespace Go.Proofs.YtojajaibeifhoaaGreatDoor
open Go.RowKit Pl Il

/-- What is asked of the specification's, and of the program's. -/
def SpecRingOk (f : Rv → Bool) : Prop := ∀ (M : Rm) (v : Rv) (w : World), RIn w M v → RLe M 1048576 → RCap M → RWf v →
  Calls Tryz.prog 58 #[.agg #[.int .i64 v.cp, .int .i64 v.se, .slice M.ia M.i M.ic, .int .i64 v.nx, .slice M.sa M.s M.sc, .slice M.la M.l M.lc, .slice M.ga M.g M.gc, .bool v.cl]] w fun e w' => e = .returned (.bool (f v)) ∧ Below w.heap.size w w'
def ImplRingOk (f : Rv → Bool) : Prop := ∀ (M : Rm) (v : Rv) (w : World), RIn w M v → RLe M 1048576 → RCap M → RWf v →
  Calls Tryz.prog 52 #[.agg #[.int .i64 v.cp, .int .i64 v.se, .slice M.ia M.i M.ic, .int .i64 v.nx, .slice M.sa M.s M.sc, .slice M.la M.l M.lc, .slice M.ga M.g M.gc, .bool v.cl]] w fun e w' => e = .returned (.bool (f v)) ∧ Below w.heap.size w w'
/-- What the law holds on to: the argument's variable and its own copy's. -/
structure LawR (w : World) (N : Nat) (M M' : Rm) (v : Rv) (u : World) : Prop where
  arg : BoxL w.heap.size (rC M v) u
  own : BoxL N (rC M' v) u
  cop : RIn u M' v
  below : Below w.heap.size w u
theorem LawR.keep {w : World} {N : Nat} {M M' : Rm} {v : Rv} {u u' : World} (h : LawR w N M M' v u) (hb : Below u.heap.size u u') : LawR w N M M' v u' := ⟨h.arg.keep hb, h.own.keep hb, h.cop.keep hb, bl_trans h.below hb⟩
abbrev LawRS (w : World) (N : Nat) (M M' : Rm) (v : Rv) (u : World) : Prop :=
  u.cell? ⟨w.heap.size, 0, none⟩ = some (.int .i64 v.cp) ∧ u.cell? ⟨w.heap.size, 1, none⟩ = some (.int .i64 v.se) ∧ u.cell? ⟨w.heap.size, 2, none⟩ = some (.slice M.ia M.i M.ic) ∧ u.cell? ⟨w.heap.size, 3, none⟩ = some (.int .i64 v.nx) ∧ u.cell? ⟨w.heap.size, 4, none⟩ = some (.slice M.sa M.s M.sc) ∧ u.cell? ⟨w.heap.size, 5, none⟩ = some (.slice M.la M.l M.lc) ∧ u.cell? ⟨w.heap.size, 6, none⟩ = some (.slice M.ga M.g M.gc) ∧ u.cell? ⟨w.heap.size, 7, none⟩ = some (.bool v.cl) ∧ u.cell? ⟨N, 0, none⟩ = some (.int .i64 v.cp) ∧ u.cell? ⟨N, 1, none⟩ = some (.int .i64 v.se) ∧ u.cell? ⟨N, 2, none⟩ = some (.slice M'.ia M'.i M'.ic) ∧ u.cell? ⟨N, 3, none⟩ = some (.int .i64 v.nx) ∧ u.cell? ⟨N, 4, none⟩ = some (.slice M'.sa M'.s M'.sc) ∧ u.cell? ⟨N, 5, none⟩ = some (.slice M'.la M'.l M'.lc) ∧ u.cell? ⟨N, 6, none⟩ = some (.slice M'.ga M'.g M'.gc) ∧ u.cell? ⟨N, 7, none⟩ = some (.bool v.cl) ∧ LawR w N M M' v u
theorem LawR.s {w : World} {N : Nat} {M M' : Rm} {v : Rv} {u : World} (h : LawR w N M M' v u) : LawRS w N M M' v u :=
  ⟨h.arg.cs 0 (by simp), h.arg.cs 1 (by simp), h.arg.cs 2 (by simp), h.arg.cs 3 (by simp), h.arg.cs 4 (by simp), h.arg.cs 5 (by simp), h.arg.cs 6 (by simp), h.arg.cs 7 (by simp), h.own.cs 0 (by simp), h.own.cs 1 (by simp), h.own.cs 2 (by simp), h.own.cs 3 (by simp), h.own.cs 4 (by simp), h.own.cs 5 (by simp), h.own.cs 6 (by simp), h.own.cs 7 (by simp), h⟩
theorem LawRS.law {w : World} {N : Nat} {M M' : Rm} {v : Rv} {u : World} (h : LawRS w N M M' v u) : LawR w N M M' v u := h.2.2.2.2.2.2.2.2.2.2.2.2.2.2.2.2
theorem LawRS.keep {w : World} {N : Nat} {M M' : Rm} {v : Rv} {u u' : World} (h : LawRS w N M M' v u) (hb : Below u.heap.size u u') : LawRS w N M M' v u' := (h.law.keep hb).s
theorem LawRS.drew {w : World} {N : Nat} {M M' : Rm} {v : Rv} {u : World} (h : LawRS w N M M' v u) : LawRS w N M M' v u.drew := h.keep (Below.refl _ _).drew
end Go.Proofs.YtojajaibeifhoaaGreatDoor
namespace Go.Proofs.YtojajaibeifhoaaGreatDoor
open Go.RowKit Pl Il

/-- The argument's variable, and what it reads as. -/
structure RHold (w : World) (M : Rm) (v : Rv) (u : World) : Prop where
  box : BoxL w.heap.size (rC M v) u
  rin : RIn u M v
  below : Below w.heap.size w u
theorem RHold.keep {w : World} {M : Rm} {v : Rv} {u u' : World} (h : RHold w M v u) (hb : Below u.heap.size u u') : RHold w M v u' := ⟨h.box.keep hb, h.rin.keep hb, bl_trans h.below hb⟩
/-- The ring's cells, one subscriber's, and the number of one ahead of it. -/
abbrev RSub (w : World) (M : Rm) (v : Rv) (sa : Option Addr) (b o q : Nat) (x y : Sa) (u : World) : Prop :=
  u.cell? ⟨w.heap.size, 0, none⟩ = some (.int .i64 v.cp) ∧ u.cell? ⟨w.heap.size, 1, none⟩ = some (.int .i64 v.se) ∧ u.cell? ⟨w.heap.size, 2, none⟩ = some (.slice M.ia M.i M.ic) ∧ u.cell? ⟨w.heap.size, 3, none⟩ = some (.int .i64 v.nx) ∧ u.cell? ⟨w.heap.size, 4, none⟩ = some (.slice sa M.s M.sc) ∧ u.cell? ⟨w.heap.size, 5, none⟩ = some (.slice M.la M.l M.lc) ∧ u.cell? ⟨w.heap.size, 6, none⟩ = some (.slice M.ga M.g M.gc) ∧ u.cell? ⟨w.heap.size, 7, none⟩ = some (.bool v.cl) ∧ u.cell? ⟨b, o, none⟩ = some (.int .i64 x.s.id) ∧ u.cell? ⟨b, o + 1, none⟩ = some (.int .i64 x.s.st) ∧ u.cell? ⟨b, o + 2, none⟩ = some (.int .i64 x.s.cu) ∧ u.cell? ⟨b, o + 3, none⟩ = some (.int .i64 x.s.gt) ∧ u.cell? ⟨b, o + 4, none⟩ = some (.int .i64 x.s.lo) ∧ u.cell? ⟨b, o + 5, none⟩ = some (.int .i64 x.s.pa) ∧ u.cell? ⟨b, o + 6, none⟩ = some (.slice x.a x.n x.c) ∧ u.cell? ⟨b, q, none⟩ = some (.int .i64 y.s.id) ∧ RHold w M v u
theorem RSub.hold {w : World} {M : Rm} {v : Rv} {sa : Option Addr} {b o q : Nat} {x y : Sa} {u : World} (h : RSub w M v sa b o q x y u) : RHold w M v u := h.2.2.2.2.2.2.2.2.2.2.2.2.2.2.2.2
theorem RSub.keep {w : World} {M : Rm} {v : Rv} {sa : Option Addr} {b o q : Nat} {x y : Sa} {u u' : World} (h : RSub w M v sa b o q x y u) (hb : Below u.heap.size u u') : RSub w M v sa b o q x y u' := by
  obtain ⟨h0, h1, h2, h3, h4, h5, h6, h7, h8, h9, h10, h11, h12, h13, h14, h15, hh⟩ := h
  exact ⟨cellK h0 hb, cellK h1 hb, cellK h2 hb, cellK h3 hb, cellK h4 hb, cellK h5 hb, cellK h6 hb, cellK h7 hb, cellK h8 hb, cellK h9 hb, cellK h10 hb, cellK h11 hb, cellK h12 hb, cellK h13 hb, cellK h14 hb, cellK h15 hb, hh.keep hb⟩
theorem RSub.drew {w : World} {M : Rm} {v : Rv} {sa : Option Addr} {b o q : Nat} {x y : Sa} {u : World} (h : RSub w M v sa b o q x y u) : RSub w M v sa b o q x y u.drew := h.keep (Below.refl _ _).drew
theorem RHold.sub {w : World} {M : Rm} {v : Rv} {sa : Option Addr} {b o q : Nat} {x y : Sa} {u : World} (h : RHold w M v u) (ea : M.sa = sa) (hx : SCell u b o x) (hy : u.cell? ⟨b, q, none⟩ = some (.int .i64 y.s.id)) : RSub w M v sa b o q x y u :=
  ⟨h.box.cs 0 (by simp), h.box.cs 1 (by simp), h.box.cs 2 (by simp), h.box.cs 3 (by simp), by rw [← ea]; exact h.box.cs 4 (by simp), h.box.cs 5 (by simp), h.box.cs 6 (by simp), h.box.cs 7 (by simp), hx.c0, hx.c1, hx.c2, hx.c3, hx.c4, hx.c5, hx.c6, hy, h⟩
/-- The ring's cells alone. -/
abbrev RCel (w : World) (M : Rm) (v : Rv) (u : World) : Prop := u.cell? ⟨w.heap.size, 0, none⟩ = some (.int .i64 v.cp) ∧ u.cell? ⟨w.heap.size, 1, none⟩ = some (.int .i64 v.se) ∧ u.cell? ⟨w.heap.size, 2, none⟩ = some (.slice M.ia M.i M.ic) ∧ u.cell? ⟨w.heap.size, 3, none⟩ = some (.int .i64 v.nx) ∧ u.cell? ⟨w.heap.size, 4, none⟩ = some (.slice M.sa M.s M.sc) ∧ u.cell? ⟨w.heap.size, 5, none⟩ = some (.slice M.la M.l M.lc) ∧ u.cell? ⟨w.heap.size, 6, none⟩ = some (.slice M.ga M.g M.gc) ∧ u.cell? ⟨w.heap.size, 7, none⟩ = some (.bool v.cl) ∧ RHold w M v u
theorem RCel.hold {w : World} {M : Rm} {v : Rv} {u : World} (h : RCel w M v u) : RHold w M v u := h.2.2.2.2.2.2.2.2
theorem RHold.cel {w : World} {M : Rm} {v : Rv} {u : World} (h : RHold w M v u) : RCel w M v u := ⟨h.box.cs 0 (by simp), h.box.cs 1 (by simp), h.box.cs 2 (by simp), h.box.cs 3 (by simp), h.box.cs 4 (by simp), h.box.cs 5 (by simp), h.box.cs 6 (by simp), h.box.cs 7 (by simp), h⟩
theorem RCel.keep {w : World} {M : Rm} {v : Rv} {u u' : World} (h : RCel w M v u) (hb : Below u.heap.size u u') : RCel w M v u' := (h.hold.keep hb).cel
theorem RCel.drew {w : World} {M : Rm} {v : Rv} {u : World} (h : RCel w M v u) : RCel w M v u.drew := h.keep (Below.refl _ _).drew
/-- The ring's cells, its flag a written one. -/
abbrev RCelC (w : World) (M : Rm) (v : Rv) (c : Bool) (u : World) : Prop := u.cell? ⟨w.heap.size, 0, none⟩ = some (.int .i64 v.cp) ∧ u.cell? ⟨w.heap.size, 1, none⟩ = some (.int .i64 v.se) ∧ u.cell? ⟨w.heap.size, 2, none⟩ = some (.slice M.ia M.i M.ic) ∧ u.cell? ⟨w.heap.size, 3, none⟩ = some (.int .i64 v.nx) ∧ u.cell? ⟨w.heap.size, 4, none⟩ = some (.slice M.sa M.s M.sc) ∧ u.cell? ⟨w.heap.size, 5, none⟩ = some (.slice M.la M.l M.lc) ∧ u.cell? ⟨w.heap.size, 6, none⟩ = some (.slice M.ga M.g M.gc) ∧ u.cell? ⟨w.heap.size, 7, none⟩ = some (.bool c) ∧ RHold w M v u ∧ Hid (v.cl = c)
theorem RCelC.hold {w : World} {M : Rm} {v : Rv} {c : Bool} {u : World} (h : RCelC w M v c u) : RHold w M v u := h.2.2.2.2.2.2.2.2.1
theorem RCel.flag {w : World} {M : Rm} {v : Rv} {c : Bool} {u : World} (h : RCel w M v u) (hc : v.cl = c) : RCelC w M v c u := by
  subst hc
  obtain ⟨h0, h1, h2, h3, h4, h5, h6, h7, hh⟩ := h
  exact ⟨h0, h1, h2, h3, h4, h5, h6, h7, hh, rfl⟩
theorem RCelC.keep {w : World} {M : Rm} {v : Rv} {c : Bool} {u u' : World} (h : RCelC w M v c u) (hb : Below u.heap.size u u') : RCelC w M v c u' := (h.hold.keep hb).cel.flag (h.2.2.2.2.2.2.2.2.2).out
theorem RCelC.drew {w : World} {M : Rm} {v : Rv} {c : Bool} {u : World} (h : RCelC w M v c u) : RCelC w M v c u.drew := h.keep (Below.refl _ _).drew
/-- As many messages as from the oldest on; not too many who wait, and none where it is closed. -/
def lenR (v : Rv) : Bool := decide ((v.it.length : Int) = v.se - oldR v) && (decide (v.ln.length + v.gs.length ≤ 12) && !(v.cl && decide (0 < v.ln.length)))
/-- The head: numbers in their bounds, not too many. -/
def headR (v : Rv) : Bool := decide (1 ≤ v.cp ∧ v.cp ≤ 16) && decide (0 ≤ v.se ∧ v.se ≤ 1000000000) && decide (0 ≤ v.nx ∧ v.nx ≤ 1000000000) && decide (v.sb.length ≤ 12) && decide (v.it.length ≤ 16)
/-- The first k subscribers are right, by rising numbers. -/
def subsTo (v : Rv) (k : Nat) : Bool := (List.range k).all fun i => subR v (v.sb.getD i ⟨0, 0, 0, 0, 0, 0, []⟩) && (decide (i = 0) || decide ((v.sb.getD (i - 1) ⟨0, 0, 0, 0, 0, 0, []⟩).id < (v.sb.getD i ⟨0, 0, 0, 0, 0, 0, []⟩).id))
theorem subsTo_succ (v : Rv) (k : Nat) : subsTo v (k + 1) = (subsTo v k && (subR v (v.sb.getD k ⟨0, 0, 0, 0, 0, 0, []⟩) && (decide (k = 0) || decide ((v.sb.getD (k - 1) ⟨0, 0, 0, 0, 0, 0, []⟩).id < (v.sb.getD k ⟨0, 0, 0, 0, 0, 0, []⟩).id)))) := by
  unfold subsTo
  rw [List.range_succ, List.all_append]
  simp
theorem subsTo_bad {v : Rv} {k n : Nat} (h : subsTo v k = false) (hk : k ≤ n) : subsTo v n = false := by
  unfold subsTo at *
  rw [List.all_eq_false] at *
  obtain ⟨i, hi, hb⟩ := h
  exact ⟨i, by simp at hi ⊢; omega, hb⟩
theorem sb_get {M : Rm} {v : Rv} (h : svs M.xs = v.sb) {k : Nat} (hk : k < M.xs.length) : v.sb.getD k ⟨0, 0, 0, 0, 0, 0, []⟩ = (sg M.xs k).s := by
  rw [← h, List.getD_eq_getElem?_getD, List.getElem?_eq_getElem (by simpa [svs] using hk), Option.getD_some, sg_svs hk]
end Go.Proofs.YtojajaibeifhoaaGreatDoor
namespace Go.Proofs.YtojajaibeifhoaaGreatDoor
open Go.RowKit Pl Il

/-- What Join answers: the line, and the code. -/
def joinL (xs : List Int) (x : Int) : List Int × Int :=
  if !lineL xs || !clientL x then (xs, 1) else if hasL xs x then (xs, 5) else if 32 ≤ xs.length then (xs, 2) else (xs ++ [x], 0)
/-- What Leave answers: the line, and the code. -/
def leaveL (xs : List Int) (x : Int) : List Int × Int :=
  if !lineL xs then (xs, 1) else if !hasL xs x then (xs, 3) else (lessL xs x, 0)
theorem join_bad {xs : List Int} {x : Int} (h : lineL xs = false ∨ clientL x = false) : joinL xs x = (xs, 1) := by rcases h with h | h <;> simp [joinL, h]
theorem join_there {xs : List Int} {x : Int} (h1 : lineL xs = true) (h2 : clientL x = true) (h3 : hasL xs x = true) : joinL xs x = (xs, 5) := by simp [joinL, h1, h2, h3]
theorem join_full {xs : List Int} {x : Int} (h1 : lineL xs = true) (h2 : clientL x = true) (h3 : hasL xs x = false) (h4 : 32 ≤ xs.length) : joinL xs x = (xs, 2) := by simp [joinL, h1, h2, h3, h4]
theorem join_done {xs : List Int} {x : Int} (h1 : lineL xs = true) (h2 : clientL x = true) (h3 : hasL xs x = false) (h4 : ¬ 32 ≤ xs.length) : joinL xs x = (xs ++ [x], 0) := by simp only [joinL, h1, h2, h3, h4, Bool.not_true, Bool.or_self, if_false, Bool.false_eq_true]
theorem leave_bad {xs : List Int} {x : Int} (h : lineL xs = false) : leaveL xs x = (xs, 1) := by simp [leaveL, h]
theorem leave_none {xs : List Int} {x : Int} (h : lineL xs = true) (h2 : hasL xs x = false) : leaveL xs x = (xs, 3) := by simp [leaveL, h, h2]
theorem leave_done {xs : List Int} {x : Int} (h : lineL xs = true) (h2 : hasL xs x = true) : leaveL xs x = (lessL xs x, 0) := by simp [leaveL, h, h2]


end Go.Proofs.YtojajaibeifhoaaGreatDoor
namespace Go.Proofs.YtojajaibeifhoaaGreatDoor
open Go.RowKit Pl Il

/-- How many Wake wakes. -/
def wakeN (xs : List Int) (n : Int) : Nat := if n > (xs.length : Int) then xs.length else n.toNat
theorem wakeN_le (xs : List Int) (n : Int) (h : 0 ≤ n) : wakeN xs n ≤ xs.length := by
  unfold wakeN
  split <;> omega
theorem wakeN_over {xs : List Int} {n : Int} (h : n > (xs.length : Int)) : wakeN xs n = xs.length := by simp [wakeN, h]
theorem wakeN_in {xs : List Int} {n : Int} (h : ¬ n > (xs.length : Int)) : wakeN xs n = n.toNat := by simp only [wakeN, h, if_false]


theorem line_len {xs : List Int} (h : lineL xs = true) : xs.length ≤ 32 := by
  unfold lineL at h
  simp at h
  exact h.1

/-- Two lists that the call has made, apart from one another. -/
structure Both (w : World) (g1 m1 c1 : Nat) (xs : List Int) (g2 m2 c2 : Nat) (ys : List Int) (w' : World) : Prop where
  one : Owns w.heap.size w' g1 m1 c1 xs
  two : Owns w.heap.size w' g2 m2 c2 ys
  apart : g1 ≠ g2
  below : Below w.heap.size w w'
theorem both_of {w w1 w2 w3 : World} {g1 m1 c1 : Nat} {xs : List Int} {g2 m2 c2 : Nat} {ys : List Int} (h1 : Below w.heap.size w w1) (o1 : Owns w1.heap.size w2 g1 m1 c1 xs) (h2 : Below w1.heap.size w1 w2) (o2 : Owns w2.heap.size w3 g2 m2 c2 ys) (h3 : Below w2.heap.size w2 w3) :
    Both w g1 m1 c1 xs g2 m2 c2 ys w3 where
  one := owns_keep (owns_mono o1 h1.size) h3
  two := owns_mono o2 (Nat.le_trans h1.size h2.size)
  apart := by
    have a := (owns_parts o1).2.2.1
    have b := (owns_parts o2).2.1
    omega
  below := bl_trans (bl_trans h1 h2) h3




end Go.Proofs.YtojajaibeifhoaaGreatDoor
namespace Go.Proofs.YtojajaibeifhoaaGreatDoor
open Go.RowKit Pl Il

/-- The first place of x in xs, unless it has gone. -/
def placeG (xs gone : List Int) (x : Int) : Option Nat := if gone.contains x then none else xs.findIdx? (· == x)
/-- How many different ones stand in xs. -/
def dist (xs : List Int) : Nat := ((List.range xs.length).filter fun i => !hasL (xs.take i) (xs.getD i 0)).length
/-- Who stands still, of the first k. -/
def standTo (xs gone : List Int) (k : Nat) : List Int := ((List.range k).filter fun i => placeG xs gone (xs.getD i 0) == some i).map fun i => xs.getD i 0
theorem place_isSome (xs : List Int) (x : Int) : (placeG xs [] x).isSome = hasL xs x := by
  simp only [placeG, List.contains_nil, Bool.false_eq_true, if_false, hasL]
  rw [List.findIdx?_isSome]
  rw [Bool.eq_iff_iff]
  simp only [List.any_eq_true, beq_iff_eq, List.contains_eq_mem, decide_eq_true_eq]
  exact ⟨fun ⟨y, hy, e⟩ => e ▸ hy, fun h => ⟨x, h, rfl⟩⟩
theorem place_placeL (xs : List Int) (x : Int) : placeL xs x = match placeG xs [] x with | some i => (i : Int) | none => -1 := by
  simp only [placeL, placeG, List.contains_nil, Bool.false_eq_true, if_false]
  cases xs.findIdx? (· == x) <;> rfl

/-- What the map of places reads as. -/
structure Reads (D : DataW Unit) (xs gone : List Int) : Prop where
  has : ∀ x, Maps.has D (.int .i64 x) = (placeG xs gone x).isSome
  val : ∀ x i, placeG xs gone x = some i → D.atKey (.int .i64 x) (.lit (.int .i64 0)) = .lit (.int .i64 (i : Int))
  size : gone = [] → Maps.size D = dist xs
theorem Reads.empty : Reads (.map []) [] [] := ⟨fun x => by simp [Maps.has, placeG], fun x i h => by simp [placeG] at h, fun _ => rfl⟩

theorem lit_ne {x y : Int} (h : ¬ x = y) : Lit.int .i64 x ≠ Lit.int .i64 y := fun e => h (by injection e)

theorem dist_snoc (xs : List Int) (x : Int) : dist (xs ++ [x]) = dist xs + if hasL xs x then 0 else 1 := by
  unfold dist
  rw [List.length_append, List.length_singleton, List.range_succ, List.filter_append, List.length_append]
  congr 1
  · refine congrArg List.length (List.filter_congr fun i hi => ?_)
    have hi := List.mem_range.1 hi
    rw [List.take_append_of_le_length (Nat.le_of_lt hi)]
    simp [List.getD, List.getElem?_append_left hi]
  · have e : (xs ++ [x]).getD xs.length 0 = x := by simp [List.getD]
    have e2 : (xs ++ [x]).take xs.length = xs := by simp
    rw [List.filter_cons, List.filter_nil, e, e2]
    cases hasL xs x <;> simp
theorem dist_le (xs : List Int) : dist xs ≤ xs.length := by
  unfold dist
  exact Nat.le_trans (List.length_filter_le _ _) (by simp)

theorem Reads.join_new {D : DataW Unit} {xs : List Int} {x : Int} (h : Reads D xs []) (ht : Maps.Tidy D) (hx : hasL xs x = false) : Reads (D.put (.int .i64 x) (.lit (.int .i64 (xs.length : Int)))) (xs ++ [x]) [] := by
  have key : ∀ y, ¬ y = x → placeG (xs ++ [x]) [] y = placeG xs [] y := fun y hy => by
    simp only [placeG, List.contains_nil, Bool.false_eq_true, if_false]
    rw [List.findIdx?_append]
    have : [x].findIdx? (· == y) = none := by
      rw [List.findIdx?_eq_none_iff]
      intro z hz
      rw [List.mem_singleton] at hz
      subst hz
      simp only [beq_eq_false_iff_ne, ne_eq]
      exact fun e => hy e.symm
    simp [this]
  have self : placeG (xs ++ [x]) [] x = some xs.length := by
    have h0 : placeG xs [] x = none := by
      have := place_isSome xs x
      rw [hx] at this
      simpa using this
    simp only [placeG, List.contains_nil, Bool.false_eq_true, if_false] at h0 ⊢
    rw [List.findIdx?_append, h0]
    simp [List.findIdx?_cons]
  refine ⟨fun y => ?_, fun y i hi => ?_, fun _ => ?_⟩
  · by_cases e : y = x
    · subst e
      rw [Maps.has_put_same (k := .int .i64 y) ht.isMap trivial, self]; rfl
    · rw [Maps.has_put_other (lit_ne e), key y e]; exact h.has y
  · by_cases e : y = x
    · subst e
      rw [self] at hi
      injection hi with hi
      subst hi
      rw [Maps.atKey_put_same (k := .int .i64 y) ht.isMap trivial]
    · rw [Maps.atKey_put_other (lit_ne e)]
      rw [key y e] at hi
      exact h.val y i hi
  · rw [Maps.size_put ht, h.has x, place_isSome, hx, dist_snoc, hx, h.size rfl]
    simp
theorem Reads.join_old {D : DataW Unit} {xs : List Int} {x : Int} (h : Reads D xs []) (hx : hasL xs x = true) : Reads D (xs ++ [x]) [] := by
  have key : ∀ y, placeG (xs ++ [x]) [] y = placeG xs [] y := fun y => by
    by_cases e : y = x
    · subst e
      have := place_isSome xs y
      rw [hx] at this
      obtain ⟨i, hi⟩ := Option.isSome_iff_exists.1 this
      rw [hi]
      simp only [placeG, List.contains_nil, Bool.false_eq_true, if_false] at hi ⊢
      rw [List.findIdx?_append, hi]; rfl
    · simp only [placeG, List.contains_nil, Bool.false_eq_true, if_false]
      rw [List.findIdx?_append]
      have : [x].findIdx? (· == y) = none := by
        rw [List.findIdx?_eq_none_iff]
        intro z hz
        rw [List.mem_singleton] at hz
        subst hz
        simp only [beq_eq_false_iff_ne, ne_eq]
        exact fun e' => e e'.symm
      simp [this]
  refine ⟨fun y => ?_, fun y i hi => ?_, fun _ => ?_⟩
  · rw [key]; exact h.has y
  · rw [key] at hi; exact h.val y i hi
  · rw [dist_snoc, hx, h.size rfl]; simp
theorem place_gone (xs gone : List Int) (x y : Int) : placeG xs (gone ++ [x]) y = if y = x then none else placeG xs gone y := by
  unfold placeG
  by_cases e : y = x
  · subst e; simp
  · simp [e]
theorem Reads.leave {D : DataW Unit} {xs gone : List Int} {x : Int} (h : Reads D xs gone) : Reads (D.del (.int .i64 x)) xs (gone ++ [x]) := by
  refine ⟨fun y => ?_, fun y i hi => ?_, fun e => by simp at e⟩
  · rw [place_gone]
    by_cases e : y = x
    · subst e
      rw [Maps.has_del_same]; simp
    · rw [Maps.has_del_other (lit_ne e), h.has]; simp [e]
  · rw [place_gone] at hi
    by_cases e : y = x
    · subst e; simp at hi
    · rw [Maps.atKey_del_other (lit_ne e)]
      simp [e] at hi
      exact h.val y i hi

theorem stand_yes {xs gone : List Int} {k : Nat} {y : Int} (hy : xs.getD k 0 = y) (h : placeG xs gone y = some k) : standTo xs gone (k + 1) = standTo xs gone k ++ [y] := by
  unfold standTo
  rw [List.range_succ, List.filter_append, List.map_append]
  congr 1
  rw [List.filter_cons, hy, h]
  simp [List.getD] at hy
  simp [List.getD, hy]
theorem stand_no {xs gone : List Int} {k : Nat} {y : Int} (hy : xs.getD k 0 = y) (h : ¬ placeG xs gone y = some k) : standTo xs gone (k + 1) = standTo xs gone k := by
  unfold standTo
  rw [List.range_succ, List.filter_append, List.map_append]
  have : (placeG xs gone (xs.getD k 0) == some k) = false := by
    rw [hy, beq_eq_false_iff_ne]; exact h
  rw [List.filter_cons, this]
  simp
theorem stand_len (xs gone : List Int) (k : Nat) : (standTo xs gone k).length ≤ k := by
  unfold standTo
  rw [List.length_map]
  exact Nat.le_trans (List.length_filter_le _ _) (by simp)

theorem nodup_line {xs : List Int} (h : lineL xs = true) : xs.Nodup := by
  simp only [lineL, lineTo, Bool.and_eq_true, List.all_eq_true, List.mem_range] at h
  rw [List.nodup_iff_pairwise_ne, List.pairwise_iff_getElem]
  intro i j hi hj hij e
  have := (h.2 j hj).2
  have e2 : xs.getD j 0 = xs[j] := by simp [List.getD, List.getElem?_eq_getElem hj]
  rw [e2] at this
  have hm : xs[j] ∈ xs.take j := by
    rw [List.mem_take_iff_getElem]
    exact ⟨i, by omega, e⟩
  simp [hasL, hm] at this
theorem find_nodup {xs : List Int} (h : xs.Nodup) {i : Nat} (hi : i < xs.length) : xs.findIdx? (· == xs[i]) = some i := by
  rw [List.findIdx?_eq_some_iff_getElem]
  refine ⟨hi, by simp, fun j hj => ?_⟩
  intro e
  have e : xs[j]'(by omega) = xs[i] := by simpa using e
  rw [List.nodup_iff_pairwise_ne, List.pairwise_iff_getElem] at h
  exact h j i (by omega) hi hj e
theorem map_range (xs : List Int) : (List.range xs.length).map (fun i => xs.getD i 0) = xs := by
  apply List.ext_getElem
  · simp
  · intro i h1 h2
    simp [List.getD, List.getElem?_eq_getElem h2]
theorem stand_all {xs : List Int} (h : xs.Nodup) (gone : List Int) : standTo xs gone xs.length = xs.filter fun y => !gone.contains y := by
  have e : (List.range xs.length).filter (fun i => placeG xs gone (xs.getD i 0) == some i) = (List.range xs.length).filter ((fun y => !gone.contains y) ∘ fun i => xs.getD i 0) := by
    refine List.filter_congr fun i hi => ?_
    have hi := List.mem_range.1 hi
    have e : xs.getD i 0 = xs[i] := by simp [List.getD, List.getElem?_eq_getElem hi]
    simp only [Function.comp, e, placeG, find_nodup h hi]
    cases gone.contains xs[i] <;> simp
  unfold standTo
  rw [e, ← List.filter_map, map_range]
theorem stand_full {xs : List Int} (h : xs.Nodup) : standTo xs [] xs.length = xs := by
  rw [stand_all h]; simp
theorem stand_less {xs : List Int} (h : xs.Nodup) (x : Int) : standTo xs [x] xs.length = lessL xs x := by
  rw [stand_all h, lessL, h.erase_eq_filter]
  refine List.filter_congr fun y _ => ?_
  by_cases e : y = x <;> simp [e]
theorem stand_rest {xs : List Int} (h : xs.Nodup) (k : Nat) : standTo xs (xs.take k) xs.length = xs.drop k := by
  rw [stand_all h]
  have e : xs.filter (fun y => !(xs.take k).contains y) = (xs.take k ++ xs.drop k).filter (fun y => !(xs.take k).contains y) := by rw [List.take_append_drop]
  rw [e, List.filter_append, List.filter_eq_nil_iff.2 (fun y hy => by simp [hy]), List.nil_append, List.filter_eq_self.2 (fun y hy => ?_)]
  have h2 : (xs.take k ++ xs.drop k).Nodup := by rw [List.take_append_drop]; exact h
  have := (List.nodup_append.1 h2).2.2
  simp only [List.contains_eq_mem, Bool.not_eq_true', decide_eq_false_iff_not]
  exact fun hm => this y hm y hy rfl
theorem nodup_snoc {xs : List Int} (h : xs.Nodup) {x : Int} (hx : hasL xs x = false) : (xs ++ [x]).Nodup := by
  rw [List.nodup_append]
  refine ⟨h, by simp, fun a ha b hb e => ?_⟩
  rw [List.mem_singleton] at hb
  subst hb
  subst e
  simp [hasL, ha] at hx

theorem filter_len_eq {α : Type} {p : α → Bool} : ∀ {l : List α}, (l.filter p).length = l.length → ∀ x ∈ l, p x = true
  | [], _, x, hx => by cases hx
  | y :: r, h, x, hx => by
    cases hy : p y
    · rw [List.filter_cons, hy] at h
      have := List.length_filter_le p r
      simp at h
      omega
    · rw [List.filter_cons, hy] at h
      rcases List.mem_cons.1 hx with rfl | hx
      · exact hy
      · exact filter_len_eq (l := r) (by simpa using h) x hx
/-- All are clients: the line is right just if all are different. -/
theorem line_dist {xs : List Int} (h32 : xs.length ≤ 32) (hc : ∀ i, i < xs.length → clientL (xs.getD i 0) = true) : lineL xs = decide (dist xs = xs.length) := by
  rw [Bool.eq_iff_iff]
  simp only [lineL, h32, decide_true, Bool.true_and, decide_eq_true_eq]
  constructor
  · intro h
    simp only [lineTo, List.all_eq_true, List.mem_range, Bool.and_eq_true] at h
    unfold dist
    rw [List.filter_eq_self.2 (fun i hi => (h i (List.mem_range.1 hi)).2)]
    simp
  · intro h
    unfold dist at h
    have := filter_len_eq (l := List.range xs.length) (by rw [h]; simp)
    simp only [lineTo, List.all_eq_true, List.mem_range, Bool.and_eq_true]
    exact fun i hi => ⟨hc i hi, this i (List.mem_range.2 hi)⟩
end Go.Proofs.YtojajaibeifhoaaGreatDoor
namespace Go.Proofs.YtojajaibeifhoaaGreatDoor
open Go.RowKit Pl Il

/-- Every message is right. -/
def msgsR (v : Rv) : Bool := v.it.all fun m => okB m.1 m.2.1 m.2.2
/-- The cursor of the one in place k. -/
def cuR (sb : List Sb) (k : Int) : Int := (sb.getD k.toNat ⟨0, 0, 0, 0, 0, 0, []⟩).cu
/-- The one in place i of those who wait or were told is right. -/
def waitAt (v : Rv) (i : Nat) : Bool :=
  decide (0 ≤ atR v.sb ((v.ln ++ v.gs).getD i 0)) && (!hasL ((v.ln ++ v.gs).take i) ((v.ln ++ v.gs).getD i 0) && (decide (v.ln.length ≤ i) || decide (cuR v.sb (atR v.sb ((v.ln ++ v.gs).getD i 0)) = v.se)))
def waitTo (v : Rv) (k : Nat) : Bool := (List.range k).all (waitAt v)
theorem waitTo_succ (v : Rv) (k : Nat) : waitTo v (k + 1) = (waitTo v k && waitAt v k) := by
  unfold waitTo
  rw [List.range_succ, List.all_append]
  simp
theorem waitTo_bad {v : Rv} {k n : Nat} (h : waitAt v k = false) (hk : k < n) : waitTo v n = false := by
  unfold waitTo
  rw [List.all_eq_false]
  exact ⟨k, List.mem_range.2 hk, by simp [h]⟩
/-- What the rest of RingOk asks for. -/
def restR (v : Rv) : Bool := msgsR v && waitTo v (v.ln.length + v.gs.length)
/-- What RingOk asks for, f being asked last. -/
def okR (f : Rv → Bool) (v : Rv) : Bool := headR v && (subsTo v v.sb.length && (lenR v && f v))

/-- The same, as the program asks for it. -/
def subI (se : Int) (s : Sb) : Bool := decide (0 ≤ s.st ∧ s.st ≤ s.cu ∧ s.cu ≤ se) && (decide (0 ≤ s.gt ∧ s.gt ≤ s.cu - s.st) && (decide (0 ≤ s.lo ∧ s.lo ≤ s.cu - s.st) && (decide (0 ≤ s.pa ∧ s.pa ≤ s.cu - s.st) && (decide (s.gt + s.lo + s.pa = s.cu - s.st) && okF s.fl))))
def leastAt (sb : List Sb) (k : Nat) : Int := if k = 0 then 0 else (sb.getD (k - 1) ⟨0, 0, 0, 0, 0, 0, []⟩).id + 1
def subsIAt (v : Rv) (i : Nat) : Bool := decide (leastAt v.sb i ≤ (v.sb.getD i ⟨0, 0, 0, 0, 0, 0, []⟩).id ∧ (v.sb.getD i ⟨0, 0, 0, 0, 0, 0, []⟩).id < v.nx) && subI v.se (v.sb.getD i ⟨0, 0, 0, 0, 0, 0, []⟩)
def subsITo (v : Rv) (k : Nat) : Bool := (List.range k).all (subsIAt v)
theorem subsITo_succ (v : Rv) (k : Nat) : subsITo v (k + 1) = (subsITo v k && subsIAt v k) := by
  unfold subsITo
  rw [List.range_succ, List.all_append]
  simp
theorem subsITo_bad {v : Rv} {k n : Nat} (h : subsIAt v k = false) (hk : k < n) : subsITo v n = false := by
  unfold subsITo
  rw [List.all_eq_false]
  exact ⟨k, List.mem_range.2 hk, by simp [h]⟩
def headI (v : Rv) : Bool := decide ((1 ≤ v.cp ∧ v.cp ≤ 16) ∧ (0 ≤ v.se ∧ v.se ≤ 1000000000) ∧ (0 ≤ v.nx ∧ v.nx ≤ 1000000000))
def subsI (v : Rv) : Bool := decide (v.sb.length ≤ 12) && subsITo v v.sb.length
def itemsI (v : Rv) : Bool := decide ((v.it.length : Int) = v.se - oldR v) && msgsR v
def lineI (v : Rv) (y : Int) : Bool := decide (0 ≤ atR v.sb y) && decide (cuR v.sb (atR v.sb y) = v.se)
def grantI (v : Rv) (y : Int) : Bool := decide (0 ≤ atR v.sb y)
def waitI (v : Rv) : Bool := !(v.cl && decide (0 < v.ln.length)) && (v.ln.all (lineI v) && (v.gs.all (grantI v) && decide (dist (v.ln ++ v.gs) = (v.ln ++ v.gs).length)))
def okI (v : Rv) : Bool := headI v && (subsI v && (itemsI v && waitI v))

theorem subsI_eq (v : Rv) : ∀ k, subsITo v k = subsTo v k
  | 0 => rfl
  | k + 1 => by
    rw [subsITo_succ, subsTo_succ, subsI_eq v k]
    cases hs : subsTo v k
    · rfl
    rw [Bool.true_and, Bool.true_and]
    have hp : k = 0 ∨ 0 ≤ (v.sb.getD (k - 1) ⟨0, 0, 0, 0, 0, 0, []⟩).id := by
      rcases Nat.eq_zero_or_pos k with h | h
      · exact .inl h
      · right
        obtain ⟨j, rfl⟩ : ∃ j, k = j + 1 := ⟨k - 1, by omega⟩
        rw [subsTo_succ] at hs
        simp only [Bool.and_eq_true, subR, subHead, decide_eq_true_eq] at hs
        have := hs.2.1.1.1.1.1.1.1.1.1
        simpa using this
    rw [Bool.eq_iff_iff]
    simp only [subsIAt, subI, subR, subHead, subSums, Bool.and_eq_true, Bool.or_eq_true, decide_eq_true_eq]
    unfold leastAt
    rcases Nat.eq_zero_or_pos k with h | h
    · subst h
      simp only [if_true, true_or, and_true]
      constructor
      · rintro ⟨⟨a, b⟩, ⟨c, d, e⟩, ⟨f, g⟩, ⟨i, j⟩, ⟨l, m⟩, n, o⟩
        exact ⟨⟨⟨⟨⟨⟨⟨⟨a, by omega⟩, c⟩, d⟩, e⟩, f⟩, i⟩, l⟩, ⟨⟨⟨g, j⟩, m⟩, n⟩, o⟩
      · rintro ⟨⟨⟨⟨⟨⟨⟨⟨a, b⟩, c⟩, d⟩, e⟩, f⟩, i⟩, l⟩, ⟨⟨⟨g, j⟩, m⟩, n⟩, o⟩
        exact ⟨⟨a, by omega⟩, ⟨c, d, e⟩, ⟨f, g⟩, ⟨i, j⟩, ⟨l, m⟩, n, o⟩
    · have hk : ¬ k = 0 := by omega
      have hp' := hp.resolve_left hk
      simp only [hk, if_false, false_or]
      constructor
      · rintro ⟨⟨a, b⟩, ⟨c, d, e⟩, ⟨f, g⟩, ⟨i, j⟩, ⟨l, m⟩, n, o⟩
        exact ⟨⟨⟨⟨⟨⟨⟨⟨⟨by omega, by omega⟩, c⟩, d⟩, e⟩, f⟩, i⟩, l⟩, ⟨⟨⟨g, j⟩, m⟩, n⟩, o⟩, by omega⟩
      · rintro ⟨⟨⟨⟨⟨⟨⟨⟨⟨a, b⟩, c⟩, d⟩, e⟩, f⟩, i⟩, l⟩, ⟨⟨⟨g, j⟩, m⟩, n⟩, o⟩, q⟩
        exact ⟨⟨by omega, by omega⟩, ⟨c, d, e⟩, ⟨f, g⟩, ⟨i, j⟩, ⟨l, m⟩, n, o⟩
theorem oldR_ge (v : Rv) : v.se - v.cp ≤ oldR v := by
  unfold oldR
  simp only
  split <;> split <;> omega
theorem atR_mem {sb : List Sb} {id : Int} (h : 0 ≤ atR sb id) : id ∈ sb.map (·.id) := by
  unfold atR at h
  cases hf : sb.findIdx? (fun s => s.id == id) with
  | none => rw [hf] at h; simp at h
  | some i =>
    rw [List.findIdx?_eq_some_iff_getElem] at hf
    obtain ⟨hi, he, _⟩ := hf
    exact List.mem_map.2 ⟨sb[i], List.getElem_mem hi, by simpa using he⟩
theorem dist_iff (xs : List Int) : dist xs = xs.length ↔ ∀ i, i < xs.length → hasL (xs.take i) (xs.getD i 0) = false := by
  constructor
  · intro h i hi
    unfold dist at h
    have := filter_len_eq (l := List.range xs.length) (by rw [h]; simp) i (List.mem_range.2 hi)
    simpa using this
  · intro h
    unfold dist
    rw [List.filter_eq_self.2 (fun i hi => by rw [h i (List.mem_range.1 hi)]; rfl)]
    simp
theorem dist_nodup {xs : List Int} (h : dist xs = xs.length) : xs.Nodup := by
  rw [List.nodup_iff_pairwise_ne, List.pairwise_iff_getElem]
  intro i j hi hj hij e
  have := (dist_iff xs).1 h j hj
  simp only [hasL, List.getD_eq_getElem?_getD, List.getElem?_eq_getElem hj, Option.getD_some, List.contains_eq_mem, decide_eq_false_iff_not] at this
  exact this (by rw [← e]; exact List.mem_take_iff_getElem.2 ⟨i, by omega, rfl⟩)
theorem few_wait {v : Rv} (hs : v.sb.length ≤ 12) (hd : dist (v.ln ++ v.gs) = (v.ln ++ v.gs).length) (h : ∀ y, y ∈ v.ln ++ v.gs → 0 ≤ atR v.sb y) : v.ln.length + v.gs.length ≤ 12 := by
  have h1 := (dist_nodup hd).length_le_of_subset (l₂ := v.sb.map (·.id)) (fun y hy => atR_mem (h y hy))
  simp only [List.length_append, List.length_map] at h1
  omega
theorem get_mem {xs : List Int} {i : Nat} (h : i < xs.length) : xs.getD i 0 ∈ xs := by
  rw [List.getD_eq_getElem?_getD, List.getElem?_eq_getElem h]
  exact List.getElem_mem h
theorem get_left {xs ys : List Int} {i : Nat} (h : i < xs.length) : (xs ++ ys).getD i 0 = xs.getD i 0 := by
  simp [List.getD_eq_getElem?_getD, List.getElem?_append_left h]
theorem get_right {xs ys : List Int} {i : Nat} (h : xs.length ≤ i) : (xs ++ ys).getD i 0 = ys.getD (i - xs.length) 0 := by
  simp [List.getD_eq_getElem?_getD, List.getElem?_append_right h]
theorem get_of {xs : List Int} {y : Int} (h : y ∈ xs) : ∃ i, i < xs.length ∧ xs.getD i 0 = y := by
  obtain ⟨i, hi, e⟩ := List.getElem_of_mem h
  exact ⟨i, hi, by rw [List.getD_eq_getElem?_getD, List.getElem?_eq_getElem hi]; exact e⟩
/-- Both ask for the same. -/
theorem okI_eq (v : Rv) : okI v = okR restR v := by
  rw [Bool.eq_iff_iff]
  simp only [okI, okR, headI, headR, subsI, itemsI, waitI, lenR, restR, Bool.and_eq_true, decide_eq_true_eq, subsI_eq]
  constructor
  · rintro ⟨⟨hc, hs, hn⟩, ⟨h12, hsub⟩, ⟨hlen, hmsg⟩, hcl, hln, hgs, hd⟩
    simp only [List.all_eq_true] at hln hgs
    have hat : ∀ y, y ∈ v.ln ++ v.gs → 0 ≤ atR v.sb y := fun y hy => by
      rcases List.mem_append.1 hy with hy | hy
      · have := hln y hy
        simp only [lineI, Bool.and_eq_true, decide_eq_true_eq] at this
        exact this.1
      · have := hgs y hy
        simpa [grantI] using this
    have ho := oldR_ge v
    refine ⟨⟨⟨⟨⟨hc, hs⟩, hn⟩, h12⟩, by omega⟩, hsub, ⟨hlen, few_wait h12 hd hat, hcl⟩, hmsg, ?_⟩
    unfold waitTo
    rw [List.all_eq_true]
    intro i hi
    rw [List.mem_range] at hi
    have hi2 : i < (v.ln ++ v.gs).length := by simpa using hi
    have h1 := hat _ (get_mem hi2)
    have h2 := (dist_iff _).1 hd i hi2
    simp only [waitAt, Bool.and_eq_true, Bool.or_eq_true, decide_eq_true_eq, Bool.not_eq_true']
    refine ⟨h1, h2, ?_⟩
    rcases Nat.lt_or_ge i v.ln.length with h | h
    · right
      have := hln _ (get_mem h)
      simp only [lineI, Bool.and_eq_true, decide_eq_true_eq] at this
      rw [get_left h]
      exact this.2
    · exact .inl h
  · rintro ⟨⟨⟨⟨⟨hc, hs⟩, hn⟩, h12⟩, h16⟩, hsub, ⟨hlen, hfew, hcl⟩, hmsg, hw⟩
    unfold waitTo at hw
    rw [List.all_eq_true] at hw
    have key : ∀ i, i < v.ln.length + v.gs.length → 0 ≤ atR v.sb ((v.ln ++ v.gs).getD i 0) ∧ hasL ((v.ln ++ v.gs).take i) ((v.ln ++ v.gs).getD i 0) = false ∧ (v.ln.length ≤ i ∨ cuR v.sb (atR v.sb ((v.ln ++ v.gs).getD i 0)) = v.se) := fun i hi => by
      have := hw i (List.mem_range.2 hi)
      simpa only [waitAt, Bool.and_eq_true, Bool.or_eq_true, decide_eq_true_eq, Bool.not_eq_true'] using this
    refine ⟨⟨hc, hs, hn⟩, ⟨h12, hsub⟩, ⟨hlen, hmsg⟩, hcl, ?_, ?_, ?_⟩
    · rw [List.all_eq_true]
      intro y hy
      obtain ⟨i, hi, rfl⟩ := get_of hy
      have h := key i (by omega)
      rw [get_left hi] at h
      simp only [lineI, Bool.and_eq_true, decide_eq_true_eq]
      exact ⟨h.1, h.2.2.resolve_left (by omega)⟩
    · rw [List.all_eq_true]
      intro y hy
      obtain ⟨i, hi, rfl⟩ := get_of hy
      have h := key (v.ln.length + i) (by omega)
      rw [get_right (by omega), Nat.add_sub_cancel_left] at h
      simp only [grantI, decide_eq_true_eq]
      exact h.1
    · rw [dist_iff]
      intro i hi
      exact (key i (by simpa using hi)).2.1
end Go.Proofs.YtojajaibeifhoaaGreatDoor
namespace Go.Proofs.YtojajaibeifhoaaGreatDoor
open Go.RowKit Pl Il

/-- What a right message is. -/
abbrev Bd : Type := Sum Int ByteArray
/-- Does t begin s? Is it somewhere within? -/
def begB (s t : ByteArray) : Bool := t.toList.isPrefixOf s.toList
def inL : List UInt8 → List UInt8 → Bool
  | l, [] => l.isEmpty
  | l, x :: xs => l.isPrefixOf (x :: xs) || inL l xs
def leafP (t : Tm) : Bd → Bool
  | .inl n => if t.1 = 1 then true else if t.1 = 2 then true else if t.1 = 3 then false else if t.1 = 4 then decide (n < t.2.1) else if t.1 = 5 then decide (n.tmod t.2.1 = 0) else false
  | .inr s => if t.1 = 1 then true else if t.1 = 2 then false else if t.1 = 3 then true else if t.1 = 4 then false else if t.1 = 5 then false else if t.1 = 6 then begB s t.2.2 else inL t.2.2.toList s.toList
abbrev Pd : Type := Bd → Bool
def pg (ps : List Pd) (i : Nat) : Pd := ps.getD i (fun _ => false)
def stepP (t : Tm) (ps : List Pd) : List Pd :=
  if t.1 = 8 then ps.take (ps.length - 1) ++ [fun b => !(pg ps (ps.length - 1) b)]
  else if t.1 = 9 then ps.take (ps.length - 2) ++ [fun b => pg ps (ps.length - 1) b && pg ps (ps.length - 2) b]
  else if t.1 = 10 then ps.take (ps.length - 2) ++ [fun b => pg ps (ps.length - 1) b || pg ps (ps.length - 2) b]
  else ps ++ [leafP t]
theorem stepP_len (t : Tm) (ps : List Pd) (_h : ¬ ps.length < cntM t.1) : (stepP t ps).length = ps.length - cntM t.1 + 1 := by
  unfold stepP
  unfold cntM
  by_cases h1 : t.1 = 8
  · simp [h1]
  · by_cases h2 : t.1 = 9
    · simp [h2]
    · by_cases h3 : t.1 = 10
      · simp [h3]
      · simp [h1, h2, h3]
def runP (f : List Tm) : List Pd := f.foldl (fun ps t => stepP t ps) []
theorem runP_snoc (l : List Tm) (t : Tm) : runP (l ++ [t]) = stepP t (runP l) := by simp [runP]
theorem runP_step {f : List Tm} {k : Nat} (hk : k < f.length) : runP (f.take (k + 1)) = stepP (qg f k) (runP (f.take k)) := by rw [take_qg hk, runP_snoc]
/-- What a filter lets pass. -/
def passP (f : List Tm) : Pd := if f = [] then fun _ => true else pg (runP f) 0
theorem runP_len : ∀ {f : List Tm} {k m : Nat}, k ≤ f.length → goN (f.take k) 0 = some m → (runP (f.take k)).length = m := by
  intro f k
  induction k with
  | zero => intro m _ h; simp [goN] at h; subst h; simp [runP]
  | succ k ih =>
    intro m hk h
    have hk' : k < f.length := by omega
    rw [take_qg hk', goN_snoc] at h
    cases e : goN (f.take k) 0 with
    | none => rw [e] at h; cases h
    | some q =>
      rw [e] at h
      simp only [Option.bind_some] at h
      have hl := ih (by omega) e
      split at h
      · cases h
      · split at h
        · cases h
        · rename_i h2
          rw [runP_step hk', stepP_len _ _ (by rw [hl]; exact h2), hl]
          simpa using h
end Go.Proofs.YtojajaibeifhoaaGreatDoor
namespace Go.Proofs.YtojajaibeifhoaaGreatDoor
open Go.RowKit Pl Il

theorem isPart_any (s : ByteArray) (w : World) (hs : s.size ≤ maxLen) :
    Calls Tryz.prog 171 #[.string s] w fun e w' => e = .returned (.bool (partB s)) ∧ w' = w := by
  unfold maxLen at hs
  by_cases h1 : (s.size : Int) < 1
  · have hq := part_size s (by omega)
    go_enter Tryz.func171, Tryz.ntmps171
    go_wp2
    go_ret
    first | exact ⟨rbool hq.symm, rfl⟩ | exact ⟨rfl, rfl⟩
  by_cases h2 : 10 < (s.size : Int)
  · have hq := part_size s (by omega)
    go_enter Tryz.func171, Tryz.ntmps171
    go_wp2
    go_ret
    first | exact ⟨rbool hq.symm, rfl⟩ | exact ⟨rfl, rfl⟩
  go_enter Tryz.func171, Tryz.ntmps171
  go_wp2
  go_loop [3] (fun i => ∃ k : Nat, k ≤ s.size ∧ i = .int .i64 k ∧ letL (s.data.toList.take k) = true) (fun i => s.size - (intOf i).toNat)
  case atStart => exact ⟨0, Nat.zero_le _, rfl, rfl⟩
  case round =>
    obtain ⟨k, hk, rfl, hp⟩ := hrel
    by_cases hlt : k < s.size
    · go_wp2
      all_goals first
        | (go_ret; exact ⟨rbool (part_bad s k hlt (let_no _ (by omega))).symm, rfl⟩)
        | (go_round
           case rel => exact ⟨k + 1, by omega, by go_num, let_step s k hlt hp (let_yes _ (by omega) (by omega))⟩
           case measure => simp [intOf]; omega)
    · go_wp2
      go_ret
      exact ⟨rbool (part_all s k (by omega) (by omega) (by omega) hp).symm, rfl⟩
theorem countTaken_any (op : Int) (w : World) : Calls Tryz.prog 158 #[.int .i64 op] w fun e w' => e = .returned (.int .i64 (cntM op : Int)) ∧ w' = w := by
  by_cases h1 : op = 8
  · subst h1
    go_enter Tryz.func158, Tryz.ntmps158
    go_wp2
    go_ret
    exact ⟨rfl, rfl⟩
  by_cases h2 : op = 9
  · subst h2
    go_enter Tryz.func158, Tryz.ntmps158
    go_wp2
    go_ret
    exact ⟨rfl, rfl⟩
  by_cases h3 : op = 10
  · subst h3
    go_enter Tryz.func158, Tryz.ntmps158
    go_wp2
    go_ret
    exact ⟨rfl, rfl⟩
  have e1 : (op == 8) = false := by simp [h1]
  have e2 : (op == 9) = false := by simp [h2]
  have e3 : (op == 10) = false := by simp [h3]
  have hc : cntM op = 0 := by simp [cntM, h1, h2, h3]
  rw [hc]
  go_enter Tryz.func158, Tryz.ntmps158
  go_wp2
  go_ret
  exact ⟨rfl, rfl⟩
set_option maxHeartbeats 1000000 in
theorem termOk_any (t : Tm) (w : World) (hs : t.2.2.size ≤ maxLen) :
    Calls Tryz.prog 157 #[.agg #[.int .i64 t.1, .int .i64 t.2.1, .string t.2.2]] w fun e w' => e = .returned (.bool (okTm t)) ∧ Below w.heap.size w w' := by
  obtain ⟨op, n, s⟩ := t
  simp only at hs ⊢
  go_enter Tryz.func157, Tryz.ntmps157
  go_wp2_with (go_at_call 171; refine (isPart_any s _ hs).mono ?_; rintro e w1 ⟨rfl, rfl⟩)
  all_goals go_ret
  all_goals refine ⟨rbool ?_, bl_alloc (Below.refl _ _) _⟩
  all_goals first | (simp_all [okTm]; done) | (simp_all [okTm]; omega)
end Go.Proofs.YtojajaibeifhoaaGreatDoor
namespace Go.Proofs.YtojajaibeifhoaaGreatDoor
open Go.RowKit Pl Il

def IsFn (v : Value) : Prop := ∃ k caps, v = .func (.func k) #[] caps
/-- What is asked of a relation 'this function value stands for this test': F are the blocks that it leans on. -/
structure Sys (R : List Nat → World → Value → Pd → Prop) : Prop where
  isfn : ∀ {F u v p}, R F u v p → IsFn v
  frame : ∀ {F u W v p}, R F u v p → u.heap.size ≤ W.heap.size → (∀ j, j ∈ F → W.heap[j]? = u.heap[j]?) → R F W v p
  lt : ∀ {F u v p}, R F u v p → ∀ j, j ∈ F → j < u.heap.size
  all : ∀ u, R [] u (.func (.func 156) #[] #[]) (fun _ => true)
  leaf : ∀ (t : Tm) (u : World), okTm t = true → cntM t.1 = 0 → t.2.2.size ≤ maxLen → Calls Tryz.prog 177 #[.agg #[.int .i64 t.1, .int .i64 t.2.1, .string t.2.2]] u fun e u' => ∃ v F, e = .returned v ∧ R F u' v (leafP t) ∧ (∀ j, j ∈ F → u.heap.size ≤ j) ∧ Below u.heap.size u u'
  nott : ∀ {F u v p} (c : Nat), R F u v p → u.heap[c]? = some (.cells #[v] 170 (0, 0)) → R (c :: F) u (.func (.func 174) #[] #[.pointer (some ⟨c, 0, none⟩)]) (fun b => !(p b))
  andd : ∀ {F F' u v v' p p'} (c c' : Nat), R F u v p → R F' u v' p' → u.heap[c]? = some (.cells #[v] 170 (0, 0)) → u.heap[c']? = some (.cells #[v'] 170 (0, 0)) → R (c :: c' :: (F ++ F')) u (.func (.func 175) #[] #[.pointer (some ⟨c, 0, none⟩), .pointer (some ⟨c', 0, none⟩)]) (fun b => p b && p' b)
  orr : ∀ {F F' u v v' p p'} (c c' : Nat), R F u v p → R F' u v' p' → u.heap[c]? = some (.cells #[v] 170 (0, 0)) → u.heap[c']? = some (.cells #[v'] 170 (0, 0)) → R (c :: c' :: (F ++ F')) u (.func (.func 176) #[] #[.pointer (some ⟨c, 0, none⟩), .pointer (some ⟨c', 0, none⟩)]) (fun b => p b || p' b)
/-- The stack in block L: vs are its function values, v the slice; they stand for ps. -/
structure Stk (R : List Nat → World → Value → Pd → Prop) (w0 : World) (L : Nat) (v : Value) (vs : List Value) (ps : List Pd) (u : World) : Prop where
  below : Below w0.heap.size w0 u
  hL : w0.heap.size ≤ L
  blk : u.heap[L]? = some (.cells #[v] 198 (0, 0))
  row : u.ownsRow (L + 1) 170 1 v vs.length vs
  len : ps.length = vs.length
  rep : ∀ i, i < vs.length → ∃ F, R F u (vs.getD i .nilFunc) (pg ps i) ∧ ∀ j, j ∈ F → j ≠ L ∧ v.ownBlock ≠ some j
theorem blk_cell {u : World} {L : Nat} {v : Value} {t : TypeId} (h : u.heap[L]? = some (.cells #[v] t (0, 0))) : u.cell? ⟨L, 0, none⟩ = some v ∧ L < u.heap.size ∧ ∀ o, u.frozen? ⟨L, o, none⟩ = false := by
  refine ⟨by simp [World.cell?, h], ?_, fun o => by simp [World.frozen?, h]⟩
  rcases Nat.lt_or_ge L u.heap.size with k | k
  · exact k
  · rw [Array.getElem?_eq_none k] at h; cases h
theorem blk_set {u : World} {L : Nat} {v : Value} {t : TypeId} (h : u.heap[L]? = some (.cells #[v] t (0, 0))) (y : Value) : (u.setCell ⟨L, 0, none⟩ y).heap[L]? = some (.cells #[y] t (0, 0)) := by
  simp [World.setCell, Array.getElem?_modify, h]
theorem infoFn : (Tryz.prog.info? 170).map (fun i => (i.zero, i.size, i.bytes)) = some (some .nilFunc, 1, 8) := by kernel_rfl
/-- One function value is appended to an own row. -/
theorem append_fn (B m : Nat) (v : Value) (vs : List Value) (f : Value) (w : World) (hf : IsFn f) (ho : w.ownsRow B 170 1 v m vs) (hB : B ≤ w.heap.size) (hs : m + 1 ≤ 4194304) :
    ∃ (g cap : Nat) (w' : World), (Builtin.append_ #[196, 196] 196 #[v, .slice (some ⟨w.heap.size, 0, none⟩) 1 1]).run Tryz.prog (w.alloc (.cells #[f] 170)) = .ok (.slice (some ⟨g, 0, none⟩) (m + 1) cap) w' ∧
      w'.ownsRow B 170 1 (.slice (some ⟨g, 0, none⟩) (m + 1) cap) (m + 1) (vs ++ [f]) ∧ w.grownBy w' v.ownBlock ∧ (v.ownBlock = some g ∨ w.heap.size < g) := by
  obtain ⟨i, hi, hz0, hz1, hz2⟩ := info_parts infoFn
  have hb0 : Below w.heap.size w (w.alloc (.cells #[f] 170)) := bl_alloc (Below.refl _ _) _
  have ho' : (w.alloc (.cells #[f] 170)).ownsRow B 170 1 v m vs := ho.alloc _
  obtain ⟨g, c, w', hr, hown, hg, hgo, _⟩ := run_append_lies (P := Tryz.prog) (w.alloc (.cells #[f] 170)) 196 196 B 170 i _ 1 8 Tryz.underlying196 hi hz0 hz1 hz2 rfl (by omega) v m _ ho' ⟨w.heap.size, 0, none⟩ 1 1 [f] (by simp)
    (fun j u h => by
      have hj : j = 0 := by
        have := (List.getElem?_eq_some_iff.1 h).1
        simp at this; omega
      subst hj
      simp at h
      subst h
      rw [Addr.add_lit]; simp)
    (fun u hu => by
      simp at hu
      subst hu
      obtain ⟨k, caps, rfl⟩ := hf
      rfl) (by omega) (by unfold maxLen; omega) (by omega) (by simp; omega) _ rfl
  refine ⟨g, c, w', hr, hown, ?_, ?_⟩
  · exact ⟨hg.os.trans hb0.os, hg.tape.trans hb0.tape, hg.output.trans hb0.output, Nat.le_trans hb0.size hg.size, fun k hk hne => (hg.block k (Nat.lt_of_lt_of_le hk hb0.size) hne).trans (hb0.block k hk)⟩
  · rcases hgo with h | h
    · exact .inl h
    · right; rw [h]; simp
theorem row_ge {B : Nat} {w : World} {t : TypeId} {v : Value} {n : Nat} {xs : List Value} (h : w.ownsRow B t 1 v n xs) {j : Nat} (hj : v.ownBlock = some j) : B ≤ j ∧ j < w.heap.size := h.lt j hj
theorem getD_snoc_lt {vs : List Value} {x : Value} {i : Nat} (h : i < vs.length) : (vs ++ [x]).getD i .nilFunc = vs.getD i .nilFunc := by
  simp [List.getD, List.getElem?_append_left h]
theorem getD_snoc_eq {vs : List Value} {x : Value} : (vs ++ [x]).getD vs.length .nilFunc = x := by simp [List.getD]
theorem pg_snoc_lt {ps : List Pd} {p : Pd} {i : Nat} (h : i < ps.length) : pg (ps ++ [p]) i = pg ps i := by
  simp [pg, List.getD, List.getElem?_append_left h]
theorem pg_snoc_eq {ps : List Pd} {p : Pd} : pg (ps ++ [p]) ps.length = p := by simp [pg, List.getD]
theorem pg_take {ps : List Pd} {i n : Nat} (h : i < n) : pg (ps.take n) i = pg ps i := by simp [pg, List.getD, List.getElem?_take_of_lt h]

set_option maxHeartbeats 1000000 in
theorem take_any {R : List Nat → World → Value → Pd → Prop} (S : Sys R) (w0 : World) (L : Nat) (v : Value) (vs : List Value) (x : Value) (ps : List Pd) (u : World) (hS : Stk R w0 L v (vs ++ [x]) ps u) (hn : vs.length ≤ 4194304) :
    Calls Tryz.prog 172 #[.pointer (some ⟨L, 0, none⟩)] u fun e u' => e = .returned x ∧ ∃ v', Stk R w0 L v' vs (ps.take vs.length) u' ∧ v'.ownBlock = v.ownBlock ∧ (∃ F, R F u' x (pg ps vs.length) ∧ ∀ j, j ∈ F → j ≠ L ∧ v'.ownBlock ≠ some j) ∧ u'.heap.size = u.heap.size ∧ ∀ k, k ≠ L → u'.heap[k]? = u.heap[k]? := by
  obtain ⟨hbl, hL, hblk, hrow, hlen, hrep⟩ := hS
  simp only [List.length_append, List.length_singleton] at hrow hlen hrep
  obtain ⟨hc, hlt, hfr⟩ := blk_cell hblk
  obtain ⟨g, cap, rfl, _, _⟩ := hrow.form (by omega)
  have hcap : vs.length + 1 ≤ cap := by
    obtain ⟨_, ⟨h0, _⟩ | ⟨g', cap', cur, hv, _, _, hc', _⟩⟩ := id hrow
    · cases h0
    · cases hv; exact hc'
  obtain ⟨F, hR, hF⟩ := hrep vs.length (by omega)
  rw [getD_snoc_eq] at hR
  have hgL : L + 1 ≤ g := (row_ge hrow (j := g) rfl).1
  have hx : u.cell? ⟨g, vs.length, none⟩ = some x := by
    rw [hrow.cellAt vs.length (by omega)]; simp
  obtain ⟨kx, cx, hfx⟩ := S.isfn hR
  obtain ⟨W, hW⟩ : ∃ W, W = u.setCell ⟨L, 0, none⟩ (.slice (some ⟨g, 0, none⟩) vs.length cap) := ⟨_, rfl⟩
  have hWk : ∀ k, k ≠ L → W.heap[k]? = u.heap[k]? := fun k hk => by rw [hW]; exact Below.heap_setCell _ _ _ _ (fun e => hk e)
  have hWs : W.heap.size = u.heap.size := by rw [hW]; simp
  have hWL : W.heap[L]? = some (.cells #[.slice (some ⟨g, 0, none⟩) vs.length cap] 198 (0, 0)) := by rw [hW]; exact blk_set hblk _
  have hrow' : W.ownsRow (L + 1) 170 1 (.slice (some ⟨g, 0, none⟩) vs.length cap) vs.length vs := by
    have h1 := ownsRow_pop (xs := vs) (last := [x]) (by omega) hrow
    rw [hW]
    exact h1.kept (row := some L) ⟨rfl, rfl, rfl, by simp, fun k _ hk => Below.heap_setCell _ _ _ _ (by rintro rfl; exact hk rfl)⟩ (.inr (by simp [Value.ownBlock]; omega))
  have hfin : Stk R w0 L (.slice (some ⟨g, 0, none⟩) vs.length cap) vs (ps.take vs.length) W :=
    ⟨by rw [hW]; exact hbl.setCell (p := ⟨L, 0, none⟩) hL _, hL, hWL, hrow', by rw [List.length_take]; omega, fun i hi => by
      obtain ⟨F', hR', hF'⟩ := hrep i (by omega)
      rw [getD_snoc_lt hi] at hR'
      exact ⟨F', by rw [pg_take hi]; exact S.frame hR' (by omega) (fun j hj => hWk j (hF' j hj).1), fun j hj => ⟨(hF' j hj).1, (hF' j hj).2⟩⟩⟩
  have HF := hidOf (And.intro hfin (And.intro (S.frame hR (W := W) (by omega) (fun j hj => hWk j (hF j hj).1)) (And.intro hWs hWk)))
  have hFF := hidOf hF
  clear hfin hrow' hWL hWs hWk hR hF hrep hrow hblk hbl hlen
  subst hfx
  have e1 : ((vs.length + 1 : Nat) : Int) - 1 = (vs.length : Int) := by omega
  go_enter Tryz.func172, Tryz.ntmps172
  go_wp2
  rw [← hW]
  go_ret
  exact ⟨rfl, _, HF.out.1, rfl, ⟨F, HF.out.2.1, fun j hj => hFF.out j hj⟩, HF.out.2.2.1, HF.out.2.2.2⟩
end Go.Proofs.YtojajaibeifhoaaGreatDoor
