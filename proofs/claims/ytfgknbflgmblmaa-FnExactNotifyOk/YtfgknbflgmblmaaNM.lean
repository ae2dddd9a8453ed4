/-
  The plain mathematics of notifications (no program in it): which are right, and what the calls make of them.
-/
import Derived.Test.YtfgknbflgmblmaaH6
import Derived.Test.YtfgknbflgmblmaaGT
import Derived.Test.YtfgknbflgmblmaaWM
namespace Go.Proofs.Ytfgknbflgmblmaa
open Go.RowKit Pl Il

/-- A notification: its permit, line, grants, and three counts. -/
structure Nt where
  pm : Bool
  ln : List Int
  gs : List (Int × Bool)
  on : Int
  sp : Int
  tk : Int
def whosL (gs : List (Int × Bool)) : List Int := gs.map (·.1)
theorem whos_len (gs : List (Int × Bool)) : (whosL gs).length = gs.length := by simp [whosL]
theorem whos_snoc (gs : List (Int × Bool)) (g : Int × Bool) : whosL (gs ++ [g]) = whosL gs ++ [g.1] := by simp [whosL]
theorem whos_take (gs : List (Int × Bool)) (k : Nat) : whosL (gs.take k) = (whosL gs).take k := by simp [whosL]
theorem whos_at (gs : List (Int × Bool)) (k : Nat) : (whosL gs).getD k 0 = (gg gs k).1 := by
  unfold whosL gg
  rw [List.getD_eq_getElem?_getD, List.getD_eq_getElem?_getD, List.getElem?_map]
  cases gs[k]? <;> rfl
/-- How many grants are by a telling of one. -/
def onesL : List (Int × Bool) → Int
  | [] => 0
  | g :: gs => (if g.2 then 1 else 0) + onesL gs
theorem ones_snoc : ∀ (gs : List (Int × Bool)) (g : Int × Bool), onesL (gs ++ [g]) = onesL gs + (if g.2 then 1 else 0)
  | [], g => by simp [onesL]
  | x :: gs, g => by
    have := ones_snoc gs g
    simp only [List.cons_append, onesL, this]
    omega
theorem ones_bd : ∀ (gs : List (Int × Bool)), 0 ≤ onesL gs ∧ onesL gs ≤ gs.length
  | [] => by simp [onesL]
  | x :: gs => by
    have := ones_bd gs
    simp only [onesL, List.length_cons]
    split <;> omega
def permI (b : Bool) : Int := if b then 1 else 0
/-- What is taken, spilt, granted or stored. -/
def heldN (x : Nt) : Int := x.tk + x.sp + onesL x.gs + permI x.pm
/-- A right notification. -/
def okN (x : Nt) : Bool := waitL x.ln (whosL x.gs) && !(x.pm && decide (0 < x.ln.length)) && (cnt x.on && cnt x.sp && cnt x.tk) && decide (x.on = heldN x)

/-- A telling of one is placed. -/
def oneM (x : Nt) : Nt × Int :=
  match x.ln with
  | who :: r => ({ x with ln := r, gs := x.gs ++ [(who, true)] }, who)
  | [] => if x.pm then ({ x with sp := x.sp + 1 }, -1) else ({ x with pm := true }, -1)
def fullOne (x : Nt) : Bool := decide (1000000000 ≤ x.on) || decide (0 < x.ln.length) && decide (32 ≤ x.gs.length)
def tellOneM (x : Nt) : Nt × Int × Int :=
  if okN x = false then (x, -1, 1) else if fullOne x = true then (x, -1, 2) else ((oneM { x with on := x.on + 1 }).1, (oneM { x with on := x.on + 1 }).2, 0)
def allM (x : Nt) : Nt := { x with ln := [], gs := x.gs ++ x.ln.map fun y => (y, false) }
def tellAllM (x : Nt) : Nt × List Int × Int :=
  if okN x = false then (x, [], 1) else if 32 < x.ln.length + x.gs.length then (x, [], 2) else (allM x, x.ln, 0)
/-- Is who among those who were told? -/
def toldL (x : Nt) (who : Int) : Bool := hasL (whosL x.gs) who
def awaitM (x : Nt) (who : Int) : Nt × Int :=
  if okN x = false ∨ clientL who = false then (x, 1)
  else if hasL x.ln who = true ∨ toldL x who = true then (x, 5)
  else if 1000000000 ≤ x.tk ∨ x.pm = false ∧ 32 ≤ x.ln.length then (x, 2)
  else if x.pm = true then ({ x with pm := false, tk := x.tk + 1 }, 0) else ({ x with ln := x.ln ++ [who] }, 4)
/-- The grants without who's. -/
def lessG (gs : List (Int × Bool)) (who : Int) : List (Int × Bool) := gs.filter fun g => !(g.1 == who)
/-- By a telling of one? -/
def oneOf (gs : List (Int × Bool)) (who : Int) : Bool := hasG gs (who, true)
  where hasG (gs : List (Int × Bool)) (g : Int × Bool) : Bool := gs.contains g
def resumeM (x : Nt) (who : Int) : Nt × Int :=
  if okN x = false then (x, 1)
  else if hasL x.ln who = true then (x, 4)
  else if toldL x who = false then (x, 3)
  else if oneOf x.gs who = true ∧ 1000000000 ≤ x.tk then (x, 2)
  else ({ x with gs := lessG x.gs who, tk := x.tk + permI (oneOf x.gs who) }, 0)
def withdrawM (x : Nt) (who : Int) : Nt × Int × Int :=
  if okN x = false then (x, -1, 1)
  else if hasL x.ln who = true then ({ x with ln := lessL x.ln who }, -1, 0)
  else if toldL x who = false then (x, -1, 3)
  else if oneOf x.gs who = false then ({ x with gs := lessG x.gs who }, -1, 0)
  else if x.ln.length = 0 ∧ x.pm = true ∧ 1000000000 ≤ x.sp then (x, -1, 2)
  else ((oneM { x with gs := lessG x.gs who }).1, (oneM { x with gs := lessG x.gs who }).2, 0)
end Go.Proofs.Ytfgknbflgmblmaa
