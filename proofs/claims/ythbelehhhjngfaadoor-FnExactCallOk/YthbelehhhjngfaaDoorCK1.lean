/-
  Calls: which are right, told as plain mathematics; a call's variable.
-/
import Derived.Test.YthbelehhhjngfaaDoorBOXa
import Derived.Test.YthbelehhhjngfaaDoorFM
import Derived.Test.YthbelehhhjngfaaDoorTN6
import Derived.Test.YthbelehhhjngfaaDoorA4
namespace Go.Proofs.YthbelehhhjngfaaDoor
open Go.RowKit Pl Il Tn

/-- A call. -/
structure Cl where
  op : Int
  a : Int
  b : Int
  tk : Int
  nm : ByteArray
  kd : Int
  nu : Int
  tx : ByteArray
  fl : List Tm
abbrev clC (x : Cl) (p : Option Addr) (m c : Nat) : List Value := [.int .i64 x.op, .int .i64 x.a, .int .i64 x.b, .int .i64 x.tk, .string x.nm, .int .i64 x.kd, .int .i64 x.nu, .string x.tx, .slice p m c]
abbrev clV (x : Cl) (p : Option Addr) (m c : Nat) : Value := .agg #[.int .i64 x.op, .int .i64 x.a, .int .i64 x.b, .int .i64 x.tk, .string x.nm, .int .i64 x.kd, .int .i64 x.nu, .string x.tx, .slice p m c]
def fA (o : Int) : Bool := !(decide (o = 13) || decide (o = 15) || decide (o = 16)) && (decide (1 ≤ o) && decide (o ≤ 19))
def fB (o : Int) : Bool := decide (o = 7) || decide (o = 19) || decide (o = 9) || decide (o = 14) || decide (o = 15) || decide (o = 16)
def fT (o : Int) : Bool := decide (o = 3) || decide (o = 6) || decide (o = 8) || decide (o = 11) || decide (o = 15)
def fN (o : Int) : Bool := decide (o = 13)
def fM (o : Int) : Bool := decide (o = 9) || decide (o = 13)
def fF (o : Int) : Bool := decide (o = 14)
def noMsg (x : Cl) : Bool := decide (x.kd = 0) && (decide (x.nu = 0) && decide (x.tx.toList = []))
def hasC (a b t n m f : Bool) (x : Cl) : Bool := (a || decide (x.a = 0)) && ((b || decide (x.b = 0)) && ((t || decide (x.tk = -1)) && ((n || decide (x.nm.toList = [])) && ((m || noMsg x) && (f || decide (x.fl.length = 0))))))
def namC (x : Cl) : Bool :=
  if x.op = 9 then decide (1 ≤ x.b) && (decide (x.b ≤ 4) && okB x.kd x.nu x.tx) else if x.op = 13 then rightN true x.nm && okB x.kd x.nu x.tx
  else if x.op = 14 then (decide (x.b = 0) || decide (x.b = 1)) && okF x.fl else decide (-1 ≤ x.tk)
def okC (x : Cl) : Bool := (decide (1 ≤ x.op) && decide (x.op ≤ 19)) && (hasC (fA x.op) (fB x.op) (fT x.op) (fN x.op) (fM x.op) (fF x.op) x && namC x)
/-- What a call may be read from. -/
structure CIn (w : World) (x : Cl) (p : Option Addr) (m : Nat) : Prop where
  nm : x.nm.size ≤ maxLen
  tx : x.tx.size ≤ maxLen
  fl : TmAt w p m x.fl
theorem CIn.keep {w w' : World} {x : Cl} {p : Option Addr} {m : Nat} (h : CIn w x p m) (hb : Below w.heap.size w w') : CIn w' x p m := ⟨h.nm, h.tx, h.fl.keep hb⟩
theorem BoxL.c9 {N : Nat} {v0 v1 v2 v3 v4 v5 v6 v7 v8 : Value} {w : World} (h : BoxL N [v0, v1, v2, v3, v4, v5, v6, v7, v8] w) : w.cell? ⟨N, 0, none⟩ = some v0 ∧ w.cell? ⟨N, 1, none⟩ = some v1 ∧ w.cell? ⟨N, 2, none⟩ = some v2 ∧ w.cell? ⟨N, 3, none⟩ = some v3 ∧ w.cell? ⟨N, 4, none⟩ = some v4 ∧ w.cell? ⟨N, 5, none⟩ = some v5 ∧ w.cell? ⟨N, 6, none⟩ = some v6 ∧ w.cell? ⟨N, 7, none⟩ = some v7 ∧ w.cell? ⟨N, 8, none⟩ = some v8 :=
  ⟨h.cs 0 (by simp), h.cs 1 (by simp), h.cs 2 (by simp), h.cs 3 (by simp), h.cs 4 (by simp), h.cs 5 (by simp), h.cs 6 (by simp), h.cs 7 (by simp), h.cs 8 (by simp)⟩
/-- Two messages held against each other. -/
theorem eqMs (k n k' n' : Int) (s s' : ByteArray) (w : World) : (Op.equalIn 10000 29 (.agg #[.int .i64 k, .int .i64 n, .string s]) (.agg #[.int .i64 k', .int .i64 n', .string s'])).run Tryd.prog w = .ok (k == k' && (n == n' && s.toList == s'.toList)) w := by
  have u3 := Tryd.underlying3
  have a3 := Tryd.isAgg3
  have z3 := Tryd.sizeOf3
  have u9 := Tryd.underlying9
  have a9 := Tryd.isAgg9
  have z9 := Tryd.sizeOf9
  have hS : Tryd.prog.underlying 29 = some (.struct (Tryd.prog.fieldsOf 29)) := by kernel_rfl
  have hp : Tryd.prog.stoodInHeld 29 = false := by kernel_rfl
  rw [show (10000 : Nat) = 9999 + 1 from rfl, run_equalIn_agg w 9999 29 _ _ hS hp]
  simp only [Program.fieldsOf, Tryd.underlying29]
  by_cases h1 : k = k'
  · subst h1
    by_cases h2 : n = n'
    · subst h2
      by_cases h3 : s.toList = s'.toList
      · go_simp
      · go_simp
    · go_simp
  · go_simp
theorem eqlMs (k n k' n' : Int) (s s' : ByteArray) (r : Bool) (hr : (k == k' && (n == n' && s.toList == s'.toList)) = r) (w : World) : (binOp .eql 29 (.agg #[.int .i64 k, .int .i64 n, .string s]) (.agg #[.int .i64 k', .int .i64 n', .string s'])).run Tryd.prog w = .ok (.bool r) w := by
  rw [run_eql_struct, eqMs, hr]; rfl
end Go.Proofs.YthbelehhhjngfaaDoor
