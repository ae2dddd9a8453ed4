/-
  Cells: what a look, and one who has been told, is answered.
-/
import Derived.Test.YtbbhaekmjnincaaCM7
namespace Go.Proofs.Ytbbhaekmjnincaa
open Go.RowKit Pl Il

/-- How a look ends. -/
def lookC (x : Ct) : Int := if x.cl = true then 6 else 0
theorem lookC_no {x : Ct} (h : false = x.cl) : lookC x = 0 := by unfold lookC; rw [← h]; rfl
theorem lookC_yes {x : Ct} (h : true = x.cl) : lookC x = 6 := by unfold lookC; rw [← h]; rfl
def lookM (x : Ct) : Int × Int × ByteArray × Int × Int := if okC x = false then (0, 0, ⟨#[]⟩, 0, 1) else (x.kd, x.nu, x.tx, x.ve, lookC x)
/-- A look's answer. -/
def LookP (x : Ct) (e : Ending) : Prop := e = .returned (.tuple #[.agg #[.int .i64 (lookM x).1, .int .i64 (lookM x).2.1, .string (lookM x).2.2.1], .int .i64 (lookM x).2.2.2.1, .int .i64 (lookM x).2.2.2.2])
end Go.Proofs.Ytbbhaekmjnincaa
