/-
  What the row's list gives the walks: the library's table and its two errors.
-/
import Derived.Test.YtljecghkechcaaaGreatDoorG2
import Derived.Lib.LaidTab
import Derived.Stop.LaidErr
import Derived.Stop.Joined
import Derived.MakeChecks
namespace Go.Proofs.YtljecghkechcaaaGreatDoor
open Go.RowKit

theorem tTab : (Tryz.prog.globals[2]?).map (·.type) = some 120 := by kernel_rfl
theorem tBad : (Tryz.prog.globals[5]?).map (·.type) = some 61 := by kernel_rfl
theorem tFar : (Tryz.prog.globals[6]?).map (·.type) = some 61 := by kernel_rfl
theorem cellsTab : Tryz.prog.cellsOf 120 = 20 := by kernel_rfl
theorem cellsU64 : Tryz.prog.cellsOf 105 = 1 := by kernel_rfl
theorem cellsErr : Tryz.prog.cellsOf 140 = 1 := by kernel_rfl
theorem cellsStr : Tryz.prog.cellsOf 9 = 1 := by kernel_rfl
theorem star : "*" ++ "errors.errorString" = "*errors.errorString" := by decide
theorem rowErr (u : TypeId) (h : Tryz.prog.typeName? 3 u = some "*errors.errorString") : u = 138 :=
  typeName_ptr_named (nm := "errors.errorString") (by rw [star]; kernel_rfl) (by kernel_rfl) (by decide) u (by rw [star]; exact h)

/-- The three variables that the walks read, wherever they stand in the list. -/
theorem laid_of {r1 r2 r3 : List (String × DataW Unit)} {w : World}
    (h1 : laidMet Tryz.prog (("internal/strconv.uint64pow10", Lib.tabData .u64 Lib.pow10Tab) :: r1) w)
    (h2 : laidMet Tryz.prog (("strconv.ErrRange", Rows.laid_strconv_ErrRange) :: r2) w)
    (h3 : laidMet Tryz.prog (("strconv.ErrSyntax", Rows.laid_strconv_ErrSyntax) :: r3) w) : Laid w := by
  refine ⟨Lib.tabIs_of_head gTab tTab Tryz.underlying120 Tryz.underlying105 cellsU64 cellsTab h1, ?_, ?_⟩
  · obtain ⟨a, s, hv, -, -, -⟩ := laid_sentinel h3 gBad tBad Tryz.underlying61 rowErr Tryz.underlying138 Tryz.underlying140 rfl rfl Tryz.underlying9 cellsErr cellsStr
    exact ⟨_, _, hv⟩
  · obtain ⟨a, s, hv, -, -, -⟩ := laid_sentinel h2 gFar tFar Tryz.underlying61 rowErr Tryz.underlying138 Tryz.underlying140 rfl rfl Tryz.underlying9 cellsErr cellsStr
    exact ⟨_, _, hv⟩
end Go.Proofs.YtljecghkechcaaaGreatDoor
