/-
  What the row's list gives the walks: the library's table and its two errors.
-/
import Derived.Test.YtljecghkechcaaaDoorG2
import Derived.Lib.LaidTab
import Derived.Stop.LaidErr
import Derived.Stop.Joined
import Derived.MakeChecks
namespace Go.Proofs.YtljecghkechcaaaDoor
open Go.RowKit

theorem tTab : (Tryd.prog.globals[2]?).map (·.type) = some 115 := by kernel_rfl
theorem tBad : (Tryd.prog.globals[5]?).map (·.type) = some 60 := by kernel_rfl
theorem tFar : (Tryd.prog.globals[6]?).map (·.type) = some 60 := by kernel_rfl
theorem cellsTab : Tryd.prog.cellsOf 115 = 20 := by kernel_rfl
theorem cellsU64 : Tryd.prog.cellsOf 99 = 1 := by kernel_rfl
theorem cellsErr : Tryd.prog.cellsOf 135 = 1 := by kernel_rfl
theorem cellsStr : Tryd.prog.cellsOf 9 = 1 := by kernel_rfl
theorem star : "*" ++ "errors.errorString" = "*errors.errorString" := by decide
theorem rowErr (u : TypeId) (h : Tryd.prog.typeName? 3 u = some "*errors.errorString") : u = 133 :=
  typeName_ptr_named (nm := "errors.errorString") (by rw [star]; kernel_rfl) (by kernel_rfl) (by decide) u (by rw [star]; exact h)

/-- The three variables that the walks read, wherever they stand in the list. -/
theorem laid_of {r1 r2 r3 : List (String × DataW Unit)} {w : World}
    (h1 : laidMet Tryd.prog (("internal/strconv.uint64pow10", Lib.tabData .u64 Lib.pow10Tab) :: r1) w)
    (h2 : laidMet Tryd.prog (("strconv.ErrRange", Rows.laid_strconv_ErrRange) :: r2) w)
    (h3 : laidMet Tryd.prog (("strconv.ErrSyntax", Rows.laid_strconv_ErrSyntax) :: r3) w) : Laid w := by
  refine ⟨Lib.tabIs_of_head gTab tTab Tryd.underlying115 Tryd.underlying99 cellsU64 cellsTab h1, ?_, ?_⟩
  · obtain ⟨a, s, hv, -, -, -⟩ := laid_sentinel h3 gBad tBad Tryd.underlying60 rowErr Tryd.underlying133 Tryd.underlying135 rfl rfl Tryd.underlying9 cellsErr cellsStr
    exact ⟨_, _, hv⟩
  · obtain ⟨a, s, hv, -, -, -⟩ := laid_sentinel h2 gFar tFar Tryd.underlying60 rowErr Tryd.underlying133 Tryd.underlying135 rfl rfl Tryd.underlying9 cellsErr cellsStr
    exact ⟨_, _, hv⟩
end Go.Proofs.YtljecghkechcaaaDoor
