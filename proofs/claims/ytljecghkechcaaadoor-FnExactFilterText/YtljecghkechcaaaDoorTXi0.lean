/-
  What the variables hold that a filter's text is written and read by: the table of powers, and the words.
-/
import Derived.Test.YtljecghkechcaaaDoorTXs
import Derived.Test.YtljecghkechcaaaDoorTN3
import Derived.Test.YtljecghkechcaaaDoorShelf
namespace Go.Proofs.YtljecghkechcaaaDoor
open Go.RowKit Pl Il Tn

theorem gTabX : Tryd.prog.globalNamed "internal/strconv.uint64pow10" = some 2 := by kernel_rfl
theorem var_keepX {P : Program} {w w' : World} {n : String} {cs : Array Value} {g : Nat} (hg : P.globalNamed n = some g) (hb : Below w.heap.size w w') (h : w.var? P n = some cs) : w'.var? P n = some cs := by
  refine var?_below hb hg ?_ h
  rcases Nat.lt_or_ge g w.heap.size with k | k
  · exact k
  · unfold World.var? at h
    simp [hg, Array.getElem?_eq_none k] at h
/-- What the variables hold: the table of powers, and the words. -/
structure LaidT (w : World) : Prop where
  tab : Lib.TabIs Tryd.prog w "internal/strconv.uint64pow10" .u64 Lib.pow10Tab
  wrd : ∀ k, k < 11 → w.cell? ⟨0, k, none⟩ = some (.string (wordsT.getD k ⟨#[]⟩))
theorem LaidT.keep {w w' : World} (h : LaidT w) (hb : Below w.heap.size w w') : LaidT w' :=
  ⟨var_keepX gTabX hb h.tab, fun k hk => cellF (h.wrd k hk) hb⟩
end Go.Proofs.YtljecghkechcaaaDoor
