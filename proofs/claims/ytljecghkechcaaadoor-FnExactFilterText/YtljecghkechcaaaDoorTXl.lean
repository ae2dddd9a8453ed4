/-
  What the row's list gives the walks: the table of powers, and the words.
-/
import Derived.Test.YtljecghkechcaaaDoorTXi0
import Derived.Lib.LaidTab
import Derived.Stop.LaidErr
import Derived.Stop.Joined
import Derived.MakeChecks
namespace Go.Proofs.YtljecghkechcaaaDoor
open Go.RowKit

def strData {H : Type} (zs : List (List UInt8)) : DataW H := .agg (zs.map fun z => .lit (.string z))
theorem cells_of_strs {H : Type} {enc : TypeId × Value → H} {P : Program} {w : World} {base : Nat} {sp : Nat → Bool} {held : Bool} {fuel : Nat} {t e : TypeId} {n : Nat} {cs : List Value} {zs : List (List UInt8)} {p : List MemPlace}
    (ht : P.underlying t = some (.array n e)) (he : P.underlying e = some .string) (hce : P.cellsOf e = 1) (hct : P.cellsOf t = n)
    (h : DataW.trod enc P w base sp held fuel t cs = some (strData zs, p)) : cs = zs.map fun z => Value.string ⟨z.toArray⟩ := by
  cases fuel with
  | zero => simp [DataW.trod] at h
  | succ fuel =>
    simp only [DataW.trod, ht, hce, hct, Nat.mul_one] at h
    split at h
    · rename_i hl
      obtain ⟨xs, hm, hx⟩ := Option.map_eq_some_iff.1 h
      have hxs : xs.map (·.1) = zs.map fun z => (DataW.lit (.string z) : DataW H) := by
        have := congrArg Prod.fst hx
        simpa [strData] using this
      have hxl : xs.length = n := by simpa using Lib.mapM_length hm
      have hzl : zs.length = n := by
        have := congrArg List.length hxs
        simp at this
        omega
      apply List.ext_getElem?
      intro i
      by_cases hi : i < n
      · obtain ⟨b, hb, hf⟩ := Lib.mapM_at hm i i (by simp [hi])
        obtain ⟨z, hc, rfl, _⟩ := DataW.trod_string he hf
        have h1 : cs[i]? = some (.string z) := by
          have := congrArg (·[0]?) hc
          simpa [List.getElem?_take, List.getElem?_drop] using this
        have h2 : (xs.map (·.1))[i]? = some (DataW.lit (.string z.data.toList) : DataW H) := by simp [hb]
        rw [hxs] at h2
        simp only [List.getElem?_map, Option.map_eq_some_iff, DataW.lit.injEq, Lit.string.injEq] at h2
        obtain ⟨z', hz', rfl⟩ := h2
        simp [h1, hz']
      · rw [List.getElem?_eq_none (by omega), List.getElem?_eq_none (by simp; omega)]
    · cases h
theorem gWords : Tryd.prog.globalNamed "loop.example/g00098/impl.termWords" = some 0 := by kernel_rfl
theorem tWords : (Tryd.prog.globals[0]?).map (·.type) = some 54 := by kernel_rfl
theorem cellsWords : Tryd.prog.cellsOf 54 = 11 := by kernel_rfl
theorem cellsStrX : Tryd.prog.cellsOf 9 = 1 := by kernel_rfl
theorem tTabX : (Tryd.prog.globals[2]?).map (·.type) = some 115 := by kernel_rfl
theorem cellsTabX : Tryd.prog.cellsOf 115 = 20 := by kernel_rfl
theorem cellsU64X : Tryd.prog.cellsOf 99 = 1 := by kernel_rfl
def wordsL : List (List UInt8) := [[], [97, 108, 108], [110, 117, 109], [116, 101, 120, 116], [60], [37], [94], [126], [33], [38], [124]]
theorem words_eq : (Rows.laid_loop_example_g00098_impl_termWords : DataW Unit) = strData wordsL := rfl
theorem laidT_of {r1 r2 : List (String × DataW Unit)} {w : World}
    (h1 : laidMet Tryd.prog (("internal/strconv.uint64pow10", Lib.tabData .u64 Lib.pow10Tab) :: r1) w)
    (h2 : laidMet Tryd.prog (("loop.example/g00098/impl.termWords", Rows.laid_loop_example_g00098_impl_termWords) :: r2) w) : LaidT w := by
  refine ⟨Lib.tabIs_of_head gTabX tTabX Tryd.underlying115 Tryd.underlying99 cellsU64X cellsTabX h1, ?_⟩
  rw [words_eq] at h2
  obtain ⟨ps, ⟨g', t', cs, fuel, p, q, hg', ht', hvar, hd, _, _⟩, _⟩ := h2
  obtain rfl := Option.some.inj (gWords.symm.trans hg')
  obtain rfl := Option.some.inj (tWords.symm.trans ht')
  have e := cells_of_strs Tryd.underlying54 Tryd.underlying9 cellsStrX cellsWords hd
  intro k hk
  have hc := World.var?_cell gWords hvar k
  rw [hc]
  have e2 : cs[k]? = cs.toList[k]? := by simp
  rw [e2, e]
  have : ∀ j, j < 11 → (wordsL.map fun z => Value.string ⟨z.toArray⟩)[j]? = some (.string (wordsT.getD j ⟨#[]⟩)) := by
    intro j hj
    match j, hj with
    | 0, _ => rfl
    | 1, _ => rfl
    | 2, _ => rfl
    | 3, _ => rfl
    | 4, _ => rfl
    | 5, _ => rfl
    | 6, _ => rfl
    | 7, _ => rfl
    | 8, _ => rfl
    | 9, _ => rfl
    | 10, _ => rfl
  exact this k hk
end Go.Proofs.YtljecghkechcaaaDoor
