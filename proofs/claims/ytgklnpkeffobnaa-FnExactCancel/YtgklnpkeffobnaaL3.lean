/-
  What tokens among the arguments give the walks.
-/
import Derived.Test.YtgklnpkeffobnaaRows
import Derived.Test.YtgklnpkeffobnaaBB2
import Derived.ProofKit
import Derived.OpenShut
import Derived.ChangeOld
import Derived.Deep.Grids
import Derived.Lib.SmallJoins
namespace Go.Proofs.Ytgklnpkeffobnaa
open Go.ChangeShapes Go.WideShapes Go.ChangeAt Go.RowKit Il

/-- A slice of numbers, out of the cell that holds it. -/
theorem ints_cell {H : Type} {enc : TypeId × Value → H} {W : World} {base fuel : Nat} {sp : Nat → Bool} {held : Bool} {v : Value} {x : DataW H × List MemPlace}
    (hf : DataW.trod enc Try.prog W base sp held fuel 24 [v] = some x) : ∃ a len cap xs, v = .slice a len cap ∧ len ≤ 9223372036854775807 ∧ IntsAt W a len xs ∧ wfL xs := by
  rcases open_ints Try.underlying24 Try.underlying3 (by kernel_rfl) hf with ⟨hcs, _⟩ | ⟨x, l, c, zs, hcs, _, hl, hm, hz, _, hcell, hwz⟩
  · simp at hcs
    subst hcs
    exact ⟨none, 0, 0, [], rfl, by omega, ⟨rfl, .inl rfl⟩, fun x hx => by cases hx⟩
  · simp at hcs
    subst hcs
    have hz' : l ≤ zs.length := by
      split at hz <;> omega
    have hlm : l ≤ 9223372036854775807 := by unfold maxLen at hm; omega
    refine ⟨some x, l, c, zs.take l, rfl, hlm, ⟨by rw [List.length_take]; omega, ?_⟩, fun y hy => hwz y (List.mem_of_mem_take hy)⟩
    rcases Nat.eq_zero_or_pos l with h | hpos
    · exact .inl h
    · obtain ⟨b, off, spot⟩ := x
      have hc := hcell 0 (by omega)
      have hspot : spot = none := by simpa [Addr.add] using World.cell?_spot hc
      subst hspot
      have hb : b < W.heap.size := by
        rw [Addr.add_lit] at hc
        rcases Nat.lt_or_ge b W.heap.size with h | h
        · exact h
        · simp [World.cell?, Array.getElem?_eq_none h] at hc
      refine .inr ⟨b, off, rfl, hb, fun i hi => ?_⟩
      have hci := hcell i (by omega)
      rw [Addr.add_lit] at hci
      rw [hci]
      simp [List.getD, List.getElem?_take_of_lt hi]
/-- A slice of truth values, out of the cell that holds it. -/
theorem bools_cell {H : Type} {enc : TypeId × Value → H} {W : World} {base fuel : Nat} {held : Bool} {v : Value} {x : DataW H × List MemPlace}
    (hf : DataW.trod enc Try.prog W base (fun _ => true) held fuel 25 [v] = some x) : ∃ a len cap xs, v = .slice a len cap ∧ len ≤ 9223372036854775807 ∧ BoolsAt W a len xs := by
  rcases Go.Deep.open_bools Try.underlying25 Try.underlying4 (by kernel_rfl) hf with ⟨hcs, _⟩ | ⟨x, l, c, B, hcs, _, hl, hm, _, hcell⟩
  · simp at hcs
    subst hcs
    exact ⟨none, 0, 0, [], rfl, by omega, ⟨rfl, .inl rfl⟩⟩
  · simp at hcs
    subst hcs
    have hlm : l ≤ 9223372036854775807 := by unfold maxLen at hm; omega
    refine ⟨some x, l, c, (List.range l).map B, rfl, hlm, ⟨by simp, ?_⟩⟩
    rcases Nat.eq_zero_or_pos l with h | hpos
    · exact .inl h
    · obtain ⟨b, off, spot⟩ := x
      have hc := hcell 0 (by omega)
      have hspot : spot = none := by simpa [Addr.add] using World.cell?_spot hc
      subst hspot
      have hb : b < W.heap.size := by
        rw [Addr.add_lit] at hc
        rcases Nat.lt_or_ge b W.heap.size with h | h
        · exact h
        · simp [World.cell?, Array.getElem?_eq_none h] at hc
      refine .inr ⟨b, off, rfl, hb, fun i hi => ?_⟩
      have hci := hcell i (by omega)
      rw [Addr.add_lit] at hci
      rw [hci]
      simp [List.getD, hi]
end Go.Proofs.Ytgklnpkeffobnaa
