/-
  What clocks among the arguments give the walks.
-/
import Derived.Test.YtfahfbeemgigcaaRows
import Derived.Test.YtfahfbeemgigcaaCT
import Derived.ProofKit
import Derived.OpenShut
import Derived.ChangeOld
import Derived.Deep.SlicePairs
import Derived.Lib.SmallJoins
namespace Go.Proofs.Ytfahfbeemgigcaa
open Go.ChangeShapes Go.WideShapes Go.ChangeAt Go.RowKit Il

theorem fn_of {α : Type} {m : Nat} {R : Nat → α → Prop} (d : α) (h : ∀ i, i < m → ∃ x, R i x) : ∃ f : Nat → α, ∀ i, i < m → R i (f i) := by
  classical
  refine ⟨fun i => if hi : i < m then Classical.choose (h i hi) else d, fun i hi => ?_⟩
  simp only [hi, dif_pos]
  exact Classical.choose_spec (h i hi)
/-- A slice of timers, out of the cell that holds it. -/
theorem tims_cell {H : Type} {enc : TypeId × Value → H} {W : World} {base fuel : Nat} {sp : Nat → Bool} {held : Bool} {v : Value} {x : DataW H × List MemPlace}
    (hf : DataW.trod enc Try.prog W base sp held fuel 42 [v] = some x) : ∃ a len cap ts, v = .slice a len cap ∧ len ≤ 9223372036854775807 ∧ TimAt W a len ts := by
  rcases Go.Deep.open_slice_pairs Try.underlying42 Try.underlying90 (by kernel_rfl) (by kernel_rfl) (by kernel_rfl) (by kernel_rfl) (by kernel_rfl) hf with ⟨hcs, _⟩ | ⟨ad, l, c, m, n, V0, V1, D0, D1, P0, P1, hcs, _, hl, hm, hmm, _, hx⟩
  · simp at hcs
    subst hcs
    exact ⟨none, 0, 0, [], rfl, by omega, ⟨rfl, .inl rfl⟩⟩
  · simp at hcs
    subst hcs
    have hlm : l ≤ m := by rw [hmm]; split <;> omega
    have hlx : l ≤ 9223372036854775807 := by unfold maxLen at hm; omega
    obtain ⟨f, hfn⟩ := fn_of (α := Int × Int) (0, 0) (fun i (hi : i < l) => by
      obtain ⟨h0, h1, g0, g1⟩ := hx i (by omega)
      obtain ⟨n0, e0, _, _⟩ := DataW.trod_int Try.underlying3 g0
      obtain ⟨n1, e1, _, _⟩ := DataW.trod_int Try.underlying3 g1
      simp at e0 e1
      exact (⟨(n0, n1), by rw [h0, e0], by rw [h1, e1]⟩ : ∃ p : Int × Int, W.cell? (ad.add (i * 2)) = some (.int .i64 p.1) ∧ W.cell? (ad.add (i * 2 + 1)) = some (.int .i64 p.2)))
    refine ⟨some ad, l, c, (List.range l).map f, rfl, hlx, ⟨by simp, ?_⟩⟩
    rcases Nat.eq_zero_or_pos l with h | hpos
    · exact .inl h
    · obtain ⟨b, off, spot⟩ := ad
      have hc := (hfn 0 hpos).1
      have hspot : spot = none := by simpa [Addr.add] using World.cell?_spot hc
      subst hspot
      have hb : b < W.heap.size := by
        rw [Addr.add_lit] at hc
        rcases Nat.lt_or_ge b W.heap.size with h | h
        · exact h
        · simp [World.cell?, Array.getElem?_eq_none h] at hc
      refine .inr ⟨b, off, rfl, hb, fun i hi => ?_⟩
      obtain ⟨q0, q1⟩ := hfn i hi
      rw [Addr.add_lit] at q0 q1
      have e : tg ((List.range l).map f) i = f i := by simp [tg, List.getD, hi]
      rw [e, Nat.add_assoc]
      exact ⟨q0, q1⟩
end Go.Proofs.Ytfahfbeemgigcaa
