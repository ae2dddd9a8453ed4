/-
  What a notification among the arguments gives the walks.
-/
import Derived.Test.YtfgknbflgmblmaaRows
import Derived.Test.YtfgknbflgmblmaaNX
import Derived.ProofKit
import Derived.OpenShut
import Derived.ChangeOld
import Derived.Deep.SlicePairs
import Derived.Lib.SmallJoins
namespace Go.Proofs.Ytfgknbflgmblmaa
open Go.ChangeShapes Go.WideShapes Go.ChangeAt Go.RowKit Go.Joins Go.Deep Il

/-- A slice of numbers, out of the cell that holds it. -/
theorem ints_cell {H : Type} {enc : TypeId × Value → H} {W : World} {base fuel : Nat} {sp : Nat → Bool} {held : Bool} {v : Value} {x : DataW H × List MemPlace}
    (hf : DataW.trod enc Try.prog W base sp held fuel 24 [v] = some x) : ∃ a len cap xs, v = .slice a len cap ∧ len ≤ 9223372036854775807 ∧ IntsAt W a len xs ∧ wfL xs := by
  rcases open_ints Try.underlying24 Try.underlying3 (by kernel_rfl) hf with ⟨hcs, _⟩ | ⟨x, l, c, zs, hcs, _, hl, hm, hz, _, hcell, hwz⟩
  · simp at hcs
    subst hcs
    exact ⟨none, 0, 0, [], rfl, by omega, ⟨rfl, .inl rfl⟩, fun x hx => by cases hx⟩
  · simp at hcs
    subst hcs
    have hz' : l ≤ zs.length := by
      split at hz <;> omega
    have hlm : l ≤ 9223372036854775807 := by unfold maxLen at hm; omega
    refine ⟨some x, l, c, zs.take l, rfl, hlm, ⟨by rw [List.length_take]; omega, ?_⟩, fun y hy => hwz y (List.mem_of_mem_take hy)⟩
    rcases Nat.eq_zero_or_pos l with h | hpos
    · exact .inl h
    · obtain ⟨b, off, spot⟩ := x
      have hc := hcell 0 (by omega)
      have hspot : spot = none := by simpa [Addr.add] using World.cell?_spot hc
      subst hspot
      have hb : b < W.heap.size := by
        rw [Addr.add_lit] at hc
        rcases Nat.lt_or_ge b W.heap.size with h | h
        · exact h
        · simp [World.cell?, Array.getElem?_eq_none h] at hc
      refine .inr ⟨b, off, rfl, hb, fun i hi => ?_⟩
      have hci := hcell i (by omega)
      rw [Addr.add_lit] at hci
      rw [hci]
      simp [List.getD, List.getElem?_take_of_lt hi]
theorem fn_of {α : Type} {m : Nat} {R : Nat → α → Prop} (d : α) (h : ∀ i, i < m → ∃ x, R i x) : ∃ f : Nat → α, ∀ i, i < m → R i (f i) := by
  classical
  refine ⟨fun i => if hi : i < m then Classical.choose (h i hi) else d, fun i hi => ?_⟩
  simp only [hi, dif_pos]
  exact Classical.choose_spec (h i hi)
/-- A slice of grants, out of the cell that holds it. -/
theorem grs_cell {H : Type} {enc : TypeId × Value → H} {W : World} {base fuel : Nat} {sp : Nat → Bool} {held : Bool} {v : Value} {x : DataW H × List MemPlace}
    (hf : DataW.trod enc Try.prog W base sp held fuel 45 [v] = some x) : ∃ a len cap ts, v = .slice a len cap ∧ len ≤ 9223372036854775807 ∧ GrAt W a len ts ∧ wfL (whosL ts) := by
  rcases Go.Deep.open_slice_pairs Try.underlying45 Try.underlying101 (by kernel_rfl) (by kernel_rfl) (by kernel_rfl) (by kernel_rfl) (by kernel_rfl) hf with ⟨hcs, _⟩ | ⟨ad, l, c, m, n, V0, V1, D0, D1, P0, P1, hcs, _, hl, hm, hmm, _, hx⟩
  · simp at hcs
    subst hcs
    exact ⟨none, 0, 0, [], rfl, by omega, ⟨rfl, .inl rfl⟩, fun x hx => by cases hx⟩
  · simp at hcs
    subst hcs
    have hlm : l ≤ m := by rw [hmm]; split <;> omega
    have hlx : l ≤ 9223372036854775807 := by unfold maxLen at hm; omega
    obtain ⟨f, hfn⟩ := fn_of (α := Int × Bool) (0, false) (fun i (hi : i < l) => by
      obtain ⟨h0, h1, g0, g1⟩ := hx i (by omega)
      obtain ⟨n0, e0, _, hwf0⟩ := DataW.trod_int Try.underlying3 g0
      obtain ⟨n1, e1, _⟩ := DataW.trod_bool Try.underlying4 g1
      simp at e0 e1
      exact (⟨(n0, n1), by rw [h0, e0], by rw [h1, e1], hwf0⟩ : ∃ p : Int × Bool, W.cell? (ad.add (i * 2)) = some (.int .i64 p.1) ∧ W.cell? (ad.add (i * 2 + 1)) = some (.bool p.2) ∧ (Lit.int .i64 p.1).wf = true))
    refine ⟨some ad, l, c, (List.range l).map f, rfl, hlx, ⟨by simp, ?_⟩, fun y hy => by
      simp only [whosL, List.map_map, List.mem_map, List.mem_range] at hy
      obtain ⟨i, hi, rfl⟩ := hy
      exact (hfn i hi).2.2⟩
    rcases Nat.eq_zero_or_pos l with h | hpos
    · exact .inl h
    · obtain ⟨b, off, spot⟩ := ad
      have hc := (hfn 0 hpos).1
      have hspot : spot = none := by simpa [Addr.add] using World.cell?_spot hc
      subst hspot
      have hb : b < W.heap.size := by
        rw [Addr.add_lit] at hc
        rcases Nat.lt_or_ge b W.heap.size with h | h
        · exact h
        · simp [World.cell?, Array.getElem?_eq_none h] at hc
      refine .inr ⟨b, off, rfl, hb, fun i hi => ?_⟩
      obtain ⟨q0, q1, _⟩ := hfn i hi
      rw [Addr.add_lit] at q0 q1
      have e : gg ((List.range l).map f) i = f i := by simp [gg, List.getD, hi]
      rw [e, Nat.add_assoc]
      exact ⟨q0, q1⟩
section
variable {H : Type} {enc : TypeId × Value → H} {P : Program} {w : World} {base : Nat} {spare : Nat → Bool} {held : Bool}
/-- A struct of six one-cell fields, by value, opened. -/
theorem open_agg6 {r : Reach} {b0 : Nat} {t : TypeId} {f0 f1 f2 f3 f4 f5 : Field} {v : Value} {d : DataW H} {p : List MemPlace} (hs : P.underlying t = some (.struct #[f0, f1, f2, f3, f4, f5])) (hone : oneCellFields P #[f0, f1, f2, f3, f4, f5] = true) (hC : P.cellsOf t = 6)
    (hv : Value.okWide P w r b0 t v) (h : DataW.Trod enc P w base spare held t v d p) :
    ∃ (v0 v1 v2 v3 v4 v5 : Value) (y0 y1 y2 y3 y4 y5 : DataW H × List MemPlace) (n : Nat), v = .agg #[v0, v1, v2, v3, v4, v5] ∧
      DataW.trod enc P w base spare held n f0.type [v0] = some y0 ∧ DataW.trod enc P w base spare held n f1.type [v1] = some y1 ∧ DataW.trod enc P w base spare held n f2.type [v2] = some y2 ∧ DataW.trod enc P w base spare held n f3.type [v3] = some y3 ∧ DataW.trod enc P w base spare held n f4.type [v4] = some y4 ∧ DataW.trod enc P w base spare held n f5.type [v5] = some y5 := by
  obtain ⟨cs, rfl, hsz⟩ := okWide_struct hs hv
  have hsz6 := hsz.trans hC
  obtain ⟨cl⟩ := cs
  match cl, hsz6 with
  | [c0, c1, c2, c3, c4, c5], _ =>
    obtain ⟨fuel, hf⟩ := h
    obtain ⟨xs, n, _, _, hl, hlen, hff⟩ := DataW.trod_struct hs hf
    match xs, hlen with
    | [y0, y1, y2, y3, y4, y5], _ =>
      obtain ⟨o0, k0⟩ := hone_of hone 0 f0 rfl
      obtain ⟨o1, k1⟩ := hone_of hone 1 f1 rfl
      obtain ⟨o2, k2⟩ := hone_of hone 2 f2 rfl
      obtain ⟨o3, k3⟩ := hone_of hone 3 f3 rfl
      obtain ⟨o4, k4⟩ := hone_of hone 4 f4 rfl
      obtain ⟨o5, k5⟩ := hone_of hone 5 f5 rfl
      exact ⟨c0, c1, c2, c3, c4, c5, y0, y1, y2, y3, y4, y5, n, rfl, by simpa [Value.cells, o0, k0] using hff 0 f0 rfl, by simpa [Value.cells, o1, k1] using hff 1 f1 rfl, by simpa [Value.cells, o2, k2] using hff 2 f2 rfl, by simpa [Value.cells, o3, k3] using hff 3 f3 rfl, by simpa [Value.cells, o4, k4] using hff 4 f4 rfl, by simpa [Value.cells, o5, k5] using hff 5 f5 rfl⟩
end
set_option maxRecDepth 100000 in
/-- A notification among the arguments. -/
theorem note_arg {H : Type} {enc : TypeId × Value → H} {W : World} {base b0 : Nat} {v : Value} {d : DataW H} {p : List MemPlace} {r : Reach} (hv : Value.okWide Try.prog W r b0 47 v) (h : DataW.Trod enc Try.prog W base (fun _ => true) true 47 v d p) :
    ∃ (A : Na) (x : Nt), v = .agg #[.bool x.pm, .slice A.a A.n A.c, .slice A.a' A.n' A.c', .int .i64 x.on, .int .i64 x.sp, .int .i64 x.tk] ∧ A.n ≤ 9223372036854775807 ∧ A.n' ≤ 9223372036854775807 ∧ NIn W A x ∧ NWf x := by
  obtain ⟨c0, c1, c2, c3, c4, c5, y0, y1, y2, y3, y4, y5, n, rfl, g0, g1, g2, g3, g4, g5⟩ := open_agg6 Try.underlying47 (by kernel_rfl) (by kernel_rfl) hv h
  obtain ⟨pm, e0, _⟩ := DataW.trod_bool Try.underlying4 g0
  obtain ⟨a, n1, c, ls, rfl, hn, hi, hw⟩ := ints_cell g1
  obtain ⟨a', n1', c', gs, rfl, hn', hi', hw'⟩ := grs_cell g2
  obtain ⟨on, e3, _, _⟩ := DataW.trod_int Try.underlying3 g3
  obtain ⟨sp, e4, _, _⟩ := DataW.trod_int Try.underlying3 g4
  obtain ⟨tk, e5, _, _⟩ := DataW.trod_int Try.underlying3 g5
  simp at e0 e3 e4 e5
  subst e0 e3 e4 e5
  exact ⟨⟨a, n1, c, a', n1', c'⟩, ⟨pm, ls, gs, on, sp, tk⟩, rfl, hn, hn', ⟨hi, hi'⟩, ⟨hw, hw'⟩⟩
end Go.Proofs.Ytfgknbflgmblmaa
