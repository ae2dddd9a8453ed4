/-
  What a cell, a change, a message among the arguments gives the walks.
-/
import Derived.Test.YtbhdjcggcgddfaaRows
import Derived.Test.YtbhdjcggcgddfaaZFnExactUpdate7
import Derived.ProofKit
import Derived.OpenShut
import Derived.ChangeOld
import Derived.Deep.SlicePairs
import Derived.Lib.SmallJoins
namespace Go.Proofs.Ytbhdjcggcgddfaa
open Go.ChangeShapes Go.WideShapes Go.ChangeAt Go.RowKit Go.Joins Go.Deep Il

/-- A slice of numbers, out of the cell that holds it. -/
theorem ints_cell {H : Type} {enc : TypeId × Value → H} {W : World} {base fuel : Nat} {sp : Nat → Bool} {held : Bool} {v : Value} {x : DataW H × List MemPlace}
    (hf : DataW.trod enc Try.prog W base sp held fuel 24 [v] = some x) : ∃ a len cap xs, v = .slice a len cap ∧ len ≤ 9223372036854775807 ∧ IntsAt W a len xs ∧ wfL xs := by
  rcases open_ints Try.underlying24 Try.underlying3 (by kernel_rfl) hf with ⟨hcs, _⟩ | ⟨x, l, c, zs, hcs, _, hl, hm, hz, _, hcell, hwz⟩
  · simp at hcs
    subst hcs
    exact ⟨none, 0, 0, [], rfl, by omega, ⟨rfl, .inl rfl⟩, fun x hx => by cases hx⟩
  · simp at hcs
    subst hcs
    have hz' : l ≤ zs.length := by
      split at hz <;> omega
    have hlm : l ≤ 9223372036854775807 := by unfold maxLen at hm; omega
    refine ⟨some x, l, c, zs.take l, rfl, hlm, ⟨by rw [List.length_take]; omega, ?_⟩, fun y hy => hwz y (List.mem_of_mem_take hy)⟩
    rcases Nat.eq_zero_or_pos l with h | hpos
    · exact .inl h
    · obtain ⟨b, off, spot⟩ := x
      have hc := hcell 0 (by omega)
      have hspot : spot = none := by simpa [Addr.add] using World.cell?_spot hc
      subst hspot
      have hb : b < W.heap.size := by
        rw [Addr.add_lit] at hc
        rcases Nat.lt_or_ge b W.heap.size with h | h
        · exact h
        · simp [World.cell?, Array.getElem?_eq_none h] at hc
      refine .inr ⟨b, off, rfl, hb, fun i hi => ?_⟩
      have hci := hcell i (by omega)
      rw [Addr.add_lit] at hci
      rw [hci]
      simp [List.getD, List.getElem?_take_of_lt hi]
theorem cellsM : Try.prog.cellsOf 89 = 3 := by kernel_rfl
theorem cellsI : Try.prog.cellsOf 3 = 1 := by kernel_rfl
theorem cellsB : Try.prog.cellsOf 4 = 1 := by kernel_rfl
theorem cellsS : Try.prog.cellsOf 9 = 1 := by kernel_rfl
theorem cellsL : Try.prog.cellsOf 24 = 1 := by kernel_rfl
set_option maxRecDepth 100000 in
/-- A message's three cells. -/
theorem msg_cells {H : Type} {enc : TypeId × Value → H} {W : World} {base m : Nat} {c0 c1 c2 : Value} {y : DataW H × List MemPlace} (h : DataW.trod enc Try.prog W base (fun _ => true) true m 89 [c0, c1, c2] = some y) :
    ∃ (k n : Int) (s : ByteArray), c0 = .int .i64 k ∧ c1 = .int .i64 n ∧ c2 = .string s ∧ s.size ≤ maxLen ∧ (Lit.int .i64 k).wf = true ∧ (Lit.int .i64 n).wf = true := by
  obtain ⟨zs, m', _, _, _, hlenz, hgg⟩ := DataW.trod_struct Try.underlying89 h
  match zs, hlenz with
  | [z0, z1, z2], _ =>
    have r0 : DataW.trod enc Try.prog W base (fun _ => true) true m' 3 [c0] = some z0 := by simpa [cellsI] using hgg 0 _ rfl
    have r1 : DataW.trod enc Try.prog W base (fun _ => true) true m' 3 [c1] = some z1 := by simpa [cellsI] using hgg 1 _ rfl
    have r2 : DataW.trod enc Try.prog W base (fun _ => true) true m' 9 [c2] = some z2 := by simpa [cellsS] using hgg 2 _ rfl
    obtain ⟨k, e0, _, wk⟩ := DataW.trod_int Try.underlying3 r0
    obtain ⟨n, e1, _, wn⟩ := DataW.trod_int Try.underlying3 r1
    obtain ⟨s, e2, _, hs⟩ := DataW.trod_string Try.underlying9 r2
    simp only [List.cons.injEq, and_true] at e0 e1 e2
    exact ⟨k, n, s, e0, e1, e2, hs, wk, wn⟩
set_option maxRecDepth 100000 in
/-- A cell among the arguments. -/
theorem thing_arg {H : Type} {enc : TypeId × Value → H} {W : World} {base b0 : Nat} {v : Value} {d : DataW H} {p : List MemPlace} {r : Reach} (hv : Value.okWide Try.prog W r b0 91 v) (h : DataW.Trod enc Try.prog W base (fun _ => true) true 91 v d p) :
    ∃ (A : Na) (x : Ct), v = .agg #[.int .i64 x.kd, .int .i64 x.nu, .string x.tx, .int .i64 x.ve, .bool x.cl, .slice A.a A.n A.c, .slice A.a' A.n' A.c'] ∧ A.n ≤ 9223372036854775807 ∧ A.n' ≤ 9223372036854775807 ∧ CIn W A x ∧ CWf x := by
  obtain ⟨cs, rfl, hsz⟩ := okWide_struct Try.underlying91 hv
  have hszn : cs.size = 7 := hsz.trans (by kernel_rfl)
  obtain ⟨cl⟩ := cs
  match cl, hszn with
  | [c0, c1, c2, c3, c4, c5, c6], _ =>
    obtain ⟨fuel, hf⟩ := h
    obtain ⟨xs, n, _, _, hl, hlen, hff⟩ := DataW.trod_struct Try.underlying91 hf
    match xs, hlen with
    | [y0, y1, y2, y3, y4], _ =>
      have q0 : DataW.trod enc Try.prog W base (fun _ => true) true n 89 [c0, c1, c2] = some y0 := by simpa [Value.cells, cellsM] using hff 0 _ rfl
      have q1 : DataW.trod enc Try.prog W base (fun _ => true) true n 3 [c3] = some y1 := by simpa [Value.cells, cellsI] using hff 1 _ rfl
      have q2 : DataW.trod enc Try.prog W base (fun _ => true) true n 4 [c4] = some y2 := by simpa [Value.cells, cellsB] using hff 2 _ rfl
      have q3 : DataW.trod enc Try.prog W base (fun _ => true) true n 24 [c5] = some y3 := by simpa [Value.cells, cellsL] using hff 3 _ rfl
      have q4 : DataW.trod enc Try.prog W base (fun _ => true) true n 24 [c6] = some y4 := by simpa [Value.cells, cellsL] using hff 4 _ rfl
      obtain ⟨kd, nu, tx, rfl, rfl, rfl, htx, _, _⟩ := msg_cells q0
      obtain ⟨ve, e3, _, _⟩ := DataW.trod_int Try.underlying3 q1
      obtain ⟨cl, e4, _⟩ := DataW.trod_bool Try.underlying4 q2
      obtain ⟨a, n1, c, ls, rfl, hn, hi, hw⟩ := ints_cell q3
      obtain ⟨a', n1', c', gs, rfl, hn', hi', hw'⟩ := ints_cell q4
      simp at e3 e4
      subst e3 e4
      exact ⟨⟨a, n1, c, a', n1', c'⟩, ⟨kd, nu, tx, ve, cl, ls, gs⟩, rfl, hn, hn', ⟨hi, hi', htx⟩, ⟨hw, hw'⟩⟩
end Go.Proofs.Ytbhdjcggcgddfaa
