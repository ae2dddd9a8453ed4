/-
  What a slice of terms among the arguments gives the walks.
-/
import Derived.Test.YtffpecdjfcgadaaGreatDoorRows
import Derived.Test.YtffpecdjfcgadaaGreatDoorZTm3
import Derived.ProofKit
import Derived.OpenShut
import Derived.ChangeOld
import Derived.Deep.SlicePairs
import Derived.Lib.SmallJoins
namespace Go.Proofs.YtffpecdjfcgadaaGreatDoor
open Go.ChangeShapes Go.WideShapes Go.ChangeAt Go.RowKit Go.Joins Go.Deep Il

theorem cellsT3 : Tryz.prog.cellsOf 159 = 3 := by kernel_rfl
theorem cellsTi : Tryz.prog.cellsOf 3 = 1 := by kernel_rfl
theorem cellsTs : Tryz.prog.cellsOf 9 = 1 := by kernel_rfl
/-- A term, out of the cells that hold it. -/
theorem term_cells {H : Type} {enc : TypeId × Value → H} {W : World} {base n : Nat} {sp : Nat → Bool} {held : Bool} {c0 c1 c2 : Value} {y : DataW H × List MemPlace} (hf : DataW.trod enc Tryz.prog W base sp held n 159 [c0, c1, c2] = some y) :
    ∃ (k m : Int) (s : ByteArray), c0 = .int .i64 k ∧ c1 = .int .i64 m ∧ c2 = .string s ∧ s.size ≤ maxLen := by
  obtain ⟨xs, n, _, _, hl, hlen, hff⟩ := DataW.trod_struct Tryz.underlying159 hf
  match xs, hlen with
  | [y0, y1, y2], _ =>
    have q0 : DataW.trod enc Tryz.prog W base sp held n 3 [c0] = some y0 := by simpa [cellsTi] using hff 0 _ rfl
    have q1 : DataW.trod enc Tryz.prog W base sp held n 3 [c1] = some y1 := by simpa [cellsTi] using hff 1 _ rfl
    have q2 : DataW.trod enc Tryz.prog W base sp held n 9 [c2] = some y2 := by simpa [cellsTs] using hff 2 _ rfl
    obtain ⟨k, e0, _, _⟩ := DataW.trod_int Tryz.underlying3 q0
    obtain ⟨m, e1, _, _⟩ := DataW.trod_int Tryz.underlying3 q1
    obtain ⟨s, e2, _, hs⟩ := DataW.trod_string Tryz.underlying9 q2
    simp at e0 e1 e2
    exact ⟨k, m, s, e0, e1, e2, hs⟩
theorem fn_ofT {α : Type} {m : Nat} {R : Nat → α → Prop} (d : α) (h : ∀ i, i < m → ∃ x, R i x) : ∃ f : Nat → α, ∀ i, i < m → R i (f i) := by
  classical
  refine ⟨fun i => if hi : i < m then Classical.choose (h i hi) else d, fun i hi => ?_⟩
  simp only [hi, dif_pos]
  exact Classical.choose_spec (h i hi)
theorem terms_of {H : Type} {enc : TypeId × Value → H} {W : World} {base fuel : Nat} {sp : Nat → Bool} {held : Bool} {a : Option Addr} {len cap : Nat} {x : DataW H × List MemPlace}
    (hf : DataW.trod enc Tryz.prog W base sp held fuel 120 (Value.slice a len cap).cells.toList = some x) : len ≤ 9223372036854775807 ∧ ∃ ts, TmAt W a len ts := by
  rcases open_slice Tryz.underlying120 hf with ⟨hcs, _⟩ | ⟨ad, l, c, m, n, D, Pl, hcs, _, hl, hm, hmm, _, hx⟩
  · simp [Value.cells] at hcs
    obtain ⟨rfl, rfl, rfl⟩ := hcs
    exact ⟨by omega, [], TmAt.nil _ _⟩
  · simp [Value.cells] at hcs
    obtain ⟨rfl, rfl, rfl⟩ := hcs
    have hlm : len ≤ m := by rw [hmm]; split <;> omega
    have hlx : len ≤ 9223372036854775807 := by unfold maxLen at hm; omega
    obtain ⟨f, hfn⟩ := fn_ofT (α := Tm) (0, 0, noT) (fun i (hi : i < len) => by
      obtain ⟨cs, h1, h2⟩ := hx i (by omega)
      rw [cellsT3] at h1
      obtain ⟨_, hlen, hcell⟩ := World.cells?_some h1
      match cs, hlen with
      | [c0, c1, c2], _ =>
        obtain ⟨k, q, s, rfl, rfl, rfl, hs⟩ := term_cells h2
        have e0 := hcell 0 (by omega)
        have e1 := hcell 1 (by omega)
        have e2 := hcell 2 (by omega)
        rw [add_add] at e0 e1 e2
        exact (⟨(k, q, s), by simpa using e0, by simpa using e1, by simpa using e2, hs⟩ : ∃ p : Tm, W.cell? (ad.add (i * 3)) = some (.int .i64 p.1) ∧ W.cell? (ad.add (i * 3 + 1)) = some (.int .i64 p.2.1) ∧ W.cell? (ad.add (i * 3 + 2)) = some (.string p.2.2) ∧ p.2.2.size ≤ maxLen))
    refine ⟨hlx, (List.range len).map f, ⟨by simp, fun p hp => ?_, ?_⟩⟩
    · simp only [List.mem_map, List.mem_range] at hp
      obtain ⟨i, hi, rfl⟩ := hp
      exact (hfn i hi).2.2.2
    rcases Nat.eq_zero_or_pos len with h | hpos
    · exact .inl h
    · obtain ⟨b, off, spot⟩ := ad
      have hc := (hfn 0 hpos).1
      have hspot : spot = none := by simpa [Addr.add] using World.cell?_spot hc
      subst hspot
      have hb : b < W.heap.size := by
        rw [Addr.add_lit] at hc
        rcases Nat.lt_or_ge b W.heap.size with h | h
        · exact h
        · simp [World.cell?, Array.getElem?_eq_none h] at hc
      refine .inr ⟨b, off, rfl, hb, fun i hi => ?_⟩
      obtain ⟨q0, q1, q2, _⟩ := hfn i hi
      rw [Addr.add_lit] at q0 q1 q2
      have e : qg ((List.range len).map f) i = f i := by simp [qg, List.getD, hi]
      rw [e, Nat.add_assoc, Nat.add_assoc]
      exact ⟨q0, q1, q2⟩
end Go.Proofs.YtffpecdjfcgadaaGreatDoor
