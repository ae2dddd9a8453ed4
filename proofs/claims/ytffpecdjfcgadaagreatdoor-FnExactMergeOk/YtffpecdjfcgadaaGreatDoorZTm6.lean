/-
  A variable of a struct type: its cells as a list; what leaves them alone.
-/
import Derived.Test.YtffpecdjfcgadaaGreatDoorZTm3
namespace Go.Proofs.YtffpecdjfcgadaaGreatDoor
open Go.RowKit Pl Il

theorem bl_setB {B : Nat} {w u : World} (h : Below B w u) (N o : Nat) (hN : B ≤ N) (v : Value) : Below B w (u.setCell ⟨N, o, none⟩ v) := h.setCell (p := ⟨N, o, none⟩) hN v
/-- The variable in block N holds vs. -/
structure BoxL (N : Nat) (vs : List Value) (w : World) : Prop where
  lt : N < w.heap.size
  cs : ∀ i (hi : i < vs.length), w.cell? ⟨N, i, none⟩ = some vs[i]
  fr : ∀ o, w.frozen? ⟨N, o, none⟩ = false
section
variable {N : Nat} {vs : List Value} {w w' : World}
theorem BoxL.new (w : World) (vs : List Value) (t : TypeId) : BoxL w.heap.size vs (w.alloc (.cells vs.toArray t)) :=
  ⟨by simp, fun i hi => by rw [World.cell?_alloc_new]; simp [hi], fun o => by simp [go_sem]⟩
theorem BoxL.of_block (h : BoxL N vs w) (key : w'.heap[N]? = w.heap[N]?) (hs : N < w'.heap.size) : BoxL N vs w' :=
  ⟨hs, fun i hi => by rw [← h.cs i hi]; exact World.cell?_of_block key, fun o => by rw [← h.fr o]; exact World.frozen?_of_block key⟩
theorem BoxL.below {B : Nat} (h : BoxL N vs w) (hb : Below B w w') (hN : N < B) : BoxL N vs w' := h.of_block (hb.block N hN) (Nat.lt_of_lt_of_le h.lt hb.size)
theorem BoxL.keep (h : BoxL N vs w) (hb : Below w.heap.size w w') : BoxL N vs w' := h.below hb h.lt
theorem BoxL.alloc (h : BoxL N vs w) (o : Obj) : BoxL N vs (w.alloc o) := h.keep (bl_alloc (Below.refl _ _) o)
theorem BoxL.far (h : BoxL N vs w) (M o : Nat) (hM : N ≠ M) (y : Value) : BoxL N vs (w.setCell ⟨M, o, none⟩ y) := h.of_block (Below.heap_setCell w ⟨M, o, none⟩ y N hM) (by simpa using h.lt)
theorem BoxL.grown {g : Option Nat} (h : BoxL N vs w) (hg : w.grownBy w' g) (hN : g ≠ some N) : BoxL N vs w' := h.of_block (hg.block N h.lt (fun e => hN e.symm)) (Nat.lt_of_lt_of_le h.lt hg.size)
theorem BoxL.set (h : BoxL N vs w) (i : Nat) (hi : i < vs.length) (v : Value) : BoxL N (vs.set i v) (w.setCell ⟨N, i, none⟩ v) := by
  refine ⟨by simpa using h.lt, fun j hj => ?_, fun o => by simpa using h.fr o⟩
  have hj' : j < vs.length := by simpa using hj
  by_cases e : j = i
  · subst e
    rw [World.cell?_setCell_same _ _ _ (h.cs j hj')]
    simp
  · rw [World.cell?_setCell_other _ _ _ _ (by intro e'; injection e' with _ e2; exact e e2.symm), h.cs j hj', List.getElem_set_ne (by omega)]
end
end Go.Proofs.YtffpecdjfcgadaaGreatDoor
