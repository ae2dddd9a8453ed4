/-
  A change in a variable of four cells; its size, and its copy.
-/
import Derived.Test.YtbbhaekmjnincaaZFnSees23
import Derived.Test.YtbbhaekmjnincaaSpC5
namespace Go.Proofs.Ytbbhaekmjnincaa
open Go.RowKit Pl Il

structure Box4 (N : Nat) (v0 v1 v2 v3 : Value) (w : World) : Prop where
  lt : N < w.heap.size
  c0 : w.cell? ⟨N, 0, none⟩ = some v0
  c1 : w.cell? ⟨N, 1, none⟩ = some v1
  c2 : w.cell? ⟨N, 2, none⟩ = some v2
  c3 : w.cell? ⟨N, 3, none⟩ = some v3
  fr : ∀ o, w.frozen? ⟨N, o, none⟩ = false
section
variable {N : Nat} {v0 v1 v2 v3 : Value} {w u : World}
theorem Box4.new (w : World) (v0 v1 v2 v3 : Value) (t : TypeId) : Box4 w.heap.size v0 v1 v2 v3 (w.alloc (.cells #[v0, v1, v2, v3] t)) :=
  ⟨by simp, by simp, by simp, by simp, by simp, fun o => by simp [go_sem]⟩
theorem Box4.of_block (h : Box4 N v0 v1 v2 v3 w) (key : u.heap[N]? = w.heap[N]?) (hs : N < u.heap.size) : Box4 N v0 v1 v2 v3 u :=
  ⟨hs, by rw [← h.c0]; exact World.cell?_of_block key, by rw [← h.c1]; exact World.cell?_of_block key, by rw [← h.c2]; exact World.cell?_of_block key, by rw [← h.c3]; exact World.cell?_of_block key, fun k => by rw [← h.fr k]; exact World.frozen?_of_block key⟩
theorem Box4.keep (h : Box4 N v0 v1 v2 v3 w) (hb : Below w.heap.size w u) : Box4 N v0 v1 v2 v3 u := h.of_block (hb.block N h.lt) (Nat.lt_of_lt_of_le h.lt hb.size)
theorem Box4.alloc (h : Box4 N v0 v1 v2 v3 w) (o : Obj) : Box4 N v0 v1 v2 v3 (w.alloc o) := h.keep (bl_alloc (Below.refl _ _) o)
theorem Box4.far (h : Box4 N v0 v1 v2 v3 w) (M o : Nat) (hM : N ≠ M) (y : Value) : Box4 N v0 v1 v2 v3 (w.setCell ⟨M, o, none⟩ y) := h.of_block (Below.heap_setCell w ⟨M, o, none⟩ y N hM) (by simpa using h.lt)
theorem Box4.set0 (h : Box4 N v0 v1 v2 v3 w) (y : Value) : Box4 N y v1 v2 v3 (w.setCell ⟨N, 0, none⟩ y) :=
  ⟨by simpa using h.lt, World.cell?_setCell_same _ _ _ h.c0, by rw [World.cell?_setCell_other _ _ _ _ (by simp)]; exact h.c1, by rw [World.cell?_setCell_other _ _ _ _ (by simp)]; exact h.c2, by rw [World.cell?_setCell_other _ _ _ _ (by simp)]; exact h.c3, fun k => by simpa using h.fr k⟩
end
end Go.Proofs.Ytbbhaekmjnincaa
