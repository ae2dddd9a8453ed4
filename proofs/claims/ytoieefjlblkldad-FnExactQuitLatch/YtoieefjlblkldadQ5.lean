/-
  Walks of the program's lists: a copy, and who is woken.
-/
import Derived.Test.YtoieefjlblkldadQ4
import Derived.Test.YtoieefjlblkldadCP
import Derived.Deep.Upon
namespace Go.Proofs.Ytoieefjlblkldad
open Go.RowKit Go.Maps Pl Il

theorem Il.OwnAt.grown {B : Nat} {w w' : World} {a : Option Addr} {n mb : Nat} {xs : List Int} (h : Il.OwnAt B w a n xs) (hg : w.grownBy w' (some mb)) (hm : mb < B) : Il.OwnAt B w' a n xs := by
  have key : ∀ b, b < w.heap.size → B ≤ b → w'.heap[b]? = w.heap[b]? := fun b hb hB => hg.block b hb (by intro e; cases e; omega)
  obtain ⟨⟨hl, hr⟩, ho⟩ := h
  rcases hr with h0 | ⟨b, off, rfl, hlt, hc⟩
  · exact ⟨⟨hl, .inl h0⟩, .inl h0⟩
  · rcases ho with h0 | ⟨b', off', e, hB, hf⟩
    · exact ⟨⟨hl, .inl h0⟩, .inl h0⟩
    · cases e
      refine ⟨⟨hl, .inr ⟨b, off, rfl, Nat.lt_of_lt_of_le hlt hg.size, fun i hi => ?_⟩⟩, .inr ⟨b, off, rfl, hB, fun i hi => ?_⟩⟩
      · rw [← hc i hi]; exact World.cell?_of_block (key b hlt hB)
      · rw [← hf i hi]; exact World.frozen?_of_block (key b hlt hB)
theorem Il.OwnAt.take {B : Nat} {w : World} {a : Option Addr} {n : Nat} {xs : List Int} (h : Il.OwnAt B w a n xs) (i : Nat) (hi : i ≤ n) : Il.OwnAt B w a i (xs.take i) := by
  refine ⟨h.ints.take i hi, ?_⟩
  rcases h.own with h0 | ⟨b, off, rfl, hB, hf⟩
  · exact .inl (by omega)
  · exact .inr ⟨b, off, rfl, hB, fun j hj => hf j (by omega)⟩

theorem QParts.mlt {B : Nat} {w : World} {qb mb : Nat} {cv : Value} {D : DataW Unit} {xs gone : List Int} (h : QParts B w qb mb cv D xs gone) : mb < w.heap.size := h.mem.map.lt

theorem grown_trans {w w1 w2 : World} {b : Nat} (h : w.grownBy w1 (some b)) (k : w1.grownBy w2 (some b)) : w.grownBy w2 (some b) :=
  ⟨k.os.trans h.os, k.tape.trans h.tape, k.output.trans h.output, Nat.le_trans h.size k.size, fun i hi hn => (k.block i (Nat.lt_of_lt_of_le hi h.size) hn).trans (h.block i hi hn)⟩

end Go.Proofs.Ytoieefjlblkldad
