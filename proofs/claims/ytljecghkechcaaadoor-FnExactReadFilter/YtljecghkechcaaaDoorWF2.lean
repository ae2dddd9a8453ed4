/-
  What the laws on filters hold on to, and the law on Other.
-/
import Derived.Test.YtljecghkechcaaaDoorFO
import Derived.Test.YtljecghkechcaaaDoorLF3
namespace Go.Proofs.YtljecghkechcaaaDoor
open Go.RowKit Pl Il

theorem no_ltF {a : Option Addr} {n k D : Nat} (h : n = 0 ∨ ∀ b off, a = some ⟨b, off, none⟩ → b < D) (hk : D ≤ k) : ∀ off, 0 < n → a ≠ some ⟨k, off, none⟩ := fun off hp e => by
  rcases h with h | h
  · omega
  · have := h _ _ e; omega
theorem no_geF {a : Option Addr} {n k D : Nat} (h : n = 0 ∨ ∀ b off, a = some ⟨b, off, none⟩ → D ≤ b) (hk : k < D) : ∀ off, 0 < n → a ≠ some ⟨k, off, none⟩ := fun off hp e => by
  rcases h with h | h
  · omega
  · have := h _ _ e; omega
theorem TurnF.block {a : Option Addr} {n : Nat} {w w' : World} (h : TurnF a n w w') : w'.os = w.os ∧ w'.tape = w.tape ∧ w'.output = w.output ∧ w.heap.size ≤ w'.heap.size ∧ ∀ k, k < w.heap.size → (∀ off, 0 < n → a ≠ some ⟨k, off, none⟩) → w'.heap[k]? = w.heap[k]? := by
  rcases h with ⟨_, hb⟩ | ⟨hp, b, off, rfl, hg⟩
  · exact ⟨hb.os, hb.tape, hb.output, hb.size, fun k hk _ => hb.block k hk⟩
  · exact ⟨hg.os, hg.tape, hg.output, hg.size, fun k hk hne => hg.block k hk (by intro e; cases e; exact hne off hp rfl)⟩
theorem TurnF.size {a : Option Addr} {n : Nat} {w w' : World} (h : TurnF a n w w') : w.heap.size ≤ w'.heap.size := h.block.2.2.2.1
theorem TurnF.below {a : Option Addr} {n : Nat} {w w' : World} {B : Nat} (h : TurnF a n w w') (hB : B ≤ w.heap.size) (h1 : n = 0 ∨ ∀ b off, a = some ⟨b, off, none⟩ → B ≤ b) : Below B w w' := by
  obtain ⟨o1, o2, o3, o4, o5⟩ := h.block
  exact ⟨o1, o2, o3, o4, fun k hk => o5 k (by omega) (no_geF h1 hk)⟩
theorem OwnF.turned {B : Nat} {w w' : World} {a : Option Addr} {n : Nat} {ts : List Tm} {a1 : Option Addr} {n1 : Nat} (h : OwnF B w a n ts) (ht : TurnF a1 n1 w w') (h1 : n1 = 0 ∨ ∀ b off, a1 = some ⟨b, off, none⟩ → b < B) : OwnF B w' a n ts := by
  obtain ⟨_, _, _, o4, o5⟩ := ht.block
  obtain ⟨⟨hl, hs, hr⟩, ho⟩ := h
  rcases hr with h0 | ⟨b1, off, rfl, hlt, hc⟩
  · exact ⟨⟨hl, hs, .inl h0⟩, .inl h0⟩
  · rcases ho with h0 | ⟨b', off', e, hB, hf⟩
    · exact ⟨⟨hl, hs, .inl h0⟩, .inl h0⟩
    · cases e
      have key : w'.heap[b1]? = w.heap[b1]? := o5 b1 hlt (no_ltF h1 hB)
      refine ⟨⟨hl, hs, .inr ⟨b1, off, rfl, Nat.lt_of_lt_of_le hlt o4, fun i hi => ?_⟩⟩, .inr ⟨b1, off, rfl, hB, fun o => ?_⟩⟩
      · rw [World.cell?_of_block (w := w) (a := ⟨b1, off + i * 3, none⟩) key, World.cell?_of_block (w := w) (a := ⟨b1, off + i * 3 + 1, none⟩) key, World.cell?_of_block (w := w) (a := ⟨b1, off + i * 3 + 2, none⟩) key]; exact hc i hi
      · rw [← hf o]; exact World.frozen?_of_block key
/-- Another slice is turned that lies in a block of its own, above. -/
theorem OwnF.turned' {B : Nat} {w w' : World} {a : Option Addr} {n : Nat} {ts : List Tm} {a1 : Option Addr} {n1 D : Nat} (h : OwnF B w a n ts) (ht : TurnF a1 n1 w w') (hs : n = 0 ∨ ∀ b off, a = some ⟨b, off, none⟩ → b < D) (h1 : n1 = 0 ∨ ∀ b off, a1 = some ⟨b, off, none⟩ → D ≤ b) : OwnF B w' a n ts := by
  obtain ⟨_, _, _, o4, o5⟩ := ht.block
  obtain ⟨⟨hl, hsh, hr⟩, ho⟩ := h
  rcases hr with h0 | ⟨b1, off, rfl, hlt, hc⟩
  · exact ⟨⟨hl, hsh, .inl h0⟩, .inl h0⟩
  · rcases ho with h0 | ⟨b', off', e, hB, hf⟩
    · exact ⟨⟨hl, hsh, .inl h0⟩, .inl h0⟩
    · cases e
      have hbD : n = 0 ∨ b1 < D := hs.imp id (fun h => h b1 off rfl)
      rcases hbD with h0 | hbD
      · exact ⟨⟨hl, hsh, .inl h0⟩, .inl h0⟩
      have key : w'.heap[b1]? = w.heap[b1]? := o5 b1 hlt (no_geF h1 hbD)
      refine ⟨⟨hl, hsh, .inr ⟨b1, off, rfl, Nat.lt_of_lt_of_le hlt o4, fun i hi => ?_⟩⟩, .inr ⟨b1, off, rfl, hB, fun o => ?_⟩⟩
      · rw [World.cell?_of_block (w := w) (a := ⟨b1, off + i * 3, none⟩) key, World.cell?_of_block (w := w) (a := ⟨b1, off + i * 3 + 1, none⟩) key, World.cell?_of_block (w := w) (a := ⟨b1, off + i * 3 + 2, none⟩) key]; exact hc i hi
      · rw [← hf o]; exact World.frozen?_of_block key
theorem span_ltF {a : Option Addr} {n B C : Nat} (D : Nat) (h : n = 0 ∨ ∀ b off, a = some ⟨b, off, none⟩ → B ≤ b ∧ b < C) (hD : C ≤ D) : n = 0 ∨ ∀ b off, a = some ⟨b, off, none⟩ → b < D := h.imp id fun h b off e => by have := h b off e; omega
theorem span_geF {a : Option Addr} {n B C : Nat} (D : Nat) (h : n = 0 ∨ ∀ b off, a = some ⟨b, off, none⟩ → B ≤ b ∧ b < C) (hD : D ≤ B) : n = 0 ∨ ∀ b off, a = some ⟨b, off, none⟩ → D ≤ b := h.imp id fun h b off e => by have := h b off e; omega
theorem mark_nnF (k n : Nat) : ¬ ((k + 3 * n : Nat) : Int) < 0 := by omega
end Go.Proofs.YtljecghkechcaaaDoor
