/-
  What the laws on clocks hold on to.
-/
import Derived.Test.YtfahfbeemgigcaaW1
import Derived.Test.YtfahfbeemgigcaaU7
namespace Go.Proofs.Ytfahfbeemgigcaa
open Go.RowKit Pl Il Th

theorem OutC.open {w : World} {now : Int} {ts' : List (Int × Int)} {y : Value} {e : Ending} {w' : World} (h : OutC w now ts' [y] e w') : ∃ a' n' c', e = .returned (.tuple #[.agg #[.int .i64 now, .slice a' n' c'], y]) ∧ OwnT w.heap.size w' a' n' ts' ∧ Below w.heap.size w w' := by
  obtain ⟨a', n', c', e1, h2, h3⟩ := h
  exact ⟨a', n', c', by rw [e1]; rfl, h2, h3⟩
theorem OwnT.span {B : Nat} {w : World} {a : Option Addr} {n : Nat} {ts : List (Int × Int)} (h : OwnT B w a n ts) : n = 0 ∨ ∀ b off, a = some ⟨b, off, none⟩ → B ≤ b ∧ b < w.heap.size := by
  rcases h.tim.row with h0 | ⟨b, off, rfl, hlt, _⟩
  · exact .inl h0
  · rcases h.own with h0 | ⟨b', off', e, hB, _⟩
    · exact .inl h0
    · cases e
      exact .inr fun b1 o1 e => by cases e; exact ⟨hB, hlt⟩
theorem no_lt {a : Option Addr} {n k D : Nat} (h : n = 0 ∨ ∀ b off, a = some ⟨b, off, none⟩ → b < D) (hk : D ≤ k) : ∀ off, 0 < n → a ≠ some ⟨k, off, none⟩ := fun off hp e => by
  rcases h with h | h
  · omega
  · have := h _ _ e; omega
theorem no_ge {a : Option Addr} {n k D : Nat} (h : n = 0 ∨ ∀ b off, a = some ⟨b, off, none⟩ → D ≤ b) (hk : k < D) : ∀ off, 0 < n → a ≠ some ⟨k, off, none⟩ := fun off hp e => by
  rcases h with h | h
  · omega
  · have := h _ _ e; omega
theorem TurnT.block {a : Option Addr} {n : Nat} {w w' : World} (h : TurnT a n w w') : w'.os = w.os ∧ w'.tape = w.tape ∧ w'.output = w.output ∧ w.heap.size ≤ w'.heap.size ∧ ∀ k, k < w.heap.size → (∀ off, 0 < n → a ≠ some ⟨k, off, none⟩) → w'.heap[k]? = w.heap[k]? := by
  rcases h with ⟨_, hb⟩ | ⟨hp, b, off, rfl, hg⟩
  · exact ⟨hb.os, hb.tape, hb.output, hb.size, fun k hk _ => hb.block k hk⟩
  · exact ⟨hg.os, hg.tape, hg.output, hg.size, fun k hk hne => hg.block k hk (by intro e; cases e; exact hne off hp rfl)⟩
theorem TurnT.size {a : Option Addr} {n : Nat} {w w' : World} (h : TurnT a n w w') : w.heap.size ≤ w'.heap.size := h.block.2.2.2.1
theorem TurnT.below {a : Option Addr} {n : Nat} {w w' : World} {B : Nat} (h : TurnT a n w w') (hB : B ≤ w.heap.size) (h1 : n = 0 ∨ ∀ b off, a = some ⟨b, off, none⟩ → B ≤ b) : Below B w w' := by
  obtain ⟨o1, o2, o3, o4, o5⟩ := h.block
  exact ⟨o1, o2, o3, o4, fun k hk => o5 k (by omega) (no_ge h1 hk)⟩
theorem OwnT.turned {B : Nat} {w w' : World} {a : Option Addr} {n : Nat} {ts : List (Int × Int)} {a1 : Option Addr} {n1 : Nat} (h : OwnT B w a n ts) (ht : TurnT a1 n1 w w') (h1 : n1 = 0 ∨ ∀ b off, a1 = some ⟨b, off, none⟩ → b < B) : OwnT B w' a n ts := by
  obtain ⟨_, _, _, o4, o5⟩ := ht.block
  obtain ⟨⟨hl, hr⟩, ho⟩ := h
  rcases hr with h0 | ⟨b1, off, rfl, hlt, hc⟩
  · exact ⟨⟨hl, .inl h0⟩, .inl h0⟩
  · rcases ho with h0 | ⟨b', off', e, hB, hf⟩
    · exact ⟨⟨hl, .inl h0⟩, .inl h0⟩
    · cases e
      have key : w'.heap[b1]? = w.heap[b1]? := o5 b1 hlt (no_lt h1 hB)
      refine ⟨⟨hl, .inr ⟨b1, off, rfl, Nat.lt_of_lt_of_le hlt o4, fun i hi => ?_⟩⟩, .inr ⟨b1, off, rfl, hB, fun o => ?_⟩⟩
      · rw [World.cell?_of_block (w := w) (a := ⟨b1, off + i * 2, none⟩) key, World.cell?_of_block (w := w) (a := ⟨b1, off + i * 2 + 1, none⟩) key]; exact hc i hi
      · rw [← hf o]; exact World.frozen?_of_block key
theorem Box2.turned {N : Nat} {v0 v1 : Value} {w u : World} {a1 : Option Addr} {n1 : Nat} (h : Box2 N v0 v1 w) (ht : TurnT a1 n1 w u) (h1 : n1 = 0 ∨ ∀ b off, a1 = some ⟨b, off, none⟩ → b < N) : Box2 N v0 v1 u := by
  obtain ⟨_, _, _, o4, o5⟩ := ht.block
  have key : u.heap[N]? = w.heap[N]? := o5 N h.lt (no_lt h1 (Nat.le_refl _))
  exact ⟨Nat.lt_of_lt_of_le h.lt o4, by rw [← h.c0]; exact World.cell?_of_block key, by rw [← h.c1]; exact World.cell?_of_block key, fun k => by rw [← h.fr k]; exact World.frozen?_of_block key⟩
theorem span_lt {a : Option Addr} {n B C : Nat} (D : Nat) (h : n = 0 ∨ ∀ b off, a = some ⟨b, off, none⟩ → B ≤ b ∧ b < C) (hD : C ≤ D) : n = 0 ∨ ∀ b off, a = some ⟨b, off, none⟩ → b < D := h.imp id fun h b off e => by have := h b off e; omega
theorem span_ge {a : Option Addr} {n B C : Nat} (D : Nat) (h : n = 0 ∨ ∀ b off, a = some ⟨b, off, none⟩ → B ≤ b ∧ b < C) (hD : D ≤ B) : n = 0 ∨ ∀ b off, a = some ⟨b, off, none⟩ → D ≤ b := h.imp id fun h b off e => by have := h b off e; omega
theorem mark_nn (n : Nat) : ¬ 1 + 2 * (n : Int) < 0 := by omega
end Go.Proofs.Ytfahfbeemgigcaa
