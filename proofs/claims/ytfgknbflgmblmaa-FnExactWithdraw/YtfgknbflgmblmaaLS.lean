/-
  Walks of the laws' own helpers: what is weighed, and what a marking of two lists leaves alone.
-/
import Derived.Test.YtfgknbflgmblmaaWM
namespace Go.Proofs.Ytfgknbflgmblmaa
open Go.RowKit Pl Il

theorem szIntS_any (a : Option Addr) (n cap : Nat) (k : Int) (w : World) (hn : n ≤ 9223372036854775807) (k0 : 0 ≤ k) (k1 : k ≤ 1048576) :
    Calls Try.prog 62 #[.slice a n cap, .int .i64 k] w fun e w' => e = .returned (.int .i64 (if k < (n : Int) then -1 else k - (n : Int))) ∧ w' = w := by
  by_cases h : k < (n : Int)
  · have h' : k - (n : Int) < 0 := by omega
    go_enter Try.func62, Try.ntmps62
    go_wp2
    go_ret
    refine ⟨rint ?_, rfl⟩
    simp
  · have h' : ¬ k - (n : Int) < 0 := by omega
    go_enter Try.func62, Try.ntmps62
    go_wp2
    go_ret
    refine ⟨rint ?_, rfl⟩
    simp
theorem bl_set1 {B : Nat} {w u : World} (h : Below B w u) (N o : Nat) (hN : B ≤ N) (y : Value) : Below B w (u.setCell ⟨N, o, none⟩ y) := h.setCell (p := ⟨N, o, none⟩) hN y
theorem eqIL_self (xs : List Int) : eqL xs xs = true := by simp [eqL]
/-- Which blocks a marking of two lists may have turned: those of its two lists. -/
structure Turned (a : Option Addr) (n : Nat) (a' : Option Addr) (n' : Nat) (w w' : World) : Prop where
  os : w'.os = w.os
  tape : w'.tape = w.tape
  output : w'.output = w.output
  size : w.heap.size ≤ w'.heap.size
  block : ∀ k, k < w.heap.size → (∀ off, 0 < n → a ≠ some ⟨k, off, none⟩) → (∀ off, 0 < n' → a' ≠ some ⟨k, off, none⟩) → w'.heap[k]? = w.heap[k]?
theorem Turned.below {a : Option Addr} {n : Nat} {a' : Option Addr} {n' : Nat} {w w' : World} {B : Nat} (h : Turned a n a' n' w w') (hB : B ≤ w.heap.size) (h1 : n = 0 ∨ ∀ b off, a = some ⟨b, off, none⟩ → B ≤ b) (h2 : n' = 0 ∨ ∀ b off, a' = some ⟨b, off, none⟩ → B ≤ b) : Below B w w' :=
  ⟨h.os, h.tape, h.output, h.size, fun k hk => h.block k (by omega)
    (fun off hp e => by rcases h1 with h1 | h1; · omega
                        · have := h1 _ _ e; omega)
    (fun off hp e => by rcases h2 with h2 | h2; · omega
                        · have := h2 _ _ e; omega)⟩

theorem Il.OwnAt.turned {B : Nat} {w w' : World} {a : Option Addr} {n : Nat} {xs : List Int} {a1 : Option Addr} {n1 : Nat} {a2 : Option Addr} {n2 : Nat} (h : Il.OwnAt B w a n xs) (ht : Turned a1 n1 a2 n2 w w')
    (h1 : n1 = 0 ∨ ∀ b off, a1 = some ⟨b, off, none⟩ → b < B) (h2 : n2 = 0 ∨ ∀ b off, a2 = some ⟨b, off, none⟩ → b < B) : Il.OwnAt B w' a n xs := by
  obtain ⟨⟨hl, hr⟩, ho⟩ := h
  rcases hr with h0 | ⟨b1, off, rfl, hlt, hc⟩
  · exact ⟨⟨hl, .inl h0⟩, .inl h0⟩
  · rcases ho with h0 | ⟨b', off', e, hB, hf⟩
    · exact ⟨⟨hl, .inl h0⟩, .inl h0⟩
    · cases e
      have key : w'.heap[b1]? = w.heap[b1]? := ht.block b1 hlt
        (fun o hp e => by rcases h1 with h1 | h1; · omega
                          · have := h1 _ _ e; omega)
        (fun o hp e => by rcases h2 with h2 | h2; · omega
                          · have := h2 _ _ e; omega)
      refine ⟨⟨hl, .inr ⟨b1, off, rfl, Nat.lt_of_lt_of_le hlt ht.size, fun i hi => ?_⟩⟩, .inr ⟨b1, off, rfl, hB, fun i hi => ?_⟩⟩
      · rw [← hc i hi]; exact World.cell?_of_block key
      · rw [← hf i hi]; exact World.frozen?_of_block key
theorem span_lt {a : Option Addr} {n B C : Nat} (D : Nat) (h : n = 0 ∨ ∀ b off, a = some ⟨b, off, none⟩ → B ≤ b ∧ b < C) (hD : C ≤ D) : n = 0 ∨ ∀ b off, a = some ⟨b, off, none⟩ → b < D := h.imp id fun h b off e => by have := h b off e; omega
theorem span_ge {a : Option Addr} {n B C : Nat} (D : Nat) (h : n = 0 ∨ ∀ b off, a = some ⟨b, off, none⟩ → B ≤ b ∧ b < C) (hD : D ≤ B) : n = 0 ∨ ∀ b off, a = some ⟨b, off, none⟩ → D ≤ b := h.imp id fun h b off e => by have := h b off e; omega
theorem own_span {B : Nat} {w : World} {a : Option Addr} {n : Nat} {xs : List Int} (h : Il.OwnAt B w a n xs) : n = 0 ∨ ∀ b off, a = some ⟨b, off, none⟩ → B ≤ b ∧ b < w.heap.size := by
  rcases h.own with h0 | ⟨b, off, e, hB, _⟩
  · exact .inl h0
  · rcases h.ints.row with h0 | ⟨b2, off2, e2, hl, _⟩
    · exact .inl h0
    · refine .inr fun b1 o1 e1 => ?_
      rw [e] at e1 e2; cases e1; cases e2; exact ⟨hB, hl⟩
/-- The list at a3 lies apart from the two lists . -/
def Apart3 (a1 : Option Addr) (m1 : Nat) (a2 : Option Addr) (m2 : Nat) (a3 : Option Addr) (m3 : Nat) : Prop :=
  m3 = 0 ∨ ∀ b3 off3, a3 = some ⟨b3, off3, none⟩ → (m1 = 0 ∨ ∀ b off, a1 = some ⟨b, off, none⟩ → b3 ≠ b) ∧ (m2 = 0 ∨ ∀ b off, a2 = some ⟨b, off, none⟩ → b3 ≠ b)
theorem Il.OwnAt.turned2 {B : Nat} {w w' : World} {a : Option Addr} {n : Nat} {xs : List Int} {a1 : Option Addr} {n1 : Nat} {a2 : Option Addr} {n2 : Nat} (h : Il.OwnAt B w a n xs) (ht : Turned a1 n1 a2 n2 w w') (hap : Apart3 a1 n1 a2 n2 a n) : Il.OwnAt B w' a n xs := by
  obtain ⟨⟨hl, hr⟩, ho⟩ := h
  rcases hr with h0 | ⟨b1, off, rfl, hlt, hc⟩
  · exact ⟨⟨hl, .inl h0⟩, .inl h0⟩
  · rcases ho with h0 | ⟨b', off', e, hB, hf⟩
    · exact ⟨⟨hl, .inl h0⟩, .inl h0⟩
    · cases e
      rcases hap with h0 | hap
      · exact ⟨⟨hl, .inl h0⟩, .inl h0⟩
      · obtain ⟨h1, h2⟩ := hap b1 off rfl
        have key : w'.heap[b1]? = w.heap[b1]? := ht.block b1 hlt
          (fun o hp e => by rcases h1 with h1 | h1; · omega
                            · exact h1 _ _ e rfl)
          (fun o hp e => by rcases h2 with h2 | h2; · omega
                            · exact h2 _ _ e rfl)
        refine ⟨⟨hl, .inr ⟨b1, off, rfl, Nat.lt_of_lt_of_le hlt ht.size, fun i hi => ?_⟩⟩, .inr ⟨b1, off, rfl, hB, fun i hi => ?_⟩⟩
        · rw [← hc i hi]; exact World.cell?_of_block key
        · rw [← hf i hi]; exact World.frozen?_of_block key
/-- What marking a list of numbers may have turned. -/
abbrev Listed (a : Option Addr) (n : Nat) (w w' : World) : Prop := n = 0 ∧ w' = w ∨ 0 < n ∧ ∃ b off, a = some ⟨b, off, none⟩ ∧ w.grownBy w' (some b)
theorem below_listed {B : Nat} {w w' : World} {a3 : Option Addr} {n3 : Nat} (hl : Listed a3 n3 w w') (hB : B ≤ w.heap.size) (hs : n3 = 0 ∨ ∀ b off, a3 = some ⟨b, off, none⟩ → B ≤ b) : Below B w w' := by
  rcases hl with ⟨_, rfl⟩ | ⟨hp, b, off, rfl, hg⟩
  · exact Below.refl _ _
  · rcases hs with h0 | hs
    · omega
    · exact (Below.refl _ _).grown hg hB (fun j hj => by cases hj; exact hs _ _ rfl)
theorem mark_nn5 (n m : Nat) : ¬ (1 : Int) + (n : Int) + (m : Int) < 0 := by omega
theorem mark_nn4 (n m l : Nat) : ¬ (1 : Int) + (n : Int) + (m : Int) + (l : Int) < 0 := by omega
end Go.Proofs.Ytfgknbflgmblmaa
