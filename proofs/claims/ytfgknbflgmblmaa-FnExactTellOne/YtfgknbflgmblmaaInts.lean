/-
  Slices of numbers in memory: what they read as, and what leaves that alone.
-/
import Derived.Test.YtfgknbflgmblmaaPlain
import Derived.WalkKit
import Derived.Below
import Derived.Maps.Range
import Derived.Maps.AppendAt
import Derived.Deep.AppendLies
import Derived.Deep.AppendSrc
import Derived.Deep.Draws
namespace Go.Proofs.Ytfgknbflgmblmaa.Il
open Go.RowKit Pl

/-- The slice at a, of n elements, reads as xs in w. -/
structure IntsAt (w : World) (a : Option Addr) (n : Nat) (xs : List Int) : Prop where
  len : xs.length = n
  row : n = 0 ∨ ∃ b off, a = some ⟨b, off, none⟩ ∧ b < w.heap.size ∧ ∀ i, i < n → w.cell? ⟨b, off + i, none⟩ = some (.int .i64 (xs.getD i 0))
theorem IntsAt.keep {w w' : World} {a : Option Addr} {n : Nat} {xs : List Int} (h : IntsAt w a n xs) (hb : Below w.heap.size w w') : IntsAt w' a n xs := by
  refine ⟨h.len, ?_⟩
  rcases h.row with k | ⟨b, off, rfl, hlt, hc⟩
  · exact .inl k
  · exact .inr ⟨b, off, rfl, Nat.lt_of_lt_of_le hlt hb.size, fun i hi => by rw [hb.cell (p := ⟨b, off + i, none⟩) hlt]; exact hc i hi⟩
theorem IntsAt.nil (w : World) (a : Option Addr) : IntsAt w a 0 [] := ⟨rfl, .inl rfl⟩
/-- The elements from i on. -/
theorem IntsAt.drop {w : World} {b off n : Nat} {xs : List Int} (h : IntsAt w (some ⟨b, off, none⟩) n xs) (i : Nat) (hi : i ≤ n) : IntsAt w (some ⟨b, off + i, none⟩) (n - i) (xs.drop i) := by
  refine ⟨by rw [List.length_drop, h.len], ?_⟩
  rcases h.row with k | ⟨b', off', e, hlt, hc⟩
  · exact .inl (by omega)
  · cases e
    refine .inr ⟨b, off + i, rfl, hlt, fun j hj => ?_⟩
    rw [Nat.add_assoc, hc (i + j) (by omega)]
    simp [List.getD]
theorem IntsAt.take {w : World} {a : Option Addr} {n : Nat} {xs : List Int} (h : IntsAt w a n xs) (i : Nat) (hi : i ≤ n) : IntsAt w a i (xs.take i) := by
  refine ⟨by rw [List.length_take, h.len]; omega, ?_⟩
  rcases h.row with k | ⟨b, off, rfl, hlt, hc⟩
  · exact .inl (by omega)
  · refine .inr ⟨b, off, rfl, hlt, fun j hj => ?_⟩
    rw [hc j (by omega)]
    simp [List.getD, List.getElem?_take_of_lt hj]

/-- Its cells lie in blocks from B on, and may be written. -/
structure OwnAt (B : Nat) (w : World) (a : Option Addr) (n : Nat) (xs : List Int) : Prop where
  ints : IntsAt w a n xs
  own : n = 0 ∨ ∃ b off, a = some ⟨b, off, none⟩ ∧ B ≤ b ∧ ∀ i, i < n → w.frozen? ⟨b, off + i, none⟩ = false
theorem OwnAt.keep {B : Nat} {w w' : World} {a : Option Addr} {n : Nat} {xs : List Int} (h : OwnAt B w a n xs) (hb : Below w.heap.size w w') : OwnAt B w' a n xs := by
  refine ⟨h.ints.keep hb, ?_⟩
  rcases h.own with k | ⟨b, off, rfl, hB, hf⟩
  · exact .inl k
  · rcases h.ints.row with k | ⟨b', off', e, hlt, _⟩
    · exact .inl k
    · cases e
      exact .inr ⟨b, off, rfl, hB, fun i hi => by rw [hb.frozen (p := ⟨b, off + i, none⟩) hlt]; exact hf i hi⟩
theorem OwnAt.mono {B B' : Nat} {w : World} {a : Option Addr} {n : Nat} {xs : List Int} (h : OwnAt B w a n xs) (hB : B' ≤ B) : OwnAt B' w a n xs := by
  refine ⟨h.ints, ?_⟩
  rcases h.own with k | ⟨b, off, rfl, hb, hf⟩
  · exact .inl k
  · exact .inr ⟨b, off, rfl, Nat.le_trans hB hb, hf⟩

/-- What append's laws own is such a slice. -/
theorem own_of {B : Nat} {w : World} {v : Value} {n : Nat} {ys : List Value} (h : w.ownsRow B 3 1 v n ys) (xs : List Int) (hx : ys = xs.map (Value.int .i64)) : ∃ a cap, v = .slice a n cap ∧ OwnAt B w a n xs := by
  subst hx
  obtain ⟨hl, ⟨rfl, rfl⟩ | ⟨g, cap, cur, rfl, hB, hg, hc, hm, hs, ht⟩⟩ := h
  · have : xs = [] := List.length_eq_zero_iff.1 (by simpa using hl)
    subst this
    exact ⟨_, _, rfl, ⟨⟨rfl, .inl rfl⟩, .inl rfl⟩⟩
  · have hlen : xs.length = n := by simpa using hl
    have hlt : g < w.heap.size := by
      rcases Nat.lt_or_ge g w.heap.size with k | k
      · exact k
      · rw [Array.getElem?_eq_none k] at hg; cases hg
    refine ⟨_, _, rfl, ⟨⟨hlen, .inr ⟨g, 0, rfl, hlt, fun i hi => ?_⟩⟩, .inr ⟨g, 0, rfl, hB, fun i hi => ?_⟩⟩⟩
    · rw [Nat.zero_add, cell_of_row w g i cur 3 (0, 0) hg]
      have e : (xs.map (Value.int .i64))[i]? = (cur.toList.take (n * 1))[i]? := by rw [ht]
      rw [List.getElem?_take_of_lt (by omega)] at e
      rw [← Array.getElem?_toList, ← e]
      simp [List.getD, List.getElem?_eq_getElem (show i < xs.length by omega)]
    · rw [Nat.zero_add]
      simp [World.frozen?, hg]
theorem OwnAt.other {B : Nat} {w w' : World} {a : Option Addr} {n b : Nat} {xs : List Int} (h : OwnAt B w a n xs) (hg : w.grownBy w' (some b)) (hne : n = 0 ∨ ∀ b' off', a = some ⟨b', off', none⟩ → b ≠ b') : OwnAt B w' a n xs := by
  obtain ⟨⟨hl, hr⟩, ho⟩ := h
  rcases hne with h0 | hne
  · exact ⟨⟨hl, .inl h0⟩, .inl h0⟩
  · rcases hr with h0 | ⟨b1, off, rfl, hlt, hc⟩
    · exact ⟨⟨hl, .inl h0⟩, .inl h0⟩
    · have key : w'.heap[b1]? = w.heap[b1]? := hg.block b1 hlt (by intro e; cases e; exact hne _ _ rfl rfl)
      rcases ho with h0 | ⟨b', off', e, hB, hf⟩
      · exact ⟨⟨hl, .inl h0⟩, .inl h0⟩
      · cases e
        refine ⟨⟨hl, .inr ⟨b1, off, rfl, Nat.lt_of_lt_of_le hlt hg.size, fun i hi => ?_⟩⟩, .inr ⟨b1, off, rfl, hB, fun i hi => ?_⟩⟩
        · rw [← hc i hi]; exact World.cell?_of_block key
        · rw [← hf i hi]; exact World.frozen?_of_block key
/-- A store into an elder block. -/
theorem OwnAt.far {B : Nat} {w : World} {a : Option Addr} {n : Nat} {xs : List Int} (h : OwnAt B w a n xs) (b o : Nat) (hb : b < B) (x : Value) : OwnAt B (w.setCell ⟨b, o, none⟩ x) a n xs := by
  refine h.other (b := b) ⟨rfl, rfl, rfl, by simp, fun k _ hk => Below.heap_setCell _ _ _ _ (by rintro rfl; exact hk rfl)⟩ ?_
  rcases h.own with h0 | ⟨b', off', rfl, hB, _⟩
  · exact .inl h0
  · exact .inr fun b1 o1 e => by cases e; omega
theorem own_cap {B : Nat} {w : World} {a : Option Addr} {n cap : Nat} {ys : List Value} (h : w.ownsRow B 3 1 (.slice a n cap) n ys) : n ≤ cap := by
  obtain ⟨_, ⟨e, _⟩ | ⟨g, cap', cur, e, _, _, hc, _⟩⟩ := h
  · cases e; exact Nat.le_refl _
  · cases e; exact hc
/-- Every number of the list fits. -/
def wfL (xs : List Int) : Prop := ∀ x ∈ xs, (Lit.int .i64 x).wf = true
theorem wf_at {xs : List Int} (h : wfL xs) {k : Nat} (hk : k < xs.length) : (Lit.int .i64 (xs.getD k 0)).wf = true := by
  have e : xs.getD k 0 = xs[k] := by simp [List.getD, List.getElem?_eq_getElem hk]
  rw [e]; exact h _ (List.getElem_mem _)
theorem wf_take {xs : List Int} (h : wfL xs) (k : Nat) : wfL (xs.take k) := fun x hx => h x (List.mem_of_mem_take hx)
end Go.Proofs.Ytfgknbflgmblmaa.Il
