/-
  Slices of grants in memory: what they read as, and what leaves that alone.
-/
import Derived.Test.YtfgknbflgmblmaaH2
namespace Go.Proofs.Ytfgknbflgmblmaa
open Go.RowKit Pl Il

def gC (p : Int × Bool) : List Value := [.int .i64 p.1, .bool p.2]
def gflat (ts : List (Int × Bool)) : List Value := ts.flatMap gC
def gg (ts : List (Int × Bool)) (i : Nat) : Int × Bool := ts.getD i (0, false)
theorem length_gflat (l : List (Int × Bool)) : (gflat l).length = l.length * 2 := by
  induction l with
  | nil => rfl
  | cons x l ih => simp [gflat, gC] at ih ⊢; omega
theorem gflat_at : ∀ (l : List (Int × Bool)) (i r : Nat), i < l.length → r < 2 → (gflat l)[i * 2 + r]? = (gC (gg l i))[r]?
  | [], i, r, hi, _ => by simp at hi
  | x :: l, 0, r, _, hr => by
    have e : gflat (x :: l) = gC x ++ gflat l := by simp [gflat]
    rw [e, List.getElem?_append_left (by simp [gC]; omega)]
    simp [gg]
  | x :: l, i + 1, r, hi, hr => by
    have e : gflat (x :: l) = gC x ++ gflat l := by simp [gflat]
    have hc : (gC x).length = 2 := rfl
    rw [e, List.getElem?_append_right (by rw [hc]; omega), hc, show (i + 1) * 2 + r - 2 = i * 2 + r by omega, gflat_at l i r (by simpa using hi) hr]
    simp [gg]
theorem gflat_snoc (l : List (Int × Bool)) (x : Int × Bool) : gflat (l ++ [x]) = gflat l ++ gC x := by simp [gflat]
theorem gflat_append (l m : List (Int × Bool)) : gflat (l ++ m) = gflat l ++ gflat m := by simp [gflat]
theorem gg_eq {l : List (Int × Bool)} {i : Nat} (h : i < l.length) : gg l i = l[i] := by unfold gg; rw [List.getD_eq_getElem?_getD, List.getElem?_eq_getElem h]; rfl
theorem gg_take {l : List (Int × Bool)} {i n : Nat} (h : i < n) : gg (l.take n) i = gg l i := by unfold gg; rw [List.getD_eq_getElem?_getD, List.getD_eq_getElem?_getD, List.getElem?_take_of_lt h]
theorem take_gg {l : List (Int × Bool)} {k : Nat} (h : k < l.length) : l.take (k + 1) = l.take k ++ [gg l k] := by rw [List.take_succ_eq_append_getElem h, gg_eq h]
theorem drop_gg {l : List (Int × Bool)} {k : Nat} (h : k < l.length) : l.drop k = gg l k :: l.drop (k + 1) := by rw [List.drop_eq_getElem_cons h, gg_eq h]

/-- The slice at a, of n grants, reads as ts in w. -/
structure GrAt (w : World) (a : Option Addr) (n : Nat) (ts : List (Int × Bool)) : Prop where
  len : ts.length = n
  row : n = 0 ∨ ∃ b off, a = some ⟨b, off, none⟩ ∧ b < w.heap.size ∧ ∀ i, i < n → w.cell? ⟨b, off + i * 2, none⟩ = some (.int .i64 (gg ts i).1) ∧ w.cell? ⟨b, off + i * 2 + 1, none⟩ = some (.bool (gg ts i).2)
theorem GrAt.keep {w w' : World} {a : Option Addr} {n : Nat} {ts : List (Int × Bool)} (h : GrAt w a n ts) (hb : Below w.heap.size w w') : GrAt w' a n ts := by
  refine ⟨h.len, ?_⟩
  rcases h.row with k | ⟨b, off, rfl, hlt, hc⟩
  · exact .inl k
  · exact .inr ⟨b, off, rfl, Nat.lt_of_lt_of_le hlt hb.size, fun i hi => by rw [hb.cell (p := ⟨b, off + i * 2, none⟩) hlt, hb.cell (p := ⟨b, off + i * 2 + 1, none⟩) hlt]; exact hc i hi⟩
theorem GrAt.below {w w' : World} {B : Nat} {a : Option Addr} {n : Nat} {ts : List (Int × Bool)} (h : GrAt w a n ts) (hb : Below B w w') (hB : n = 0 ∨ ∀ b off, a = some ⟨b, off, none⟩ → b < B) : GrAt w' a n ts := by
  refine ⟨h.len, ?_⟩
  rcases h.row with k | ⟨b, off, rfl, hlt, hc⟩
  · exact .inl k
  · rcases hB with k | hB
    · exact .inl k
    · have hbB := hB b off rfl
      exact .inr ⟨b, off, rfl, Nat.lt_of_lt_of_le hlt hb.size, fun i hi => by rw [hb.cell (p := ⟨b, off + i * 2, none⟩) hbB, hb.cell (p := ⟨b, off + i * 2 + 1, none⟩) hbB]; exact hc i hi⟩
theorem GrAt.nil (w : World) (a : Option Addr) : GrAt w a 0 [] := ⟨rfl, .inl rfl⟩
theorem GrAt.lt {w : World} {a : Option Addr} {n : Nat} {ts : List (Int × Bool)} (h : GrAt w a n ts) : n = 0 ∨ ∀ b off, a = some ⟨b, off, none⟩ → b < w.heap.size := by
  rcases h.row with k | ⟨b, off, rfl, hlt, hc⟩
  · exact .inl k
  · exact .inr fun b' o' e => by cases e; exact hlt

/-- Its cells lie in blocks from B on, and may be written. -/
structure OwnG (B : Nat) (w : World) (a : Option Addr) (n : Nat) (ts : List (Int × Bool)) : Prop where
  gr : GrAt w a n ts
  own : n = 0 ∨ ∃ b off, a = some ⟨b, off, none⟩ ∧ B ≤ b ∧ ∀ o, w.frozen? ⟨b, o, none⟩ = false
theorem OwnG.keep {B : Nat} {w w' : World} {a : Option Addr} {n : Nat} {ts : List (Int × Bool)} (h : OwnG B w a n ts) (hb : Below w.heap.size w w') : OwnG B w' a n ts := by
  refine ⟨h.gr.keep hb, ?_⟩
  rcases h.own with k | ⟨b, off, rfl, hB, hf⟩
  · exact .inl k
  · rcases h.gr.row with k | ⟨b', off', e, hlt, _⟩
    · exact .inl k
    · cases e
      exact .inr ⟨b, off, rfl, hB, fun o => by rw [hb.frozen (p := ⟨b, o, none⟩) hlt]; exact hf o⟩
theorem OwnG.mono {B B' : Nat} {w : World} {a : Option Addr} {n : Nat} {ts : List (Int × Bool)} (h : OwnG B w a n ts) (hB : B' ≤ B) : OwnG B' w a n ts := by
  refine ⟨h.gr, ?_⟩
  rcases h.own with k | ⟨b, off, rfl, hb, hf⟩
  · exact .inl k
  · exact .inr ⟨b, off, rfl, Nat.le_trans hB hb, hf⟩
theorem OwnG.other {B : Nat} {w w' : World} {a : Option Addr} {n b : Nat} {ts : List (Int × Bool)} (h : OwnG B w a n ts) (hg : w.grownBy w' (some b)) (hne : n = 0 ∨ ∀ b' off', a = some ⟨b', off', none⟩ → b ≠ b') : OwnG B w' a n ts := by
  obtain ⟨⟨hl, hr⟩, ho⟩ := h
  rcases hne with h0 | hne
  · exact ⟨⟨hl, .inl h0⟩, .inl h0⟩
  · rcases hr with h0 | ⟨b1, off, rfl, hlt, hc⟩
    · exact ⟨⟨hl, .inl h0⟩, .inl h0⟩
    · have key : w'.heap[b1]? = w.heap[b1]? := hg.block b1 hlt (by intro e; cases e; exact hne _ _ rfl rfl)
      rcases ho with h0 | ⟨b', off', e, hB, hf⟩
      · exact ⟨⟨hl, .inl h0⟩, .inl h0⟩
      · cases e
        refine ⟨⟨hl, .inr ⟨b1, off, rfl, Nat.lt_of_lt_of_le hlt hg.size, fun i hi => ?_⟩⟩, .inr ⟨b1, off, rfl, hB, fun o => ?_⟩⟩
        · rw [World.cell?_of_block (w := w) (a := ⟨b1, off + i * 2, none⟩) key, World.cell?_of_block (w := w) (a := ⟨b1, off + i * 2 + 1, none⟩) key]; exact hc i hi
        · rw [← hf o]; exact World.frozen?_of_block key
/-- A store into an elder block. -/
theorem OwnG.far {B : Nat} {w : World} {a : Option Addr} {n : Nat} {ts : List (Int × Bool)} (h : OwnG B w a n ts) (b o : Nat) (hb : b < B) (x : Value) : OwnG B (w.setCell ⟨b, o, none⟩ x) a n ts := by
  refine h.other (b := b) ⟨rfl, rfl, rfl, by simp, fun k _ hk => Below.heap_setCell _ _ _ _ (by rintro rfl; exact hk rfl)⟩ ?_
  rcases h.own with h0 | ⟨b', off', rfl, hB, _⟩
  · exact .inl h0
  · exact .inr fun b1 o1 e => by cases e; omega
/-- What append's laws own is such a slice. -/
theorem ownG_of {B : Nat} {w : World} {t : TypeId} {v : Value} {n : Nat} {ys : List Value} (h : w.ownsRow B t 2 v n ys) (ts : List (Int × Bool)) (hx : ys = gflat ts) : ∃ a cap, v = .slice a n cap ∧ n ≤ cap ∧ OwnG B w a n ts := by
  subst hx
  have hlen : ts.length = n := by have := h.1; rw [length_gflat] at this; omega
  obtain ⟨hl, ⟨rfl, rfl⟩ | ⟨g, cap, cur, rfl, hB, hg, hc, hm, hs, ht⟩⟩ := id h
  · exact ⟨_, _, rfl, Nat.le_refl _, ⟨⟨hlen, .inl rfl⟩, .inl rfl⟩⟩
  · have hlt : g < w.heap.size := by
      rcases Nat.lt_or_ge g w.heap.size with k | k
      · exact k
      · rw [Array.getElem?_eq_none k] at hg; cases hg
    refine ⟨_, _, rfl, hc, ⟨⟨hlen, .inr ⟨g, 0, rfl, hlt, fun i hi => ?_⟩⟩, .inr ⟨g, 0, rfl, hB, fun o => by simp [World.frozen?, hg]⟩⟩⟩
    have key : ∀ r, r < 2 → w.cell? ⟨g, i * 2 + r, none⟩ = (gC (gg ts i))[r]? := fun r hr => by
      rw [h.cellAt (i * 2 + r) (by omega), gflat_at ts i r (by omega) hr]
    rw [Nat.zero_add]
    exact ⟨key 0 (by omega), key 1 (by omega)⟩
end Go.Proofs.Ytfgknbflgmblmaa
