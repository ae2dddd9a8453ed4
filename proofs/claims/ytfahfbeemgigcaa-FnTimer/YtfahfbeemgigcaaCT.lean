/-
  Slices of timers in memory: what they read as, and what leaves that alone.
-/
import Derived.Test.YtfahfbeemgigcaaH2
namespace Go.Proofs.Ytfahfbeemgigcaa
open Go.RowKit Pl Il

def tC (p : Int × Int) : List Value := [.int .i64 p.1, .int .i64 p.2]
def tflat (ts : List (Int × Int)) : List Value := ts.flatMap tC
def tg (ts : List (Int × Int)) (i : Nat) : Int × Int := ts.getD i (0, 0)
theorem length_tflat (l : List (Int × Int)) : (tflat l).length = l.length * 2 := by
  induction l with
  | nil => rfl
  | cons x l ih => simp [tflat, tC] at ih ⊢; omega
theorem tflat_at : ∀ (l : List (Int × Int)) (i r : Nat), i < l.length → r < 2 → (tflat l)[i * 2 + r]? = (tC (tg l i))[r]?
  | [], i, r, hi, _ => by simp at hi
  | x :: l, 0, r, _, hr => by
    have e : tflat (x :: l) = tC x ++ tflat l := by simp [tflat]
    rw [e, List.getElem?_append_left (by simp [tC]; omega)]
    simp [tg]
  | x :: l, i + 1, r, hi, hr => by
    have e : tflat (x :: l) = tC x ++ tflat l := by simp [tflat]
    have hc : (tC x).length = 2 := rfl
    rw [e, List.getElem?_append_right (by rw [hc]; omega), hc, show (i + 1) * 2 + r - 2 = i * 2 + r by omega, tflat_at l i r (by simpa using hi) hr]
    simp [tg]
theorem tflat_snoc (l : List (Int × Int)) (x : Int × Int) : tflat (l ++ [x]) = tflat l ++ tC x := by simp [tflat]
theorem tflat_append (l m : List (Int × Int)) : tflat (l ++ m) = tflat l ++ tflat m := by simp [tflat]
theorem tg_eq {l : List (Int × Int)} {i : Nat} (h : i < l.length) : tg l i = l[i] := by unfold tg; rw [List.getD_eq_getElem?_getD, List.getElem?_eq_getElem h]; rfl
theorem tg_take {l : List (Int × Int)} {i n : Nat} (h : i < n) : tg (l.take n) i = tg l i := by unfold tg; rw [List.getD_eq_getElem?_getD, List.getD_eq_getElem?_getD, List.getElem?_take_of_lt h]
theorem take_tg {l : List (Int × Int)} {k : Nat} (h : k < l.length) : l.take (k + 1) = l.take k ++ [tg l k] := by rw [List.take_succ_eq_append_getElem h, tg_eq h]
theorem drop_tg {l : List (Int × Int)} {k : Nat} (h : k < l.length) : l.drop k = tg l k :: l.drop (k + 1) := by rw [List.drop_eq_getElem_cons h, tg_eq h]

/-- The slice at a, of n timers, reads as ts in w. -/
structure TimAt (w : World) (a : Option Addr) (n : Nat) (ts : List (Int × Int)) : Prop where
  len : ts.length = n
  row : n = 0 ∨ ∃ b off, a = some ⟨b, off, none⟩ ∧ b < w.heap.size ∧ ∀ i, i < n → w.cell? ⟨b, off + i * 2, none⟩ = some (.int .i64 (tg ts i).1) ∧ w.cell? ⟨b, off + i * 2 + 1, none⟩ = some (.int .i64 (tg ts i).2)
theorem TimAt.keep {w w' : World} {a : Option Addr} {n : Nat} {ts : List (Int × Int)} (h : TimAt w a n ts) (hb : Below w.heap.size w w') : TimAt w' a n ts := by
  refine ⟨h.len, ?_⟩
  rcases h.row with k | ⟨b, off, rfl, hlt, hc⟩
  · exact .inl k
  · exact .inr ⟨b, off, rfl, Nat.lt_of_lt_of_le hlt hb.size, fun i hi => by rw [hb.cell (p := ⟨b, off + i * 2, none⟩) hlt, hb.cell (p := ⟨b, off + i * 2 + 1, none⟩) hlt]; exact hc i hi⟩
theorem TimAt.below {w w' : World} {B : Nat} {a : Option Addr} {n : Nat} {ts : List (Int × Int)} (h : TimAt w a n ts) (hb : Below B w w') (hB : n = 0 ∨ ∀ b off, a = some ⟨b, off, none⟩ → b < B) : TimAt w' a n ts := by
  refine ⟨h.len, ?_⟩
  rcases h.row with k | ⟨b, off, rfl, hlt, hc⟩
  · exact .inl k
  · rcases hB with k | hB
    · exact .inl k
    · have hbB := hB b off rfl
      exact .inr ⟨b, off, rfl, Nat.lt_of_lt_of_le hlt hb.size, fun i hi => by rw [hb.cell (p := ⟨b, off + i * 2, none⟩) hbB, hb.cell (p := ⟨b, off + i * 2 + 1, none⟩) hbB]; exact hc i hi⟩
theorem TimAt.nil (w : World) (a : Option Addr) : TimAt w a 0 [] := ⟨rfl, .inl rfl⟩
theorem TimAt.lt {w : World} {a : Option Addr} {n : Nat} {ts : List (Int × Int)} (h : TimAt w a n ts) : n = 0 ∨ ∀ b off, a = some ⟨b, off, none⟩ → b < w.heap.size := by
  rcases h.row with k | ⟨b, off, rfl, hlt, hc⟩
  · exact .inl k
  · exact .inr fun b' o' e => by cases e; exact hlt

/-- Its cells lie in blocks from B on, and may be written. -/
structure OwnT (B : Nat) (w : World) (a : Option Addr) (n : Nat) (ts : List (Int × Int)) : Prop where
  tim : TimAt w a n ts
  own : n = 0 ∨ ∃ b off, a = some ⟨b, off, none⟩ ∧ B ≤ b ∧ ∀ o, w.frozen? ⟨b, o, none⟩ = false
theorem OwnT.keep {B : Nat} {w w' : World} {a : Option Addr} {n : Nat} {ts : List (Int × Int)} (h : OwnT B w a n ts) (hb : Below w.heap.size w w') : OwnT B w' a n ts := by
  refine ⟨h.tim.keep hb, ?_⟩
  rcases h.own with k | ⟨b, off, rfl, hB, hf⟩
  · exact .inl k
  · rcases h.tim.row with k | ⟨b', off', e, hlt, _⟩
    · exact .inl k
    · cases e
      exact .inr ⟨b, off, rfl, hB, fun o => by rw [hb.frozen (p := ⟨b, o, none⟩) hlt]; exact hf o⟩
theorem OwnT.mono {B B' : Nat} {w : World} {a : Option Addr} {n : Nat} {ts : List (Int × Int)} (h : OwnT B w a n ts) (hB : B' ≤ B) : OwnT B' w a n ts := by
  refine ⟨h.tim, ?_⟩
  rcases h.own with k | ⟨b, off, rfl, hb, hf⟩
  · exact .inl k
  · exact .inr ⟨b, off, rfl, Nat.le_trans hB hb, hf⟩
theorem OwnT.other {B : Nat} {w w' : World} {a : Option Addr} {n b : Nat} {ts : List (Int × Int)} (h : OwnT B w a n ts) (hg : w.grownBy w' (some b)) (hne : n = 0 ∨ ∀ b' off', a = some ⟨b', off', none⟩ → b ≠ b') : OwnT B w' a n ts := by
  obtain ⟨⟨hl, hr⟩, ho⟩ := h
  rcases hne with h0 | hne
  · exact ⟨⟨hl, .inl h0⟩, .inl h0⟩
  · rcases hr with h0 | ⟨b1, off, rfl, hlt, hc⟩
    · exact ⟨⟨hl, .inl h0⟩, .inl h0⟩
    · have key : w'.heap[b1]? = w.heap[b1]? := hg.block b1 hlt (by intro e; cases e; exact hne _ _ rfl rfl)
      rcases ho with h0 | ⟨b', off', e, hB, hf⟩
      · exact ⟨⟨hl, .inl h0⟩, .inl h0⟩
      · cases e
        refine ⟨⟨hl, .inr ⟨b1, off, rfl, Nat.lt_of_lt_of_le hlt hg.size, fun i hi => ?_⟩⟩, .inr ⟨b1, off, rfl, hB, fun o => ?_⟩⟩
        · rw [World.cell?_of_block (w := w) (a := ⟨b1, off + i * 2, none⟩) key, World.cell?_of_block (w := w) (a := ⟨b1, off + i * 2 + 1, none⟩) key]; exact hc i hi
        · rw [← hf o]; exact World.frozen?_of_block key
/-- A store into an elder block. -/
theorem OwnT.far {B : Nat} {w : World} {a : Option Addr} {n : Nat} {ts : List (Int × Int)} (h : OwnT B w a n ts) (b o : Nat) (hb : b < B) (x : Value) : OwnT B (w.setCell ⟨b, o, none⟩ x) a n ts := by
  refine h.other (b := b) ⟨rfl, rfl, rfl, by simp, fun k _ hk => Below.heap_setCell _ _ _ _ (by rintro rfl; exact hk rfl)⟩ ?_
  rcases h.own with h0 | ⟨b', off', rfl, hB, _⟩
  · exact .inl h0
  · exact .inr fun b1 o1 e => by cases e; omega
/-- What append's laws own is such a slice. -/
theorem ownT_of {B : Nat} {w : World} {t : TypeId} {v : Value} {n : Nat} {ys : List Value} (h : w.ownsRow B t 2 v n ys) (ts : List (Int × Int)) (hx : ys = tflat ts) : ∃ a cap, v = .slice a n cap ∧ n ≤ cap ∧ OwnT B w a n ts := by
  subst hx
  have hlen : ts.length = n := by have := h.1; rw [length_tflat] at this; omega
  obtain ⟨hl, ⟨rfl, rfl⟩ | ⟨g, cap, cur, rfl, hB, hg, hc, hm, hs, ht⟩⟩ := id h
  · exact ⟨_, _, rfl, Nat.le_refl _, ⟨⟨hlen, .inl rfl⟩, .inl rfl⟩⟩
  · have hlt : g < w.heap.size := by
      rcases Nat.lt_or_ge g w.heap.size with k | k
      · exact k
      · rw [Array.getElem?_eq_none k] at hg; cases hg
    refine ⟨_, _, rfl, hc, ⟨⟨hlen, .inr ⟨g, 0, rfl, hlt, fun i hi => ?_⟩⟩, .inr ⟨g, 0, rfl, hB, fun o => by simp [World.frozen?, hg]⟩⟩⟩
    have key : ∀ r, r < 2 → w.cell? ⟨g, i * 2 + r, none⟩ = (tC (tg ts i))[r]? := fun r hr => by
      rw [h.cellAt (i * 2 + r) (by omega), tflat_at ts i r (by omega) hr]
    rw [Nat.zero_add]
    exact ⟨key 0 (by omega), key 1 (by omega)⟩
/-- A variable of two cells in block N. -/
structure Box2 (N : Nat) (v0 v1 : Value) (w : World) : Prop where
  lt : N < w.heap.size
  c0 : w.cell? ⟨N, 0, none⟩ = some v0
  c1 : w.cell? ⟨N, 1, none⟩ = some v1
  fr : ∀ o, w.frozen? ⟨N, o, none⟩ = false
theorem Box2.new (w : World) (v0 v1 : Value) (t : TypeId) : Box2 w.heap.size v0 v1 (w.alloc (.cells #[v0, v1] t)) :=
  ⟨by simp, by simp, by simp, fun o => by simp [go_sem]⟩
theorem Box2.keep {N : Nat} {v0 v1 : Value} {w u : World} (h : Box2 N v0 v1 w) (hb : Below w.heap.size w u) : Box2 N v0 v1 u where
  lt := Nat.lt_of_lt_of_le h.lt hb.size
  c0 := by rw [hb.cell (p := ⟨N, 0, none⟩) h.lt]; exact h.c0
  c1 := by rw [hb.cell (p := ⟨N, 1, none⟩) h.lt]; exact h.c1
  fr := fun o => by rw [hb.frozen (p := ⟨N, o, none⟩) h.lt]; exact h.fr o
theorem Box2.alloc {N : Nat} {v0 v1 : Value} {w : World} (h : Box2 N v0 v1 w) (o : Obj) : Box2 N v0 v1 (w.alloc o) := h.keep (bl_alloc (Below.refl _ _) o)
theorem Box2.far {N : Nat} {v0 v1 : Value} {w : World} (h : Box2 N v0 v1 w) (M o : Nat) (hM : N ≠ M) (x : Value) : Box2 N v0 v1 (w.setCell ⟨M, o, none⟩ x) := by
  have key : (w.setCell ⟨M, o, none⟩ x).heap[N]? = w.heap[N]? := Below.heap_setCell w ⟨M, o, none⟩ x N hM
  exact ⟨by simpa using h.lt, by rw [← h.c0]; exact World.cell?_of_block key, by rw [← h.c1]; exact World.cell?_of_block key, fun k => by rw [← h.fr k]; exact World.frozen?_of_block key⟩
theorem Box2.grown {N : Nat} {v0 v1 : Value} {w u : World} {g : Nat} (h : Box2 N v0 v1 w) (hg : w.grownBy u (some g)) (hN : N ≠ g) : Box2 N v0 v1 u := by
  have key : u.heap[N]? = w.heap[N]? := hg.block N h.lt (by intro e; cases e; exact hN rfl)
  exact ⟨Nat.lt_of_lt_of_le h.lt hg.size, by rw [← h.c0]; exact World.cell?_of_block key, by rw [← h.c1]; exact World.cell?_of_block key, fun k => by rw [← h.fr k]; exact World.frozen?_of_block key⟩
theorem Box2.set0 {N : Nat} {v0 v1 : Value} {w : World} (h : Box2 N v0 v1 w) (x : Value) : Box2 N x v1 (w.setCell ⟨N, 0, none⟩ x) :=
  ⟨by simpa using h.lt, World.cell?_setCell_same _ _ _ h.c0, by rw [World.cell?_setCell_other _ _ _ _ (by simp)]; exact h.c1, fun k => by simpa using h.fr k⟩
theorem Box2.set1 {N : Nat} {v0 v1 : Value} {w : World} (h : Box2 N v0 v1 w) (x : Value) : Box2 N v0 x (w.setCell ⟨N, 1, none⟩ x) :=
  ⟨by simpa using h.lt, by rw [World.cell?_setCell_other _ _ _ _ (by simp)]; exact h.c0, World.cell?_setCell_same _ _ _ h.c1, fun k => by simpa using h.fr k⟩
end Go.Proofs.Ytfahfbeemgigcaa
