/-
  Slices of terms in memory: what they read as, and what leaves that alone.
-/
import Derived.Test.YthbelehhhjngfaaDoorH2
namespace Go.Proofs.YthbelehhhjngfaaDoor
open Go.RowKit Pl Il

abbrev Tm : Type := Int × Int × ByteArray
def noT : ByteArray := ⟨#[]⟩
def qC (p : Tm) : List Value := [.int .i64 p.1, .int .i64 p.2.1, .string p.2.2]
def qflat (ts : List Tm) : List Value := ts.flatMap qC
def qg (ts : List Tm) (i : Nat) : Tm := ts.getD i (0, 0, noT)
theorem length_qflat (l : List Tm) : (qflat l).length = l.length * 3 := by
  induction l with
  | nil => rfl
  | cons x l ih => simp [qflat, qC] at ih ⊢; omega
theorem qflat_at : ∀ (l : List Tm) (i r : Nat), i < l.length → r < 3 → (qflat l)[i * 3 + r]? = (qC (qg l i))[r]?
  | [], i, r, hi, _ => by simp at hi
  | x :: l, 0, r, _, hr => by
    have e : qflat (x :: l) = qC x ++ qflat l := by simp [qflat]
    rw [e, List.getElem?_append_left (by simp [qC]; omega)]
    simp [qg]
  | x :: l, i + 1, r, hi, hr => by
    have e : qflat (x :: l) = qC x ++ qflat l := by simp [qflat]
    have hc : (qC x).length = 3 := rfl
    rw [e, List.getElem?_append_right (by rw [hc]; omega), hc, show (i + 1) * 3 + r - 3 = i * 3 + r by omega, qflat_at l i r (by simpa using hi) hr]
    simp [qg]
theorem qflat_snoc (l : List Tm) (x : Tm) : qflat (l ++ [x]) = qflat l ++ qC x := by simp [qflat]
theorem qflat_append (l m : List Tm) : qflat (l ++ m) = qflat l ++ qflat m := by simp [qflat]
theorem qg_eq {l : List Tm} {i : Nat} (h : i < l.length) : qg l i = l[i] := by unfold qg; rw [List.getD_eq_getElem?_getD, List.getElem?_eq_getElem h]; rfl
theorem qg_take {l : List Tm} {i n : Nat} (h : i < n) : qg (l.take n) i = qg l i := by unfold qg; rw [List.getD_eq_getElem?_getD, List.getD_eq_getElem?_getD, List.getElem?_take_of_lt h]
theorem take_qg {l : List Tm} {k : Nat} (h : k < l.length) : l.take (k + 1) = l.take k ++ [qg l k] := by rw [List.take_succ_eq_append_getElem h, qg_eq h]
theorem drop_qg {l : List Tm} {k : Nat} (h : k < l.length) : l.drop k = qg l k :: l.drop (k + 1) := by rw [List.drop_eq_getElem_cons h, qg_eq h]
theorem qg_mem {l : List Tm} {k : Nat} (h : k < l.length) : qg l k ∈ l := by rw [qg_eq h]; exact List.getElem_mem h

/-- The slice at a, of n terms, reads as ts in w. -/
structure TmAt (w : World) (a : Option Addr) (n : Nat) (ts : List Tm) : Prop where
  len : ts.length = n
  short : ∀ p, p ∈ ts → p.2.2.size ≤ maxLen
  row : n = 0 ∨ ∃ b off, a = some ⟨b, off, none⟩ ∧ b < w.heap.size ∧ ∀ i, i < n → w.cell? ⟨b, off + i * 3, none⟩ = some (.int .i64 (qg ts i).1) ∧ w.cell? ⟨b, off + i * 3 + 1, none⟩ = some (.int .i64 (qg ts i).2.1) ∧ w.cell? ⟨b, off + i * 3 + 2, none⟩ = some (.string (qg ts i).2.2)
theorem TmAt.keep {w w' : World} {a : Option Addr} {n : Nat} {ts : List Tm} (h : TmAt w a n ts) (hb : Below w.heap.size w w') : TmAt w' a n ts := by
  refine ⟨h.len, h.short, ?_⟩
  rcases h.row with k | ⟨b, off, rfl, hlt, hc⟩
  · exact .inl k
  · exact .inr ⟨b, off, rfl, Nat.lt_of_lt_of_le hlt hb.size, fun i hi => by rw [hb.cell (p := ⟨b, off + i * 3, none⟩) hlt, hb.cell (p := ⟨b, off + i * 3 + 1, none⟩) hlt, hb.cell (p := ⟨b, off + i * 3 + 2, none⟩) hlt]; exact hc i hi⟩
theorem TmAt.below {w w' : World} {B : Nat} {a : Option Addr} {n : Nat} {ts : List Tm} (h : TmAt w a n ts) (hb : Below B w w') (hB : n = 0 ∨ ∀ b off, a = some ⟨b, off, none⟩ → b < B) : TmAt w' a n ts := by
  refine ⟨h.len, h.short, ?_⟩
  rcases h.row with k | ⟨b, off, rfl, hlt, hc⟩
  · exact .inl k
  · rcases hB with k | hB
    · exact .inl k
    · have hbB := hB b off rfl
      exact .inr ⟨b, off, rfl, Nat.lt_of_lt_of_le hlt hb.size, fun i hi => by rw [hb.cell (p := ⟨b, off + i * 3, none⟩) hbB, hb.cell (p := ⟨b, off + i * 3 + 1, none⟩) hbB, hb.cell (p := ⟨b, off + i * 3 + 2, none⟩) hbB]; exact hc i hi⟩
theorem TmAt.nil (w : World) (a : Option Addr) : TmAt w a 0 [] := ⟨rfl, fun p hp => (by cases hp), .inl rfl⟩
theorem TmAt.lt {w : World} {a : Option Addr} {n : Nat} {ts : List Tm} (h : TmAt w a n ts) : n = 0 ∨ ∀ b off, a = some ⟨b, off, none⟩ → b < w.heap.size := by
  rcases h.row with k | ⟨b, off, rfl, hlt, hc⟩
  · exact .inl k
  · exact .inr fun b' o' e => by cases e; exact hlt

/-- Its cells lie in blocks from B on, and may be written. -/
structure OwnF (B : Nat) (w : World) (a : Option Addr) (n : Nat) (ts : List Tm) : Prop where
  tm : TmAt w a n ts
  own : n = 0 ∨ ∃ b off, a = some ⟨b, off, none⟩ ∧ B ≤ b ∧ ∀ o, w.frozen? ⟨b, o, none⟩ = false
theorem OwnF.keep {B : Nat} {w w' : World} {a : Option Addr} {n : Nat} {ts : List Tm} (h : OwnF B w a n ts) (hb : Below w.heap.size w w') : OwnF B w' a n ts := by
  refine ⟨h.tm.keep hb, ?_⟩
  rcases h.own with k | ⟨b, off, rfl, hB, hf⟩
  · exact .inl k
  · rcases h.tm.row with k | ⟨b', off', e, hlt, _⟩
    · exact .inl k
    · cases e
      exact .inr ⟨b, off, rfl, hB, fun o => by rw [hb.frozen (p := ⟨b, o, none⟩) hlt]; exact hf o⟩
theorem OwnF.mono {B B' : Nat} {w : World} {a : Option Addr} {n : Nat} {ts : List Tm} (h : OwnF B w a n ts) (hB : B' ≤ B) : OwnF B' w a n ts := by
  refine ⟨h.tm, ?_⟩
  rcases h.own with k | ⟨b, off, rfl, hb, hf⟩
  · exact .inl k
  · exact .inr ⟨b, off, rfl, Nat.le_trans hB hb, hf⟩
theorem OwnF.other {B : Nat} {w w' : World} {a : Option Addr} {n b : Nat} {ts : List Tm} (h : OwnF B w a n ts) (hg : w.grownBy w' (some b)) (hne : n = 0 ∨ ∀ b' off', a = some ⟨b', off', none⟩ → b ≠ b') : OwnF B w' a n ts := by
  obtain ⟨⟨hl, hs, hr⟩, ho⟩ := h
  rcases hne with h0 | hne
  · exact ⟨⟨hl, hs, .inl h0⟩, .inl h0⟩
  · rcases hr with h0 | ⟨b1, off, rfl, hlt, hc⟩
    · exact ⟨⟨hl, hs, .inl h0⟩, .inl h0⟩
    · have key : w'.heap[b1]? = w.heap[b1]? := hg.block b1 hlt (by intro e; cases e; exact hne _ _ rfl rfl)
      rcases ho with h0 | ⟨b', off', e, hB, hf⟩
      · exact ⟨⟨hl, hs, .inl h0⟩, .inl h0⟩
      · cases e
        refine ⟨⟨hl, hs, .inr ⟨b1, off, rfl, Nat.lt_of_lt_of_le hlt hg.size, fun i hi => ?_⟩⟩, .inr ⟨b1, off, rfl, hB, fun o => ?_⟩⟩
        · rw [World.cell?_of_block (w := w) (a := ⟨b1, off + i * 3, none⟩) key, World.cell?_of_block (w := w) (a := ⟨b1, off + i * 3 + 1, none⟩) key, World.cell?_of_block (w := w) (a := ⟨b1, off + i * 3 + 2, none⟩) key]; exact hc i hi
        · rw [← hf o]; exact World.frozen?_of_block key
/-- A store into an elder block. -/
theorem OwnF.far {B : Nat} {w : World} {a : Option Addr} {n : Nat} {ts : List Tm} (h : OwnF B w a n ts) (b o : Nat) (hb : b < B) (x : Value) : OwnF B (w.setCell ⟨b, o, none⟩ x) a n ts := by
  refine h.other (b := b) ⟨rfl, rfl, rfl, by simp, fun k _ hk => Below.heap_setCell _ _ _ _ (by rintro rfl; exact hk rfl)⟩ ?_
  rcases h.own with h0 | ⟨b', off', rfl, hB, _⟩
  · exact .inl h0
  · exact .inr fun b1 o1 e => by cases e; omega
theorem OwnF.span {B : Nat} {w : World} {a : Option Addr} {n : Nat} {ts : List Tm} (h : OwnF B w a n ts) : n = 0 ∨ ∀ b off, a = some ⟨b, off, none⟩ → B ≤ b ∧ b < w.heap.size := by
  rcases h.tm.row with h0 | ⟨b, off, rfl, hlt, _⟩
  · exact .inl h0
  · rcases h.own with h0 | ⟨b', off', e, hB, _⟩
    · exact .inl h0
    · cases e
      exact .inr fun b1 o1 e => by cases e; exact ⟨hB, hlt⟩
/-- What append's laws own is such a slice. -/
theorem ownF_of {B : Nat} {w : World} {t : TypeId} {v : Value} {n : Nat} {ys : List Value} (h : w.ownsRow B t 3 v n ys) (ts : List Tm) (hx : ys = qflat ts) (hs : ∀ p, p ∈ ts → p.2.2.size ≤ maxLen) : ∃ a cap, v = .slice a n cap ∧ n ≤ cap ∧ OwnF B w a n ts := by
  subst hx
  have hlen : ts.length = n := by have := h.1; rw [length_qflat] at this; omega
  obtain ⟨hl, ⟨rfl, rfl⟩ | ⟨g, cap, cur, rfl, hB, hg, hc, hm, _, ht⟩⟩ := id h
  · exact ⟨_, _, rfl, Nat.le_refl _, ⟨⟨hlen, hs, .inl rfl⟩, .inl rfl⟩⟩
  · have hlt : g < w.heap.size := by
      rcases Nat.lt_or_ge g w.heap.size with k | k
      · exact k
      · rw [Array.getElem?_eq_none k] at hg; cases hg
    refine ⟨_, _, rfl, hc, ⟨⟨hlen, hs, .inr ⟨g, 0, rfl, hlt, fun i hi => ?_⟩⟩, .inr ⟨g, 0, rfl, hB, fun o => by simp [World.frozen?, hg]⟩⟩⟩
    have key : ∀ r, r < 3 → w.cell? ⟨g, i * 3 + r, none⟩ = (qC (qg ts i))[r]? := fun r hr => by
      rw [h.cellAt (i * 3 + r) (by omega), qflat_at ts i r (by omega) hr]
    rw [Nat.zero_add]
    exact ⟨key 0 (by omega), key 1 (by omega), key 2 (by omega)⟩
end Go.Proofs.YthbelehhhjngfaaDoor
