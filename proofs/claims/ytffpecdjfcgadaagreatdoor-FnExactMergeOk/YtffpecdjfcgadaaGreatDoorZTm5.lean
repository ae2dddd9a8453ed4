/-
  Slices of subscribers in memory: seven cells each, the last one a slice of terms of its own; what they read as, and what leaves that alone.
-/
import Derived.Test.YtffpecdjfcgadaaGreatDoorZTm4
namespace Go.Proofs.YtffpecdjfcgadaaGreatDoor
open Go.RowKit Pl Il

/-- Neighbouring cells written from o on. -/
def setL (w : World) (g : Nat) : Nat → List Value → World
  | _, [] => w
  | o, v :: vs => setL (w.setCell ⟨g, o, none⟩ v) g (o + 1) vs
theorem setL_other {g : Nat} : ∀ {vs : List Value} {w : World} {o p : Nat}, (p < o ∨ o + vs.length ≤ p) → (setL w g o vs).cell? ⟨g, p, none⟩ = w.cell? ⟨g, p, none⟩
  | [], _, _, _, _ => rfl
  | v :: vs, w, o, p, h => by
    unfold setL
    simp only [List.length_cons] at h
    rw [setL_other (by omega), World.cell?_setCell_other _ _ _ _ (by intro e'; injection e' with _ e2; omega)]
theorem setL_same {g : Nat} : ∀ {vs : List Value} {w : World} {o : Nat}, (∀ i, i < vs.length → ∃ v, w.cell? ⟨g, o + i, none⟩ = some v) → ∀ i (hi : i < vs.length), (setL w g o vs).cell? ⟨g, o + i, none⟩ = some vs[i]
  | [], _, _, _, i, hi => by simp at hi
  | v :: vs, w, o, h, 0, _ => by
    unfold setL
    rw [setL_other (by left; omega)]
    obtain ⟨u, hu⟩ := h 0 (by simp)
    exact World.cell?_setCell_same _ _ _ hu
  | v :: vs, w, o, h, i + 1, hi => by
    unfold setL
    have := setL_same (g := g) (vs := vs) (w := w.setCell ⟨g, o, none⟩ v) (o := o + 1) (fun j hj => by
      obtain ⟨u, hu⟩ := h (j + 1) (by simp; omega)
      exact ⟨u, by rw [World.cell?_setCell_other _ _ _ _ (by intro e'; injection e' with _ e2; omega), show o + 1 + j = o + (j + 1) by omega]; exact hu⟩) i (by simpa using hi)
    rw [show o + 1 + i = o + (i + 1) by omega] at this
    rw [this]
    rfl
theorem setL_fr {g : Nat} : ∀ {vs : List Value} {w : World} {o : Nat} (a : Addr), (setL w g o vs).frozen? a = w.frozen? a
  | [], _, _, _ => rfl
  | v :: vs, w, o, a => by unfold setL; rw [setL_fr]; simp
theorem setL_size {g : Nat} : ∀ {vs : List Value} {w : World} {o : Nat}, (setL w g o vs).heap.size = w.heap.size
  | [], _, _ => rfl
  | v :: vs, w, o => by unfold setL; rw [setL_size]; simp
theorem setL_below {g B : Nat} (hg : B ≤ g) : ∀ {vs : List Value} {w u : World} {o : Nat}, Below B w u → Below B w (setL u g o vs)
  | [], _, _, _, h => h
  | v :: vs, w, u, o, h => by unfold setL; exact setL_below hg (h.setCell (p := ⟨g, o, none⟩) hg _)
theorem setL_block {g k : Nat} (hk : k ≠ g) : ∀ {vs : List Value} {w : World} {o : Nat}, (setL w g o vs).heap[k]? = w.heap[k]?
  | [], _, _ => rfl
  | v :: vs, w, o => by unfold setL; rw [setL_block hk, Below.heap_setCell _ _ _ _ hk]
theorem setL_grown {g : Nat} {w u : World} {o : Nat} {vs : List Value} (h : w.grownBy u (some g)) : w.grownBy (setL u g o vs) (some g) := by
  have hos : ∀ {vs : List Value} {u : World} {o : Nat}, (setL u g o vs).os = u.os ∧ (setL u g o vs).tape = u.tape ∧ (setL u g o vs).output = u.output := by
    intro vs
    induction vs with
    | nil => intro u o; exact ⟨rfl, rfl, rfl⟩
    | cons v vs ih => intro u o; unfold setL; obtain ⟨a, b, c⟩ := ih (u := u.setCell ⟨g, o, none⟩ v) (o := o + 1); exact ⟨a, b, c⟩
  obtain ⟨h1, h2, h3, h4, h5⟩ := h
  obtain ⟨e1, e2, e3⟩ := hos (vs := vs) (u := u) (o := o)
  exact ⟨e1.trans h1, e2.trans h2, e3.trans h3, by rw [setL_size]; exact h4, fun k hk hne => by rw [setL_block (by rintro rfl; exact hne rfl)]; exact h5 k hk hne⟩

/-- A subscriber. -/
structure Sb where
  id : Int
  st : Int
  cu : Int
  gt : Int
  lo : Int
  pa : Int
  fl : List Tm
/-- A subscriber in memory: where its filter lies. -/
structure Sa where
  s : Sb
  a : Option Addr
  n : Nat
  c : Nat
def Sa.zero : Sa := ⟨⟨0, 0, 0, 0, 0, 0, []⟩, none, 0, 0⟩
def sg (xs : List Sa) (i : Nat) : Sa := xs.getD i Sa.zero
def svs (xs : List Sa) : List Sb := xs.map (·.s)
abbrev sC (x : Sa) : List Value := [.int .i64 x.s.id, .int .i64 x.s.st, .int .i64 x.s.cu, .int .i64 x.s.gt, .int .i64 x.s.lo, .int .i64 x.s.pa, .slice x.a x.n x.c]
theorem sg_eq {l : List Sa} {i : Nat} (h : i < l.length) : sg l i = l[i] := by unfold sg; rw [List.getD_eq_getElem?_getD, List.getElem?_eq_getElem h]; rfl
theorem sg_mem {l : List Sa} {k : Nat} (h : k < l.length) : sg l k ∈ l := by rw [sg_eq h]; exact List.getElem_mem h
theorem sg_append_left {l m : List Sa} {i : Nat} (h : i < l.length) : sg (l ++ m) i = sg l i := by
  rw [sg_eq (by simp; omega), sg_eq h, List.getElem_append_left h]
theorem sg_snoc (l : List Sa) (x : Sa) : sg (l ++ [x]) l.length = x := by rw [sg_eq (by simp)]; simp
/-- The seven cells of one. -/
structure SCell (w : World) (b o : Nat) (x : Sa) : Prop where
  c0 : w.cell? ⟨b, o, none⟩ = some (.int .i64 x.s.id)
  c1 : w.cell? ⟨b, o + 1, none⟩ = some (.int .i64 x.s.st)
  c2 : w.cell? ⟨b, o + 2, none⟩ = some (.int .i64 x.s.cu)
  c3 : w.cell? ⟨b, o + 3, none⟩ = some (.int .i64 x.s.gt)
  c4 : w.cell? ⟨b, o + 4, none⟩ = some (.int .i64 x.s.lo)
  c5 : w.cell? ⟨b, o + 5, none⟩ = some (.int .i64 x.s.pa)
  c6 : w.cell? ⟨b, o + 6, none⟩ = some (.slice x.a x.n x.c)
theorem SCell.same {w u : World} {b o : Nat} {x : Sa} (h : SCell w b o x) (he : ∀ i, i < 7 → u.cell? ⟨b, o + i, none⟩ = w.cell? ⟨b, o + i, none⟩) : SCell u b o x :=
  ⟨(he 0 (by omega)).trans h.c0, (he 1 (by omega)).trans h.c1, (he 2 (by omega)).trans h.c2, (he 3 (by omega)).trans h.c3, (he 4 (by omega)).trans h.c4, (he 5 (by omega)).trans h.c5, (he 6 (by omega)).trans h.c6⟩
theorem SCell.below {w u : World} {b o B : Nat} {x : Sa} (h : SCell w b o x) (hb : Below B w u) (hB : b < B) : SCell u b o x := h.same fun i _ => hb.cell (p := ⟨b, o + i, none⟩) hB
theorem SCell.ofSet {w : World} {b o : Nat} (x : Sa) (h : ∀ i, i < 7 → ∃ v, w.cell? ⟨b, o + i, none⟩ = some v) : SCell (setL w b o (sC x)) b o x := by
  have k := setL_same (g := b) (vs := sC x) (w := w) (o := o) (fun i hi => h i (by simpa using hi))
  exact ⟨k 0 (by simp), k 1 (by simp), k 2 (by simp), k 3 (by simp), k 4 (by simp), k 5 (by simp), k 6 (by simp)⟩
/-- The slice at a, of n subscribers, reads as xs in w. -/
structure SubAt (w : World) (a : Option Addr) (n : Nat) (xs : List Sa) : Prop where
  len : xs.length = n
  fil : ∀ x, x ∈ xs → TmAt w x.a x.n x.s.fl
  row : n = 0 ∨ ∃ b off, a = some ⟨b, off, none⟩ ∧ b < w.heap.size ∧ ∀ i, i < n → SCell w b (off + i * 7) (sg xs i)
theorem SubAt.keep {w w' : World} {a : Option Addr} {n : Nat} {xs : List Sa} (h : SubAt w a n xs) (hb : Below w.heap.size w w') : SubAt w' a n xs := by
  refine ⟨h.len, fun x hx => (h.fil x hx).keep hb, ?_⟩
  rcases h.row with k | ⟨b, off, rfl, hlt, hc⟩
  · exact .inl k
  · exact .inr ⟨b, off, rfl, Nat.lt_of_lt_of_le hlt hb.size, fun i hi => (hc i hi).below hb hlt⟩
theorem SubAt.nil (w : World) (a : Option Addr) : SubAt w a 0 [] := ⟨rfl, fun p hp => (by cases hp), .inl rfl⟩
theorem SubAt.lt {w : World} {a : Option Addr} {n : Nat} {xs : List Sa} (h : SubAt w a n xs) : n = 0 ∨ ∀ b off, a = some ⟨b, off, none⟩ → b < w.heap.size := by
  rcases h.row with k | ⟨b, off, rfl, hlt, hc⟩
  · exact .inl k
  · exact .inr fun b' o' e => by cases e; exact hlt
/-- Two slices that share no block. -/
def Far (a : Option Addr) (n : Nat) (a' : Option Addr) (n' : Nat) : Prop := n = 0 ∨ n' = 0 ∨ ∀ b off b' off', a = some ⟨b, off, none⟩ → a' = some ⟨b', off', none⟩ → b ≠ b'
theorem Far.symm {a a' : Option Addr} {n n' : Nat} (h : Far a n a' n') : Far a' n' a n := by
  rcases h with h | h | h
  · exact .inr (.inl h)
  · exact .inl h
  · exact .inr (.inr fun b off b' off' e e' => (h b' off' b off e' e).symm)
/-- Its cells, and those of the filters, lie in blocks from B on, and may be written; no two lists share a block. -/
structure OwnS (B : Nat) (w : World) (a : Option Addr) (n : Nat) (xs : List Sa) : Prop where
  sub : SubAt w a n xs
  own : n = 0 ∨ ∃ b off, a = some ⟨b, off, none⟩ ∧ B ≤ b ∧ ∀ o, w.frozen? ⟨b, o, none⟩ = false
  fow : ∀ x, x ∈ xs → OwnF B w x.a x.n x.s.fl
  apt : xs.Pairwise fun x y => Far x.a x.n y.a y.n
  apa : ∀ x, x ∈ xs → Far a n x.a x.n
theorem OwnS.keep {B : Nat} {w w' : World} {a : Option Addr} {n : Nat} {xs : List Sa} (h : OwnS B w a n xs) (hb : Below w.heap.size w w') : OwnS B w' a n xs := by
  refine ⟨h.sub.keep hb, ?_, fun x hx => (h.fow x hx).keep hb, h.apt, h.apa⟩
  rcases h.own with k | ⟨b, off, rfl, hB, hf⟩
  · exact .inl k
  · rcases h.sub.row with k | ⟨b', off', e, hlt, _⟩
    · exact .inl k
    · cases e
      exact .inr ⟨b, off, rfl, hB, fun o => by rw [hb.frozen (p := ⟨b, o, none⟩) hlt]; exact hf o⟩
theorem OwnS.mono {B B' : Nat} {w : World} {a : Option Addr} {n : Nat} {xs : List Sa} (h : OwnS B w a n xs) (hB : B' ≤ B) : OwnS B' w a n xs := by
  refine ⟨h.sub, ?_, fun x hx => (h.fow x hx).mono hB, h.apt, h.apa⟩
  rcases h.own with k | ⟨b, off, rfl, hb, hf⟩
  · exact .inl k
  · exact .inr ⟨b, off, rfl, Nat.le_trans hB hb, hf⟩
/-- A new row in block g: its first places hold ys. -/
structure FillS (w : World) (g n : Nat) (ys : List Sa) (wr : World) : Prop where
  below : Below w.heap.size w wr
  ge : w.heap.size ≤ g
  lt : g < wr.heap.size
  le : ys.length ≤ n
  cells : ∀ j, j < n → ∀ i, i < 7 → ∃ v, wr.cell? ⟨g, j * 7 + i, none⟩ = some v
  done : ∀ j, j < ys.length → SCell wr g (j * 7) (sg ys j)
  fr : ∀ j, wr.frozen? ⟨g, j, none⟩ = false
  fow : ∀ x, x ∈ ys → OwnF (w.heap.size + 1) wr x.a x.n x.s.fl
  nog : ∀ x, x ∈ ys → x.n = 0 ∨ ∀ b off, x.a = some ⟨b, off, none⟩ → b ≠ g
  apt : ys.Pairwise fun x y => Far x.a x.n y.a y.n
theorem FillS.keep {w : World} {g n : Nat} {ys : List Sa} {wr u : World} (h : FillS w g n ys wr) (hb : Below wr.heap.size wr u) : FillS w g n ys u where
  below := bl_trans h.below hb
  ge := h.ge
  lt := Nat.lt_of_lt_of_le h.lt hb.size
  le := h.le
  cells := fun j hj i hi => by obtain ⟨v, hv⟩ := h.cells j hj i hi; exact ⟨v, by rw [hb.cell (p := ⟨g, j * 7 + i, none⟩) h.lt]; exact hv⟩
  done := fun j hj => (h.done j hj).below hb h.lt
  fr := fun j => by rw [hb.frozen (p := ⟨g, j, none⟩) h.lt]; exact h.fr j
  fow := fun x hx => (h.fow x hx).keep hb
  nog := h.nog
  apt := h.apt
/-- One more is laid down. -/
theorem FillS.step {w : World} {g n : Nat} {ys : List Sa} {wr : World} (h : FillS w g n ys wr) (hk : ys.length < n) (x : Sa) (hx : OwnF (w.heap.size + 1) wr x.a x.n x.s.fl) (hg : x.n = 0 ∨ ∀ b off, x.a = some ⟨b, off, none⟩ → b ≠ g) (hap : ∀ y, y ∈ ys → Far y.a y.n x.a x.n) :
    FillS w g n (ys ++ [x]) (setL wr g (ys.length * 7) (sC x)) where
  below := setL_below h.ge h.below
  ge := h.ge
  lt := by rw [setL_size]; exact h.lt
  le := by simp; omega
  cells := fun j hj i hi => by
    by_cases e : j = ys.length
    · subst e
      have k := setL_same (g := g) (vs := sC x) (w := wr) (o := ys.length * 7) (fun i hi => h.cells _ hj i (by simpa using hi)) i (by simpa using hi)
      exact ⟨_, k⟩
    · obtain ⟨v, hv⟩ := h.cells j hj i hi
      exact ⟨v, by rw [setL_other (by simp only [sC, List.length_cons, List.length_nil]; omega)]; exact hv⟩
  done := fun j hj => by
    simp only [List.length_append, List.length_singleton] at hj
    by_cases e : j = ys.length
    · subst e
      rw [sg_snoc]
      exact SCell.ofSet x (fun i hi => h.cells _ hk i hi)
    · rw [sg_append_left (by omega)]
      exact (h.done j (by omega)).same fun i hi => setL_other (by simp only [sC, List.length_cons, List.length_nil]; omega)
  fr := fun j => by rw [setL_fr]; exact h.fr j
  fow := fun y hy => by
    have hgr : wr.grownBy (setL wr g (ys.length * 7) (sC x)) (some g) := setL_grown ⟨rfl, rfl, rfl, Nat.le_refl _, fun _ _ _ => rfl⟩
    rcases List.mem_append.1 hy with hy | hy
    · exact (h.fow y hy).other hgr ((h.nog y hy).imp id fun k b off e => (k b off e).symm)
    · obtain rfl : y = x := by simpa using hy
      exact hx.other hgr (hg.imp id fun k b off e => (k b off e).symm)
  nog := fun y hy => by
    rcases List.mem_append.1 hy with hy | hy
    · exact h.nog y hy
    · obtain rfl : y = x := by simpa using hy
      exact hg
  apt := by
    rw [List.pairwise_append]
    exact ⟨h.apt, by simp, fun y hy z hz => (by obtain rfl : z = x := (by simpa using hz); exact hap y hy)⟩
theorem FillS.own {w : World} {g n : Nat} {ys : List Sa} {wr : World} (h : FillS w g n ys wr) (hl : ys.length = n) : OwnS w.heap.size wr (some ⟨g, 0, none⟩) n ys :=
  ⟨⟨hl, fun x hx => (h.fow x hx).tm, .inr ⟨g, 0, rfl, h.lt, fun i hi => by rw [Nat.zero_add]; exact h.done i (by omega)⟩⟩, .inr ⟨g, 0, rfl, h.ge, h.fr⟩, fun x hx => (h.fow x hx).mono (by omega), h.apt,
    fun x hx => by
      rcases h.nog x hx with k | k
      · exact .inr (.inl k)
      · exact .inr (.inr fun b off b' off' e e' => by cases e; exact (k b' off' e').symm)⟩
theorem FillS.start (w : World) (n : Nat) (t : TypeId) (z : Array Value) : FillS w w.heap.size n [] (w.alloc (.cells (madeCells z (n * 7)) t)) where
  below := bl_alloc (Below.refl _ _) _
  ge := Nat.le_refl _
  lt := by simp
  le := Nat.zero_le _
  cells := fun j hj i hi => by
    rw [World.cell?_alloc_new]
    exact ⟨(madeCells z (n * 7))[j * 7 + i]'(by rw [size_madeCells]; omega), by rw [Array.getElem?_eq_getElem]⟩
  done := fun j hj => by simp at hj
  fr := fun j => by simp [go_sem]
  fow := fun x hx => (by cases hx)
  nog := fun x hx => (by cases hx)
  apt := List.Pairwise.nil
end Go.Proofs.YtffpecdjfcgadaaGreatDoor
