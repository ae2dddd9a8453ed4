/-
  Slices of subscribers in memory: seven cells each, the last one a slic
  A variable of a struct type: its cells as a list; what leaves them alo
  Walks of the laws' own helpers on terms: weighed, marked, looked at ag
  Walks of the laws' own helpers on subscribers that are the same: compa
-/
import Derived.Test.YtdboaoejlkkoeaaGreatZPu1
namespace Go.Proofs.YtdboaoejlkkoeaaGreat
open Go.RowKit Pl Il
def setL (w : World) (g : Nat) : Nat → List Value → World
  | _, [] => w
  | o, v :: vs => setL (w.setCell ⟨g, o, none⟩ v) g (o + 1) vs
theorem setL_other {g : Nat} : ∀ {vs : List Value} {w : World} {o p : Nat}, (p < o ∨ o + vs.length ≤ p) → (setL w g o vs).cell? ⟨g, p, none⟩ = w.cell? ⟨g, p, none⟩
  | [], _, _, _, _ => rfl
  | v :: vs, w, o, p, h => by
    unfold setL
    simp only [List.length_cons] at h
    rw [setL_other (by omega), World.cell?_setCell_other _ _ _ _ (by intro e'; injection e' with _ e2; omega)]
theorem setL_same {g : Nat} : ∀ {vs : List Value} {w : World} {o : Nat}, (∀ i, i < vs.length → ∃ v, w.cell? ⟨g, o + i, none⟩ = some v) → ∀ i (hi : i < vs.length), (setL w g o vs).cell? ⟨g, o + i, none⟩ = some vs[i]
  | [], _, _, _, i, hi => by simp at hi
  | v :: vs, w, o, h, 0, _ => by
    unfold setL
    rw [setL_other (by left; omega)]
    obtain ⟨u, hu⟩ := h 0 (by simp)
    exact World.cell?_setCell_same _ _ _ hu
  | v :: vs, w, o, h, i + 1, hi => by
    unfold setL
    have := setL_same (g := g) (vs := vs) (w := w.setCell ⟨g, o, none⟩ v) (o := o + 1) (fun j hj => by
      obtain ⟨u, hu⟩ := h (j + 1) (by simp; omega)
      exact ⟨u, by rw [World.cell?_setCell_other _ _ _ _ (by intro e'; injection e' with _ e2; omega), show o + 1 + j = o + (j + 1) by omega]; exact hu⟩) i (by simpa using hi)
    rw [show o + 1 + i = o + (i + 1) by omega] at this
    rw [this]
    rfl
theorem setL_fr {g : Nat} : ∀ {vs : List Value} {w : World} {o : Nat} (a : Addr), (setL w g o vs).frozen? a = w.frozen? a
  | [], _, _, _ => rfl
  | v :: vs, w, o, a => by unfold setL; rw [setL_fr]; simp
theorem setL_size {g : Nat} : ∀ {vs : List Value} {w : World} {o : Nat}, (setL w g o vs).heap.size = w.heap.size
  | [], _, _ => rfl
  | v :: vs, w, o => by unfold setL; rw [setL_size]; simp
theorem setL_below {g B : Nat} (hg : B ≤ g) : ∀ {vs : List Value} {w u : World} {o : Nat}, Below B w u → Below B w (setL u g o vs)
  | [], _, _, _, h => h
  | v :: vs, w, u, o, h => by unfold setL; exact setL_below hg (h.setCell (p := ⟨g, o, none⟩) hg _)
theorem setL_block {g k : Nat} (hk : k ≠ g) : ∀ {vs : List Value} {w : World} {o : Nat}, (setL w g o vs).heap[k]? = w.heap[k]?
  | [], _, _ => rfl
  | v :: vs, w, o => by unfold setL; rw [setL_block hk, Below.heap_setCell _ _ _ _ hk]
theorem setL_grown {g : Nat} {w u : World} {o : Nat} {vs : List Value} (h : w.grownBy u (some g)) : w.grownBy (setL u g o vs) (some g) := by
  have hos : ∀ {vs : List Value} {u : World} {o : Nat}, (setL u g o vs).os = u.os ∧ (setL u g o vs).tape = u.tape ∧ (setL u g o vs).output = u.output := by
    intro vs
    induction vs with
    | nil => intro u o; exact ⟨rfl, rfl, rfl⟩
    | cons v vs ih => intro u o; unfold setL; obtain ⟨a, b, c⟩ := ih (u := u.setCell ⟨g, o, none⟩ v) (o := o + 1); exact ⟨a, b, c⟩
  obtain ⟨h1, h2, h3, h4, h5⟩ := h
  obtain ⟨e1, e2, e3⟩ := hos (vs := vs) (u := u) (o := o)
  exact ⟨e1.trans h1, e2.trans h2, e3.trans h3, by rw [setL_size]; exact h4, fun k hk hne => by rw [setL_block (by rintro rfl; exact hne rfl)]; exact h5 k hk hne⟩
structure Sb where
  id : Int
  st : Int
  cu : Int
  gt : Int
  lo : Int
  pa : Int
  fl : List Tm
structure Sa where
  s : Sb
  a : Option Addr
  n : Nat
  c : Nat
def Sa.zero : Sa := ⟨⟨0, 0, 0, 0, 0, 0, []⟩, none, 0, 0⟩
def sg (xs : List Sa) (i : Nat) : Sa := xs.getD i Sa.zero
def svs (xs : List Sa) : List Sb := xs.map (·.s)
abbrev sC (x : Sa) : List Value := [.int .i64 x.s.id, .int .i64 x.s.st, .int .i64 x.s.cu, .int .i64 x.s.gt, .int .i64 x.s.lo, .int .i64 x.s.pa, .slice x.a x.n x.c]
theorem sg_eq {l : List Sa} {i : Nat} (h : i < l.length) : sg l i = l[i] := by unfold sg; rw [List.getD_eq_getElem?_getD, List.getElem?_eq_getElem h]; rfl
theorem sg_mem {l : List Sa} {k : Nat} (h : k < l.length) : sg l k ∈ l := by rw [sg_eq h]; exact List.getElem_mem h
theorem sg_append_left {l m : List Sa} {i : Nat} (h : i < l.length) : sg (l ++ m) i = sg l i := by
  rw [sg_eq (by simp; omega), sg_eq h, List.getElem_append_left h]
theorem sg_snoc (l : List Sa) (x : Sa) : sg (l ++ [x]) l.length = x := by rw [sg_eq (by simp)]; simp
structure SCell (w : World) (b o : Nat) (x : Sa) : Prop where
  c0 : w.cell? ⟨b, o, none⟩ = some (.int .i64 x.s.id)
  c1 : w.cell? ⟨b, o + 1, none⟩ = some (.int .i64 x.s.st)
  c2 : w.cell? ⟨b, o + 2, none⟩ = some (.int .i64 x.s.cu)
  c3 : w.cell? ⟨b, o + 3, none⟩ = some (.int .i64 x.s.gt)
  c4 : w.cell? ⟨b, o + 4, none⟩ = some (.int .i64 x.s.lo)
  c5 : w.cell? ⟨b, o + 5, none⟩ = some (.int .i64 x.s.pa)
  c6 : w.cell? ⟨b, o + 6, none⟩ = some (.slice x.a x.n x.c)
theorem SCell.same {w u : World} {b o : Nat} {x : Sa} (h : SCell w b o x) (he : ∀ i, i < 7 → u.cell? ⟨b, o + i, none⟩ = w.cell? ⟨b, o + i, none⟩) : SCell u b o x :=
  ⟨(he 0 (by omega)).trans h.c0, (he 1 (by omega)).trans h.c1, (he 2 (by omega)).trans h.c2, (he 3 (by omega)).trans h.c3, (he 4 (by omega)).trans h.c4, (he 5 (by omega)).trans h.c5, (he 6 (by omega)).trans h.c6⟩
theorem SCell.below {w u : World} {b o B : Nat} {x : Sa} (h : SCell w b o x) (hb : Below B w u) (hB : b < B) : SCell u b o x := h.same fun i _ => hb.cell (p := ⟨b, o + i, none⟩) hB
theorem SCell.ofSet {w : World} {b o : Nat} (x : Sa) (h : ∀ i, i < 7 → ∃ v, w.cell? ⟨b, o + i, none⟩ = some v) : SCell (setL w b o (sC x)) b o x := by
  have k := setL_same (g := b) (vs := sC x) (w := w) (o := o) (fun i hi => h i (by simpa using hi))
  exact ⟨k 0 (by simp), k 1 (by simp), k 2 (by simp), k 3 (by simp), k 4 (by simp), k 5 (by simp), k 6 (by simp)⟩
structure SubAt (w : World) (a : Option Addr) (n : Nat) (xs : List Sa) : Prop where
  len : xs.length = n
  fil : ∀ x, x ∈ xs → TmAt w x.a x.n x.s.fl
  row : n = 0 ∨ ∃ b off, a = some ⟨b, off, none⟩ ∧ b < w.heap.size ∧ ∀ i, i < n → SCell w b (off + i * 7) (sg xs i)
theorem SubAt.keep {w w' : World} {a : Option Addr} {n : Nat} {xs : List Sa} (h : SubAt w a n xs) (hb : Below w.heap.size w w') : SubAt w' a n xs := by
  refine ⟨h.len, fun x hx => (h.fil x hx).keep hb, ?_⟩
  rcases h.row with k | ⟨b, off, rfl, hlt, hc⟩
  · exact .inl k
  · exact .inr ⟨b, off, rfl, Nat.lt_of_lt_of_le hlt hb.size, fun i hi => (hc i hi).below hb hlt⟩
theorem SubAt.nil (w : World) (a : Option Addr) : SubAt w a 0 [] := ⟨rfl, fun p hp => (by cases hp), .inl rfl⟩
theorem SubAt.lt {w : World} {a : Option Addr} {n : Nat} {xs : List Sa} (h : SubAt w a n xs) : n = 0 ∨ ∀ b off, a = some ⟨b, off, none⟩ → b < w.heap.size := by
  rcases h.row with k | ⟨b, off, rfl, hlt, hc⟩
  · exact .inl k
  · exact .inr fun b' o' e => by cases e; exact hlt
def Far (a : Option Addr) (n : Nat) (a' : Option Addr) (n' : Nat) : Prop := n = 0 ∨ n' = 0 ∨ ∀ b off b' off', a = some ⟨b, off, none⟩ → a' = some ⟨b', off', none⟩ → b ≠ b'
theorem Far.symm {a a' : Option Addr} {n n' : Nat} (h : Far a n a' n') : Far a' n' a n := by
  rcases h with h | h | h
  · exact .inr (.inl h)
  · exact .inl h
  · exact .inr (.inr fun b off b' off' e e' => (h b' off' b off e' e).symm)
structure OwnS (B : Nat) (w : World) (a : Option Addr) (n : Nat) (xs : List Sa) : Prop where
  sub : SubAt w a n xs
  own : n = 0 ∨ ∃ b off, a = some ⟨b, off, none⟩ ∧ B ≤ b ∧ ∀ o, w.frozen? ⟨b, o, none⟩ = false
  fow : ∀ x, x ∈ xs → OwnF B w x.a x.n x.s.fl
  apt : xs.Pairwise fun x y => Far x.a x.n y.a y.n
  apa : ∀ x, x ∈ xs → Far a n x.a x.n
theorem OwnS.keep {B : Nat} {w w' : World} {a : Option Addr} {n : Nat} {xs : List Sa} (h : OwnS B w a n xs) (hb : Below w.heap.size w w') : OwnS B w' a n xs := by
  refine ⟨h.sub.keep hb, ?_, fun x hx => (h.fow x hx).keep hb, h.apt, h.apa⟩
  rcases h.own with k | ⟨b, off, rfl, hB, hf⟩
  · exact .inl k
  · rcases h.sub.row with k | ⟨b', off', e, hlt, _⟩
    · exact .inl k
    · cases e
      exact .inr ⟨b, off, rfl, hB, fun o => by rw [hb.frozen (p := ⟨b, o, none⟩) hlt]; exact hf o⟩
theorem OwnS.mono {B B' : Nat} {w : World} {a : Option Addr} {n : Nat} {xs : List Sa} (h : OwnS B w a n xs) (hB : B' ≤ B) : OwnS B' w a n xs := by
  refine ⟨h.sub, ?_, fun x hx => (h.fow x hx).mono hB, h.apt, h.apa⟩
  rcases h.own with k | ⟨b, off, rfl, hb, hf⟩
  · exact .inl k
  · exact .inr ⟨b, off, rfl, Nat.le_trans hB hb, hf⟩
structure FillS (w : World) (g n : Nat) (ys : List Sa) (wr : World) : Prop where
  below : Below w.heap.size w wr
  ge : w.heap.size ≤ g
  lt : g < wr.heap.size
  le : ys.length ≤ n
  cells : ∀ j, j < n → ∀ i, i < 7 → ∃ v, wr.cell? ⟨g, j * 7 + i, none⟩ = some v
  done : ∀ j, j < ys.length → SCell wr g (j * 7) (sg ys j)
  fr : ∀ j, wr.frozen? ⟨g, j, none⟩ = false
  fow : ∀ x, x ∈ ys → OwnF (w.heap.size + 1) wr x.a x.n x.s.fl
  nog : ∀ x, x ∈ ys → x.n = 0 ∨ ∀ b off, x.a = some ⟨b, off, none⟩ → b ≠ g
  apt : ys.Pairwise fun x y => Far x.a x.n y.a y.n
theorem FillS.keep {w : World} {g n : Nat} {ys : List Sa} {wr u : World} (h : FillS w g n ys wr) (hb : Below wr.heap.size wr u) : FillS w g n ys u where
  below := bl_trans h.below hb
  ge := h.ge
  lt := Nat.lt_of_lt_of_le h.lt hb.size
  le := h.le
  cells := fun j hj i hi => by obtain ⟨v, hv⟩ := h.cells j hj i hi; exact ⟨v, by rw [hb.cell (p := ⟨g, j * 7 + i, none⟩) h.lt]; exact hv⟩
  done := fun j hj => (h.done j hj).below hb h.lt
  fr := fun j => by rw [hb.frozen (p := ⟨g, j, none⟩) h.lt]; exact h.fr j
  fow := fun x hx => (h.fow x hx).keep hb
  nog := h.nog
  apt := h.apt
theorem FillS.step {w : World} {g n : Nat} {ys : List Sa} {wr : World} (h : FillS w g n ys wr) (hk : ys.length < n) (x : Sa) (hx : OwnF (w.heap.size + 1) wr x.a x.n x.s.fl) (hg : x.n = 0 ∨ ∀ b off, x.a = some ⟨b, off, none⟩ → b ≠ g) (hap : ∀ y, y ∈ ys → Far y.a y.n x.a x.n) :
    FillS w g n (ys ++ [x]) (setL wr g (ys.length * 7) (sC x)) where
  below := setL_below h.ge h.below
  ge := h.ge
  lt := by rw [setL_size]; exact h.lt
  le := by simp; omega
  cells := fun j hj i hi => by
    by_cases e : j = ys.length
    · subst e
      have k := setL_same (g := g) (vs := sC x) (w := wr) (o := ys.length * 7) (fun i hi => h.cells _ hj i (by simpa using hi)) i (by simpa using hi)
      exact ⟨_, k⟩
    · obtain ⟨v, hv⟩ := h.cells j hj i hi
      exact ⟨v, by rw [setL_other (by simp only [sC, List.length_cons, List.length_nil]; omega)]; exact hv⟩
  done := fun j hj => by
    simp only [List.length_append, List.length_singleton] at hj
    by_cases e : j = ys.length
    · subst e
      rw [sg_snoc]
      exact SCell.ofSet x (fun i hi => h.cells _ hk i hi)
    · rw [sg_append_left (by omega)]
      exact (h.done j (by omega)).same fun i hi => setL_other (by simp only [sC, List.length_cons, List.length_nil]; omega)
  fr := fun j => by rw [setL_fr]; exact h.fr j
  fow := fun y hy => by
    have hgr : wr.grownBy (setL wr g (ys.length * 7) (sC x)) (some g) := setL_grown ⟨rfl, rfl, rfl, Nat.le_refl _, fun _ _ _ => rfl⟩
    rcases List.mem_append.1 hy with hy | hy
    · exact (h.fow y hy).other hgr ((h.nog y hy).imp id fun k b off e => (k b off e).symm)
    · obtain rfl : y = x := by simpa using hy
      exact hx.other hgr (hg.imp id fun k b off e => (k b off e).symm)
  nog := fun y hy => by
    rcases List.mem_append.1 hy with hy | hy
    · exact h.nog y hy
    · obtain rfl : y = x := by simpa using hy
      exact hg
  apt := by
    rw [List.pairwise_append]
    exact ⟨h.apt, by simp, fun y hy z hz => (by obtain rfl : z = x := (by simpa using hz); exact hap y hy)⟩
theorem FillS.own {w : World} {g n : Nat} {ys : List Sa} {wr : World} (h : FillS w g n ys wr) (hl : ys.length = n) : OwnS w.heap.size wr (some ⟨g, 0, none⟩) n ys :=
  ⟨⟨hl, fun x hx => (h.fow x hx).tm, .inr ⟨g, 0, rfl, h.lt, fun i hi => by rw [Nat.zero_add]; exact h.done i (by omega)⟩⟩, .inr ⟨g, 0, rfl, h.ge, h.fr⟩, fun x hx => (h.fow x hx).mono (by omega), h.apt,
    fun x hx => by
      rcases h.nog x hx with k | k
      · exact .inr (.inl k)
      · exact .inr (.inr fun b off b' off' e e' => by cases e; exact (k b' off' e').symm)⟩
theorem FillS.start (w : World) (n : Nat) (t : TypeId) (z : Array Value) : FillS w w.heap.size n [] (w.alloc (.cells (madeCells z (n * 7)) t)) where
  below := bl_alloc (Below.refl _ _) _
  ge := Nat.le_refl _
  lt := by simp
  le := Nat.zero_le _
  cells := fun j hj i hi => by
    rw [World.cell?_alloc_new]
    exact ⟨(madeCells z (n * 7))[j * 7 + i]'(by rw [size_madeCells]; omega), by rw [Array.getElem?_eq_getElem]⟩
  done := fun j hj => by simp at hj
  fr := fun j => by simp [go_sem]
  fow := fun x hx => (by cases hx)
  nog := fun x hx => (by cases hx)
  apt := List.Pairwise.nil
open Go.RowKit Pl Il
theorem bl_setB {B : Nat} {w u : World} (h : Below B w u) (N o : Nat) (hN : B ≤ N) (v : Value) : Below B w (u.setCell ⟨N, o, none⟩ v) := h.setCell (p := ⟨N, o, none⟩) hN v
structure BoxL (N : Nat) (vs : List Value) (w : World) : Prop where
  lt : N < w.heap.size
  cs : ∀ i (hi : i < vs.length), w.cell? ⟨N, i, none⟩ = some vs[i]
  fr : ∀ o, w.frozen? ⟨N, o, none⟩ = false
section
variable {N : Nat} {vs : List Value} {w w' : World}
theorem BoxL.new (w : World) (vs : List Value) (t : TypeId) : BoxL w.heap.size vs (w.alloc (.cells vs.toArray t)) :=
  ⟨by simp, fun i hi => by rw [World.cell?_alloc_new]; simp [hi], fun o => by simp [go_sem]⟩
theorem BoxL.of_block (h : BoxL N vs w) (key : w'.heap[N]? = w.heap[N]?) (hs : N < w'.heap.size) : BoxL N vs w' :=
  ⟨hs, fun i hi => by rw [← h.cs i hi]; exact World.cell?_of_block key, fun o => by rw [← h.fr o]; exact World.frozen?_of_block key⟩
theorem BoxL.below {B : Nat} (h : BoxL N vs w) (hb : Below B w w') (hN : N < B) : BoxL N vs w' := h.of_block (hb.block N hN) (Nat.lt_of_lt_of_le h.lt hb.size)
theorem BoxL.keep (h : BoxL N vs w) (hb : Below w.heap.size w w') : BoxL N vs w' := h.below hb h.lt
theorem BoxL.alloc (h : BoxL N vs w) (o : Obj) : BoxL N vs (w.alloc o) := h.keep (bl_alloc (Below.refl _ _) o)
theorem BoxL.far (h : BoxL N vs w) (M o : Nat) (hM : N ≠ M) (y : Value) : BoxL N vs (w.setCell ⟨M, o, none⟩ y) := h.of_block (Below.heap_setCell w ⟨M, o, none⟩ y N hM) (by simpa using h.lt)
theorem BoxL.grown {g : Option Nat} (h : BoxL N vs w) (hg : w.grownBy w' g) (hN : g ≠ some N) : BoxL N vs w' := h.of_block (hg.block N h.lt (fun e => hN e.symm)) (Nat.lt_of_lt_of_le h.lt hg.size)
theorem BoxL.set (h : BoxL N vs w) (i : Nat) (hi : i < vs.length) (v : Value) : BoxL N (vs.set i v) (w.setCell ⟨N, i, none⟩ v) := by
  refine ⟨by simpa using h.lt, fun j hj => ?_, fun o => by simpa using h.fr o⟩
  have hj' : j < vs.length := by simpa using hj
  by_cases e : j = i
  · subst e
    rw [World.cell?_setCell_same _ _ _ (h.cs j hj')]
    simp
  · rw [World.cell?_setCell_other _ _ _ _ (by intro e'; injection e' with _ e2; exact e e2.symm), h.cs j hj', List.getElem_set_ne (by omega)]
end
open Go.RowKit Pl Il
theorem szTerm_any (p : Tm) (l : Int) (w : World) (hm : p.2.2.size ≤ maxLen) (h0 : 0 ≤ l) (h1 : l ≤ 1048576) :
    Calls Tryz.prog 125 #[qV p, .int .i64 l] w fun e w' => e = .returned (.int .i64 (if l < (p.2.2.size : Int) then -1 else l - (p.2.2.size : Int))) ∧ Below w.heap.size w w' := by
  obtain ⟨x, y, s⟩ := p
  unfold qV
  unfold maxLen at hm
  simp only at hm ⊢
  have hb : Below w.heap.size w (w.alloc (.cells #[.int .i64 x, .int .i64 y, .string s] 131)) := bl_alloc (Below.refl _ _) _
  by_cases h : l < (s.size : Int)
  · have h' : l - (s.size : Int) < 0 := by omega
    go_enter Tryz.func125, Tryz.ntmps125
    go_wp2
    go_ret
    exact ⟨rint (by simp), hb⟩
  · have h' : ¬ l - (s.size : Int) < 0 := by omega
    go_enter Tryz.func125, Tryz.ntmps125
    go_wp2
    go_ret
    exact ⟨rint (by simp), hb⟩
def SzF (n : Nat) (e : Ending) : Prop := ∃ k : Int, e = .returned (.int .i64 k) ∧ (k < 0 ∨ 0 ≤ k ∧ k ≤ 1048576 ∧ n ≤ 1048576)
set_option maxHeartbeats 1000000 in
theorem szTermS_any (a : Option Addr) (n c : Nat) (ts : List Tm) (l : Int) (w : World) (hI : TmAt w a n ts) (hn : n ≤ 9223372036854775807) (l0 : 0 ≤ l) (l1 : l ≤ 1048576) :
    Calls Tryz.prog 56 #[.slice a n c, .int .i64 l] w fun e w' => SzF n e ∧ Below w.heap.size w w' := by
  by_cases h : l < (n : Int)
  · have h' : l - (n : Int) < 0 := by omega
    clear hI
    go_enter Tryz.func56, Tryz.ntmps56
    go_wp2
    go_ret
    exact ⟨⟨_, rfl, .inl (by omega)⟩, Below.refl _ _⟩
  · have h' : ¬ l - (n : Int) < 0 := by omega
    have hn2 : n ≤ 1048576 := by omega
    obtain ⟨hlen, hsh, hr⟩ := hI
    have HS := hidOf hsh
    have HL := hidOf hlen
    have HR := hidOf hr
    clear hsh hlen hr
    go_enter Tryz.func56, Tryz.ntmps56
    go_wp2
    go_loopw [1, 5] (fun x i wr => ∃ (k : Nat) (y : Int), k ≤ n ∧ i = .int .i64 k ∧ x = .int .i64 y ∧ 0 ≤ y ∧ y ≤ 1048576 ∧ Below w.heap.size w wr) (fun _ i _ => n - (intOf i).toNat)
    case atStart => exact ⟨0, _, Nat.zero_le _, rfl, rfl, by omega, by omega, Below.refl _ _⟩
    case round =>
      rename_i wr
      obtain ⟨k, y, hk, rfl, rfl, y0, y1, hB⟩ := hrel
      by_cases hlt : k < n
      · obtain hr | ⟨b, off, rfl, hb, hcell⟩ := HR.out
        · omega
        obtain ⟨q0, q1, q2⟩ := hcell k hlt
        have hc := cellK q0 (hB.mono (by omega))
        have hc2 := cellK q1 hB
        have hc3 := cellK q2 hB
        have HC := fun u => hidOf (szTerm_any (qg ts k) y u (HS.out _ (qg_mem (by rw [HL.out]; exact hlt))) y0 y1)
        unfold qV at HC
        obtain ⟨z, hz⟩ : ∃ z, qg ts k = z := ⟨_, rfl⟩
        rw [hz] at hc hc2 hc3 HC
        clear hz hcell q0 q1 q2
        go_wp2_with fail
        refine ((HC _).out).mono ?_
        rintro e w1 ⟨rfl, hb1⟩
        have hB1 := bl_trans hB hb1
        clear HC hc hc2 hc3 hb1 hB
        by_cases hg : y < (z.2.2.size : Int)
        · rw [if_pos hg]
          go_wp2
          go_ret
          exact ⟨⟨_, rfl, .inl (by omega)⟩, hB1⟩
        · rw [if_neg hg]
          have hg' : ¬ y - (z.2.2.size : Int) < 0 := by omega
          go_wp2
          go_roundw
          case rel => exact ⟨k + 1, _, by omega, by go_num, rfl, by omega, by omega, hB1⟩
          case measure => simp [intOf]; omega
      · go_wp2
        go_ret
        exact ⟨⟨_, rfl, .inr ⟨y0, y1, hn2⟩⟩, hB⟩
def digB (k : Nat) : ByteArray := strOfNums [48 + (k : Int) % 10]
def mGo : Nat → Nat → ByteArray → ByteArray
  | 0, _, o => o
  | f + 1, k, o => if k = 0 then o else mGo f (k / 10) (digB k ++ o)
def mkT (k : Nat) : ByteArray := ⟨#[109]⟩ ++ mGo k k ⟨#[]⟩
theorem mGo_size : ∀ (f k : Nat) (o : ByteArray), (mGo f k o).size ≤ f + o.size
  | 0, _, o => by simp [mGo]
  | f + 1, k, o => by
    unfold mGo
    split
    · omega
    · have := mGo_size f (k / 10) (digB k ++ o)
      rw [ByteArray.size_append] at this
      have h1 : (digB k).size = 1 := rfl
      omega
theorem mGo_zero (f : Nat) (o : ByteArray) : mGo f 0 o = o := by cases f <;> simp [mGo]
theorem mkT_size (k : Nat) : (mkT k).size ≤ k + 1 := by
  unfold mkT
  rw [ByteArray.size_append]
  have h1 : (⟨#[109]⟩ : ByteArray).size = 1 := rfl
  have := mGo_size k k ⟨#[]⟩
  have h2 : (⟨#[]⟩ : ByteArray).size = 0 := rfl
  omega
def marksF (k n : Nat) : List Tm := (List.range n).map fun (i : Nat) => (((k + 3 * i : Nat) : Int), ((k + 3 * i + 1 : Nat) : Int), mkT (k + 3 * i + 2))
theorem marksF_len (k n : Nat) : (marksF k n).length = n := by simp [marksF]
theorem marksF_get {k n j : Nat} (h : j < n) : qg (marksF k n) j = (((k + 3 * j : Nat) : Int), ((k + 3 * j + 1 : Nat) : Int), mkT (k + 3 * j + 2)) := by
  simp [marksF, qg, List.getD, List.getElem?_map, List.getElem?_range h]
theorem marksF_short {k n : Nat} (h : k + 3 * n ≤ 4000000000000000000) : ∀ p, p ∈ marksF k n → p.2.2.size ≤ maxLen := fun p hp => by
  simp only [marksF, List.mem_map, List.mem_range] at hp
  obtain ⟨i, hi, rfl⟩ := hp
  have := mkT_size (k + 3 * i + 2)
  unfold maxLen
  simp only
  omega
structure MarkF (w : World) (b off n k m : Nat) (wr : World) : Prop where
  ex : w.grownBy wr (some b)
  lt : b < wr.heap.size
  cells : ∀ j, j < n → ∃ v0 v1 v2, wr.cell? ⟨b, off + j * 3, none⟩ = some v0 ∧ wr.cell? ⟨b, off + j * 3 + 1, none⟩ = some v1 ∧ wr.cell? ⟨b, off + j * 3 + 2, none⟩ = some v2 ∧ (j < m → v0 = .int .i64 ((k + 3 * j : Nat) : Int) ∧ v1 = .int .i64 ((k + 3 * j + 1 : Nat) : Int) ∧ v2 = .string (mkT (k + 3 * j + 2)))
  fr : ∀ j, wr.frozen? ⟨b, j, none⟩ = false
theorem grown_keep {w w' u : World} {r : Option Nat} (h : w.grownBy w' r) (hb : Below w'.heap.size w' u) : w.grownBy u r :=
  ⟨hb.os.trans h.os, hb.tape.trans h.tape, hb.output.trans h.output, Nat.le_trans h.size hb.size, fun k hk hne => (hb.block k (Nat.lt_of_lt_of_le hk h.size)).trans (h.block k hk hne)⟩
theorem MarkF.step {w : World} {b off n k m : Nat} {wr : World} (h : MarkF w b off n k m wr) : MarkF w b off n k (m + 1) (set3 wr b (off + m * 3) (.int .i64 ((k + 3 * m : Nat) : Int)) (.int .i64 ((k + 3 * m + 1 : Nat) : Int)) (.string (mkT (k + 3 * m + 2)))) where
  ex := set3_grown h.ex _ _ _
  lt := by rw [set3_size]; exact h.lt
  cells := fun j hj => by
    obtain ⟨v0, v1, v2, h0, h1, h2, hk⟩ := h.cells j hj
    by_cases e : j = m
    · subst e
      obtain ⟨q0, q1, q2⟩ := set3_same (x := .int .i64 ((k + 3 * j : Nat) : Int)) (y := .int .i64 ((k + 3 * j + 1 : Nat) : Int)) (z := .string (mkT (k + 3 * j + 2))) h0 h1 h2
      exact ⟨_, _, _, q0, q1, q2, fun _ => ⟨rfl, rfl, rfl⟩⟩
    · exact ⟨v0, v1, v2, by rw [set3_other (by omega)]; exact h0, by rw [set3_other (by omega)]; exact h1, by rw [set3_other (by omega)]; exact h2, fun hlt => hk (by omega)⟩
  fr := fun j => by rw [set3_fr]; exact h.fr j
def TurnF (a : Option Addr) (n : Nat) (w w' : World) : Prop := n = 0 ∧ Below w.heap.size w w' ∨ 0 < n ∧ ∃ b off, a = some ⟨b, off, none⟩ ∧ w.grownBy w' (some b)
open Go.RowKit Pl Il
theorem eqSub_same (s : Sb) (a a' : Option Addr) (n n' c c' : Nat) (w : World) (hI : TmAt w a n s.fl) (hJ : TmAt w a' n' s.fl) (hn : n ≤ 2097152) (hn' : n' ≤ 2097152) :
    Calls Tryz.prog 165 #[.agg #[.int .i64 s.id, .int .i64 s.st, .int .i64 s.cu, .int .i64 s.gt, .int .i64 s.lo, .int .i64 s.pa, .slice a n c], .agg #[.int .i64 s.id, .int .i64 s.st, .int .i64 s.cu, .int .i64 s.gt, .int .i64 s.lo, .int .i64 s.pa, .slice a' n' c']] w fun e w' => e = .returned (.bool true) ∧ Below w.heap.size w w' := by
  obtain ⟨i0, i1, i2, i3, i4, i5, fl⟩ := s
  simp only at hI hJ ⊢
  have hB : Below w.heap.size w ((w.alloc (.cells #[.int .i64 i0, .int .i64 i1, .int .i64 i2, .int .i64 i3, .int .i64 i4, .int .i64 i5, .slice a n c] 41)).alloc (.cells #[.int .i64 i0, .int .i64 i1, .int .i64 i2, .int .i64 i3, .int .i64 i4, .int .i64 i5, .slice a' n' c'] 41)) := bl_alloc (bl_alloc (Below.refl _ _) _) _
  have HI := hidOf (hI.keep hB)
  have HJ := hidOf (hJ.keep hB)
  have HB := hidOf hB
  clear hI hJ hB
  go_enter Tryz.func165, Tryz.ntmps165
  go_wp2_with fail
  refine (eqTermS_any a a' n n' c c' fl fl _ HI.out HJ.out hn hn').mono ?_
  rintro e w1 ⟨rfl, hb1⟩
  rw [eqFL_self]
  have hB1 := bl_trans HB.out hb1
  clear hb1 HB HI HJ
  go_wp2
  go_ret
  exact ⟨rfl, hB1⟩
abbrev EqS (b o b' o' : Nat) (x y : Sa) (w0 w : World) : Prop :=
  w.cell? ⟨b, o, none⟩ = some (.int .i64 x.s.id) ∧ w.cell? ⟨b, o + 1, none⟩ = some (.int .i64 x.s.st) ∧ w.cell? ⟨b, o + 2, none⟩ = some (.int .i64 x.s.cu) ∧ w.cell? ⟨b, o + 3, none⟩ = some (.int .i64 x.s.gt) ∧ w.cell? ⟨b, o + 4, none⟩ = some (.int .i64 x.s.lo) ∧ w.cell? ⟨b, o + 5, none⟩ = some (.int .i64 x.s.pa) ∧ w.cell? ⟨b, o + 6, none⟩ = some (.slice x.a x.n x.c) ∧
  w.cell? ⟨b', o', none⟩ = some (.int .i64 x.s.id) ∧ w.cell? ⟨b', o' + 1, none⟩ = some (.int .i64 x.s.st) ∧ w.cell? ⟨b', o' + 2, none⟩ = some (.int .i64 x.s.cu) ∧ w.cell? ⟨b', o' + 3, none⟩ = some (.int .i64 x.s.gt) ∧ w.cell? ⟨b', o' + 4, none⟩ = some (.int .i64 x.s.lo) ∧ w.cell? ⟨b', o' + 5, none⟩ = some (.int .i64 x.s.pa) ∧ w.cell? ⟨b', o' + 6, none⟩ = some (.slice y.a y.n y.c) ∧ Below w0.heap.size w0 w
theorem EqS.keep {b o b' o' : Nat} {x y : Sa} {w0 w w' : World} (h : EqS b o b' o' x y w0 w) (q : Below w.heap.size w w') : EqS b o b' o' x y w0 w' := by
  obtain ⟨h0, h1, h2, h3, h4, h5, h6, k0, k1, k2, k3, k4, k5, k6, hb⟩ := h
  exact ⟨cellK h0 q, cellK h1 q, cellK h2 q, cellK h3 q, cellK h4 q, cellK h5 q, cellK h6 q, cellK k0 q, cellK k1 q, cellK k2 q, cellK k3 q, cellK k4 q, cellK k5 q, cellK k6 q, bl_trans hb q⟩
theorem EqS.drew {b o b' o' : Nat} {x y : Sa} {w0 w : World} (h : EqS b o b' o' x y w0 w) : EqS b o b' o' x y w0 w.drew := h.keep (Below.refl _ _).drew
theorem EqS.bel {b o b' o' : Nat} {x y : Sa} {w0 w : World} (h : EqS b o b' o' x y w0 w) : Below w0.heap.size w0 w := h.2.2.2.2.2.2.2.2.2.2.2.2.2.2
theorem svs_at {xs ys : List Sa} (h : svs xs = svs ys) {k : Nat} (hk : k < xs.length) : (sg ys k).s = (sg xs k).s := by
  have hl : xs.length = ys.length := by have := congrArg List.length h; simpa [svs] using this
  rw [sg_eq hk, sg_eq (by omega)]
  have h1 : (svs xs)[k]? = (svs ys)[k]? := by rw [h]
  simp only [svs, List.getElem?_map, List.getElem?_eq_getElem hk, List.getElem?_eq_getElem (show k < ys.length by omega), Option.map_some] at h1
  injection h1 with h1
  exact h1.symm
set_option maxHeartbeats 4000000 in
theorem eqSubS_same (a a' : Option Addr) (n cap cap' : Nat) (xs ys : List Sa) (w : World) (hI : SubAt w a n xs) (hJ : SubAt w a' n ys) (hs : svs xs = svs ys) (hn : n ≤ 2097152) (hf : ∀ x, x ∈ xs → x.n ≤ 2097152) (hf' : ∀ y, y ∈ ys → y.n ≤ 2097152) :
  Calls Tryz.prog 120 #[.slice a n cap, .slice a' n cap'] w fun e w' => e = .returned (.bool true) ∧ Below w.heap.size w w' := by
 by_cases h0 : n = 0
 ·subst h0
  clear hI hJ hf hf' hs
  go_enter Tryz.func120, Tryz.ntmps120
  go_wp2
  go_loop [5] (fun i => i = .int .i64 0) (fun _ => 0)
  case atStart => rfl
  case round =>
   subst hrel
   go_wp2
   go_ret
   exact ⟨rfl, Below.refl _ _⟩
 ·obtain ⟨hlen, hfil, hr | ⟨b, off, rfl, hb, hcell⟩⟩ := hI
  ·omega
  obtain ⟨hlen', hfil', hr | ⟨b', off', rfl, hb', hcell'⟩⟩ := hJ
  ·omega
  have HL := hidOf hlen
  have HL' := hidOf hlen'
  have HS := hidOf hs
  have HFi := hidOf hfil
  have HFi' := hidOf hfil'
  have HFn := hidOf hf
  have HFn' := hidOf hf'
  clear hlen hlen' hs hfil hfil' hf hf'
  go_enter Tryz.func120, Tryz.ntmps120
  go_wp2
  go_loopw [5] (fun i wr => ∃ k : Nat, k ≤ n ∧ i = .int .i64 k ∧ Below w.heap.size w wr) (fun i _ => n - (intOf i).toNat)
  case atStart => exact ⟨0, Nat.zero_le _, rfl, Below.refl _ _⟩
  case round =>
   rename_i wr
   obtain ⟨k, hk, rfl, hB⟩ := hrel
   by_cases hlt : k < n
   ·have hc := (hcell k hlt).below hB hb
    have hc' := (hcell' k hlt).below hB hb'
    have hse := svs_at HS.out (k := k) (by rw [HL.out]; exact hlt)
    have hm := sg_mem (l := xs) (k := k) (by rw [HL.out]; exact hlt)
    have hm' := sg_mem (l := ys) (k := k) (by rw [HL'.out]; exact hlt)
    have t1 := HFi.out _ hm
    have t2 := HFi'.out _ hm'
    have n1 := HFn.out _ hm
    have n2 := HFn'.out _ hm'
    obtain ⟨x, hx⟩ : ∃ x, sg xs k = x := ⟨_, rfl⟩
    obtain ⟨y, hy⟩ : ∃ y, sg ys k = y := ⟨_, rfl⟩
    rw [hx] at hc t1 n1 hse
    rw [hy] at hc' t2 n2 hse
    rw [hse] at t2
    have hS : EqS b (off + k * 7) b' (off' + k * 7) x y w wr := ⟨hc.c0, hc.c1, hc.c2, hc.c3, hc.c4, hc.c5, hc.c6, by rw [← hse]; exact hc'.c0, by rw [← hse]; exact hc'.c1, by rw [← hse]; exact hc'.c2, by rw [← hse]; exact hc'.c3, by rw [← hse]; exact hc'.c4, by rw [← hse]; exact hc'.c5, hc'.c6, hB⟩
    have HC := hidOf (fun (u : World) (hu : Below w.heap.size w u) => eqSub_same x.s x.a y.a x.n y.n x.c y.c u (t1.keep hu) (t2.keep hu) n1 n2)
    have hki : (0 : Int) ≤ (k : Int) ∧ (k : Int) < (n : Int) := by omega
    clear hcell hcell' hx hy hB hc hc' hse hm hm' t1 t2 n1 n2
    go_wp2_with fail
    go_region_held3 (fun w' => EqS b (off + k * 7) b' (off' + k * 7) x y w w') (first | (exact hS.drew) | (exact EqS.keep (by assumption) (by assumption))) (first | (go_at_call 165; refine (HC.out _ ?hu).mono ?_; (case hu => exact EqS.bel (by assumption)); rintro e w1 ⟨rfl, hb1⟩))
    rename_i hT
    have hB2 := EqS.bel hT
    clear hS hT HC hb1
    go_wp2
    go_roundw
    case rel => exact ⟨k + 1, by omega, by go_num, hB2⟩
    case measure => simp [intOf]; omega
   ·clear hcell hcell'
    go_wp2
    go_ret
    exact ⟨rfl, hB⟩
open Go.RowKit Pl Il
theorem toMsgR_any (p : Tm) (w : World) :
    Calls Tryz.prog 49 #[qV p] w fun e w' => e = .returned (qV p) ∧ Below w.heap.size w w' := by
  obtain ⟨x, y, s⟩ := p
  unfold qV
  go_enter Tryz.func49, Tryz.ntmps49
  go_wp2
  refine bodyPost_ret (v := .agg #[.int .i64 x, .int .i64 y, .string s]) (by simp [results, Tryz.results49, go_sem]) rfl ⟨rfl, ?_⟩
  repeat (first | exact Below.refl _ _ | apply Below.drew | apply bl_alloc)
theorem infoMs : (Tryz.prog.info? 30).map (fun i => (i.zero, i.size, i.bytes)) = some (some (.agg #[.int .i64 0, .int .i64 0, .string ⟨#[]⟩]), 3, 32) := by kernel_rfl
theorem make_msgs (n : Nat) (hn : n ≤ 2097152) (w : World) : (Instr.makeSlice 24 (.int .i64 (n : Int)) (.int .i64 (n : Int))).run Tryz.prog w = .ok (.slice (some ⟨w.heap.size, 0, none⟩) n n) (w.alloc (.cells (madeCells (Value.agg #[.int .i64 0, .int .i64 0, .string ⟨#[]⟩]).cells (n * 3)) 30)) := by
  obtain ⟨i, hi, hz0, hz1, hz2⟩ := info_parts infoMs
  have := run_make (P := Tryz.prog) w 24 30 i (.agg #[.int .i64 0, .int .i64 0, .string ⟨#[]⟩]) Tryz.underlying24 hi hz0 .i64 .i64 (n : Int) (n : Int) (by omega) (by omega) (by rw [hz2]; omega) (by omega)
  rw [hz1] at this
  simpa using this
theorem toMsgS_any (a : Option Addr) (n cap : Nat) (ts : List Tm) (w : World) (hI : TmAt w a n ts) (hn : n ≤ 2097152) :
  Calls Tryz.prog 116 #[.slice a n cap] w fun e w' => e = .returned (.slice (some ⟨w.heap.size, 0, none⟩) n n) ∧ OwnF w.heap.size w' (some ⟨w.heap.size, 0, none⟩) n ts ∧ Below w.heap.size w w' := by
 have hmk := make_msgs n hn
 have hS := hidOf (FillF.start w n ts 30 (Value.agg #[.int .i64 0, .int .i64 0, .string ⟨#[]⟩]).cells)
 obtain ⟨hlen, hsh, rfl | ⟨b, off, rfl, hb, hcell⟩⟩ := hI
 ·have hx : ts = [] := List.length_eq_zero_iff.1 hlen
  subst hx
  have hmk0 : ∀ w : World, (Instr.makeSlice 24 (.int .i64 0) (.int .i64 0)).run Tryz.prog w = .ok (.slice (some ⟨w.heap.size, 0, none⟩) 0 0) (w.alloc (.cells (madeCells (Value.agg #[.int .i64 0, .int .i64 0, .string ⟨#[]⟩]).cells (0 * 3)) 30)) := fun w => make_msgs 0 (by omega) w
  clear hmk
  have hmk := hmk0
  clear hmk0
  go_enter Tryz.func116, Tryz.ntmps116
  go_wp2
  go_loopw [4] (fun i wr => i = .int .i64 0 ∧ FillF w w.heap.size 0 [] 0 wr) (fun _ _ => 0)
  case atStart => exact ⟨rfl, hS.out⟩
  case round =>
   obtain ⟨rfl, hF⟩ := hrel
   clear hS hmk
   go_wp2
   go_ret
   exact ⟨rfl, hF.own rfl hsh, hF.below⟩
 ·have HS := hidOf hsh
  clear hsh
  go_enter Tryz.func116, Tryz.ntmps116
  go_wp2_with fail
  go_loopw [4] (fun i wr => ∃ k : Nat, k ≤ n ∧ i = .int .i64 k ∧ FillF w w.heap.size n ts k wr) (fun i _ => n - (intOf i).toNat)
  case atStart => exact ⟨0, Nat.zero_le _, rfl, hS.out⟩
  case round =>
   rename_i wr
   obtain ⟨k, hk, rfl, hF⟩ := hrel
   have HL := hidOf hlen
   clear hS hmk hlen
   by_cases hlt : k < n
   ·have hc : wr.cell? ⟨b, off + k * 3, none⟩ = some (.int .i64 (qg ts k).1) := by rw [hF.below.cell (p := ⟨b, off + k * 3, none⟩) hb]; exact (hcell k hlt).1
    have hc2 : wr.cell? ⟨b, off + k * 3 + 1, none⟩ = some (.int .i64 (qg ts k).2.1) := by rw [hF.below.cell (p := ⟨b, off + k * 3 + 1, none⟩) hb]; exact (hcell k hlt).2.1
    have hc3 : wr.cell? ⟨b, off + k * 3 + 2, none⟩ = some (.string (qg ts k).2.2) := by rw [hF.below.cell (p := ⟨b, off + k * 3 + 2, none⟩) hb]; exact (hcell k hlt).2.2
    have HC := fun u => hidOf (toMsgR_any (qg ts k) u)
    unfold qV at HC
    obtain ⟨y, hy⟩ : ∃ y, qg ts k = y := ⟨_, rfl⟩
    rw [hy] at hc hc2 hc3 HC
    have HY := hidOf hy
    have HF := hidOf hF
    clear hy hcell hF
    go_wp2_with fail
    refine ((HC _).out).mono ?_
    rintro e w1 ⟨rfl, hb1⟩
    have hF1 := HF.out.keep hb1
    obtain ⟨v0, v1, v2, hv0, hv1, hv2, _⟩ := hF1.cells k hlt
    have hfr := hF1.fr
    have HF1 := hidOf (hF1.step y HY.out)
    unfold set3 at HF1
    clear hF1 HF HC hc hc2 hc3 hb1
    go_wp2
    go_roundw
    case rel => exact ⟨k + 1, by omega, by go_num, HF1.out⟩
    case measure => simp [intOf]; omega
   ·obtain rfl : k = n := by omega
    clear hcell
    go_wp2
    go_ret
    exact ⟨rfl, hF.own HL.out HS.out, hF.below⟩
theorem eqMsgR_any (p q : Tm) (w : World) :
    Calls Tryz.prog 132 #[qV p, qV q] w fun e w' => e = .returned (.bool (eqQ p q)) ∧ Below w.heap.size w w' := by
  obtain ⟨x, y, s⟩ := p
  obtain ⟨x', y', s'⟩ := q
  unfold qV eqQ
  have hB : Below w.heap.size w ((w.alloc (.cells #[.int .i64 x, .int .i64 y, .string s] 30)).alloc (.cells #[.int .i64 x', .int .i64 y', .string s'] 30)) := bl_alloc (bl_alloc (Below.refl _ _) _) _
  by_cases h0 : x = x'
  · by_cases h1 : y = y'
    · by_cases h2 : s = s'
      · subst h0 h1 h2
        go_enter Tryz.func132, Tryz.ntmps132
        go_wp2
        go_ret
        exact ⟨rbool (by simp), hB⟩
      · subst h0 h1
        have hd := ba_ne h2
        go_enter Tryz.func132, Tryz.ntmps132
        go_wp2
        go_ret
        exact ⟨rbool (by simp [h2]), hB⟩
    · subst h0
      have hd : (y != y') = true := by simp [h1]
      go_enter Tryz.func132, Tryz.ntmps132
      go_wp2
      go_ret
      exact ⟨rbool (by simp [h1]), hB⟩
  · have hd : (x != x') = true := by simp [h0]
    go_enter Tryz.func132, Tryz.ntmps132
    go_wp2
    go_ret
    exact ⟨rbool (by simp [h0]), hB⟩
theorem eqMsgS_any (a a' : Option Addr) (n n' cap cap' : Nat) (xs ys : List Tm) (w : World) (hI : TmAt w a n xs) (hJ : TmAt w a' n' ys) (hn : n ≤ 2097152) (hn' : n' ≤ 2097152) :
  Calls Tryz.prog 119 #[.slice a n cap, .slice a' n' cap'] w fun e w' => e = .returned (.bool (eqFL xs ys)) ∧ Below w.heap.size w w' := by
 by_cases hl : n = n'
 ·subst hl
  by_cases h0 : n = 0
  ·subst h0
   have e1 : xs = [] := List.length_eq_zero_iff.1 hI.len
   have e2 : ys = [] := List.length_eq_zero_iff.1 hJ.len
   subst e1 e2
   clear hI hJ
   go_enter Tryz.func119, Tryz.ntmps119
   go_wp2
   go_loop [5] (fun i => i = .int .i64 0) (fun _ => 0)
   case atStart => rfl
   case round =>
    subst hrel
    go_wp2
    go_ret
    exact ⟨rfl, Below.refl _ _⟩
  ·obtain ⟨hlen, _, hr | ⟨b, off, rfl, hb, hcell⟩⟩ := hI
   ·omega
   obtain ⟨hlen', _, hr | ⟨b', off', rfl, hb', hcell'⟩⟩ := hJ
   ·omega
   have HL := hidOf hlen
   have HL' := hidOf hlen'
   clear hlen hlen'
   go_enter Tryz.func119, Tryz.ntmps119
   go_wp2
   go_loopw [5] (fun i wr => ∃ k : Nat, k ≤ n ∧ i = .int .i64 k ∧ xs.take k = ys.take k ∧ Below w.heap.size w wr) (fun i _ => n - (intOf i).toNat)
   case atStart => exact ⟨0, Nat.zero_le _, rfl, rfl, Below.refl _ _⟩
   case round =>
    rename_i wr
    obtain ⟨k, hk, rfl, hno, hB⟩ := hrel
    have Hno := hidOf hno
    clear hno
    by_cases hlt : k < n
    ·have hS : EqR b (off + k * 3) b' (off' + k * 3) (qg xs k) (qg ys k) w wr := ⟨by rw [hB.cell (p := ⟨b, off + k * 3, none⟩) hb]; exact (hcell k hlt).1, by rw [hB.cell (p := ⟨b, off + k * 3 + 1, none⟩) hb]; exact (hcell k hlt).2.1, by rw [hB.cell (p := ⟨b, off + k * 3 + 2, none⟩) hb]; exact (hcell k hlt).2.2, by rw [hB.cell (p := ⟨b', off' + k * 3, none⟩) hb']; exact (hcell' k hlt).1, by rw [hB.cell (p := ⟨b', off' + k * 3 + 1, none⟩) hb']; exact (hcell' k hlt).2.1, by rw [hB.cell (p := ⟨b', off' + k * 3 + 2, none⟩) hb']; exact (hcell' k hlt).2.2, hB⟩
     have HC := fun u => hidOf (eqMsgR_any (qg xs k) (qg ys k) u)
     unfold qV at HC
     have hki : (0 : Int) ≤ (k : Int) ∧ (k : Int) < (n : Int) := by omega
     obtain ⟨x, hx⟩ : ∃ x, qg xs k = x := ⟨_, rfl⟩
     obtain ⟨y, hy⟩ : ∃ y, qg ys k = y := ⟨_, rfl⟩
     rw [hx, hy] at hS HC
     have HX := hidOf hx
     have HY := hidOf hy
     clear hcell hcell' hx hy hB
     go_wp2_with fail
     go_region_held3 (fun w' => EqR b (off + k * 3) b' (off' + k * 3) x y w w') (first | (exact hS.drew) | (exact EqR.keep (by assumption) (by assumption))) (first | (go_at_call 132; refine ((HC _).out).mono ?_; rintro e w1 ⟨rfl, hb1⟩))
     rename_i hT
     cases hd : eqQ x y
     ·have hB2 := hT.2.2.2.2.2.2
      have Hxy := hidOf hd
      clear hd hS hT
      go_wp2
      go_ret
      exact ⟨rbool (eqF_no (k := k) (by rw [HX.out, HY.out]; intro e; have := eqQ_iff.2 e; rw [Hxy.out] at this; cases this)).symm, hB2⟩
     ·have hB2 := hT.2.2.2.2.2.2
      have Hxy := hidOf (eqQ_iff.1 hd)
      clear hd hS hT
      go_wp2
      go_roundw
      case rel => exact ⟨k + 1, by omega, by go_num, eqF_step (by have := HL.out; omega) (by have := HL'.out; omega) Hno.out (by rw [HX.out, HY.out]; exact Hxy.out), hB2⟩
      case measure => simp [intOf]; omega
    ·clear hcell hcell'
     go_wp2
     go_ret
     exact ⟨rbool (eqF_end (by have := HL.out; have := HL'.out; omega) (by have := HL.out; omega) Hno.out).symm, hB⟩
 ·have hne : ((n : Int) != (n' : Int)) = true := by simp; omega
  have hq := eqF_len (xs := xs) (ys := ys) (by rw [hI.len, hJ.len]; exact hl)
  clear hI hJ
  go_enter Tryz.func119, Tryz.ntmps119
  go_wp2
  go_ret
  exact ⟨rbool hq.symm, Below.refl _ _⟩
open Go.RowKit Pl Il
theorem szMsgR_any (p : Tm) (l : Int) (w : World) (hm : p.2.2.size ≤ maxLen) (h0 : 0 ≤ l) (h1 : l ≤ 1048576) :
    Calls Tryz.prog 47 #[qV p, .int .i64 l] w fun e w' => e = .returned (.int .i64 (if l < (p.2.2.size : Int) then -1 else l - (p.2.2.size : Int))) ∧ Below w.heap.size w w' := by
  obtain ⟨x, y, s⟩ := p
  unfold qV
  unfold maxLen at hm
  simp only at hm ⊢
  have hb : Below w.heap.size w (w.alloc (.cells #[.int .i64 x, .int .i64 y, .string s] 69)) := bl_alloc (Below.refl _ _) _
  by_cases h : l < (s.size : Int)
  · have h' : l - (s.size : Int) < 0 := by omega
    go_enter Tryz.func47, Tryz.ntmps47
    go_wp2
    go_ret
    exact ⟨rint (by simp), hb⟩
  · have h' : ¬ l - (s.size : Int) < 0 := by omega
    go_enter Tryz.func47, Tryz.ntmps47
    go_wp2
    go_ret
    exact ⟨rint (by simp), hb⟩
set_option maxHeartbeats 1000000 in
theorem szMsgS_any (a : Option Addr) (n c : Nat) (ts : List Tm) (l : Int) (w : World) (hI : TmAt w a n ts) (hn : n ≤ 9223372036854775807) (l0 : 0 ≤ l) (l1 : l ≤ 1048576) :
    Calls Tryz.prog 113 #[.slice a n c, .int .i64 l] w fun e w' => SzF n e ∧ Below w.heap.size w w' := by
  by_cases h : l < (n : Int)
  · have h' : l - (n : Int) < 0 := by omega
    clear hI
    go_enter Tryz.func113, Tryz.ntmps113
    go_wp2
    go_ret
    exact ⟨⟨_, rfl, .inl (by omega)⟩, Below.refl _ _⟩
  · have h' : ¬ l - (n : Int) < 0 := by omega
    have hn2 : n ≤ 1048576 := by omega
    obtain ⟨hlen, hsh, hr⟩ := hI
    have HS := hidOf hsh
    have HL := hidOf hlen
    have HR := hidOf hr
    clear hsh hlen hr
    go_enter Tryz.func113, Tryz.ntmps113
    go_wp2
    go_loopw [1, 5] (fun x i wr => ∃ (k : Nat) (y : Int), k ≤ n ∧ i = .int .i64 k ∧ x = .int .i64 y ∧ 0 ≤ y ∧ y ≤ 1048576 ∧ Below w.heap.size w wr) (fun _ i _ => n - (intOf i).toNat)
    case atStart => exact ⟨0, _, Nat.zero_le _, rfl, rfl, by omega, by omega, Below.refl _ _⟩
    case round =>
      rename_i wr
      obtain ⟨k, y, hk, rfl, rfl, y0, y1, hB⟩ := hrel
      by_cases hlt : k < n
      · obtain hr | ⟨b, off, rfl, hb, hcell⟩ := HR.out
        · omega
        obtain ⟨q0, q1, q2⟩ := hcell k hlt
        have hc := cellK q0 (hB.mono (by omega))
        have hc2 := cellK q1 hB
        have hc3 := cellK q2 hB
        have HC := fun u => hidOf (szMsgR_any (qg ts k) y u (HS.out _ (qg_mem (by rw [HL.out]; exact hlt))) y0 y1)
        unfold qV at HC
        obtain ⟨z, hz⟩ : ∃ z, qg ts k = z := ⟨_, rfl⟩
        rw [hz] at hc hc2 hc3 HC
        clear hz hcell q0 q1 q2
        go_wp2_with fail
        refine ((HC _).out).mono ?_
        rintro e w1 ⟨rfl, hb1⟩
        have hB1 := bl_trans hB hb1
        clear HC hc hc2 hc3 hb1 hB
        by_cases hg : y < (z.2.2.size : Int)
        · rw [if_pos hg]
          go_wp2
          go_ret
          exact ⟨⟨_, rfl, .inl (by omega)⟩, hB1⟩
        · rw [if_neg hg]
          have hg' : ¬ y - (z.2.2.size : Int) < 0 := by omega
          go_wp2
          go_roundw
          case rel => exact ⟨k + 1, _, by omega, by go_num, rfl, by omega, by omega, hB1⟩
          case measure => simp [intOf]; omega
      · go_wp2
        go_ret
        exact ⟨⟨_, rfl, .inr ⟨y0, y1, hn2⟩⟩, hB⟩
open Go.RowKit Pl Il
theorem wpList_append_run {P : Program} {ops : Array Oper} {rest : List Oper} {o : Oper} {a : Act} {Q : Exit → Act → World → Prop} {w w' : World} (hgd : o.guard = none) (s x : Operand) (t : TypeId)
    (ho : o.op = .call { callee := .builtin .append, args := #[s, x], argTypes := #[t, t] }) (v u v' : Value) (hs : a.eval s = v) (hx : a.eval x = u)
    (hr : (Builtin.append_ #[t, t] o.type #[v, u]).run P w = .ok v' w') (h : wpList P ops Q rest (a.put o.dst v') w') : wpList P ops Q (o :: rest) a w :=
  wpList_plain hgd fun _ hK => by
    unfold Oper.wp execOp
    simp only [ho, resolve, invoke, builtin, Sem.run_bind, Sem.run_pure, Result.andThen_ok, List.map_toArray, List.map_cons, List.map_nil, hs, hx, hr]
    exact hK _ _ h
abbrev Owns (B : Nat) (w : World) (g n cap : Nat) (xs : List Int) : Prop := w.ownsRow B 3 1 (.slice (some ⟨g, 0, none⟩) n cap) n (xs.map (Value.int .i64))
theorem owns_parts {B : Nat} {w : World} {g n cap : Nat} {xs : List Int} (h : Owns B w g n cap xs) : xs.length = n ∧ B ≤ g ∧ g < w.heap.size ∧ n ≤ cap ∧ cap ≤ maxLen ∧ OwnAt B w (some ⟨g, 0, none⟩) n xs := by
  obtain ⟨a, c, e, ho⟩ := own_of h xs rfl
  cases e
  obtain ⟨hl, ⟨e, _⟩ | ⟨g', c', cur, e, hB, hg, hc, hm, _⟩⟩ := h
  · cases e
  · cases e
    refine ⟨by simpa using hl, hB, ?_, hc, hm, ho⟩
    rcases Nat.lt_or_ge g w.heap.size with k | k
    · exact k
    · rw [Array.getElem?_eq_none k] at hg; cases hg
theorem owns_empty (w : World) : Owns w.heap.size (w.alloc (.cells #[] 3)) w.heap.size 0 0 [] :=
  ⟨rfl, .inr ⟨w.heap.size, 0, #[], rfl, Nat.le_refl _, heap_alloc_new w _, Nat.le_refl _, Nat.zero_le _, rfl, rfl⟩⟩
theorem append_ints2 (B g m c : Nat) (ys : List Int) (a : Option Addr) (n cap : Nat) (xs : List Int) (w : World) (ho : Owns B w g m c ys) (hB : B ≤ w.heap.size) (hI : IntsAt w a n xs) (hs : m + n ≤ 4194304) :
  ∃ (g' c' : Nat) (w' : World), (Builtin.append_ #[26, 26] 26 #[.slice (some ⟨g, 0, none⟩) m c, .slice a n cap]).run Tryz.prog w = .ok (.slice (some ⟨g', 0, none⟩) (m + n) c') w' ∧
   Owns B w' g' (m + n) c' (ys ++ xs) ∧ w.grownBy w' (some g) ∧ (g' = g ∨ g' = w.heap.size) := by
 obtain ⟨i, hi, hz0, hz1, hz2⟩ := info_parts info3
 have hg0 : w.grownBy w (some g) := ⟨rfl, rfl, rfl, Nat.le_refl _, fun _ _ _ => rfl⟩
 have short : ∀ u : Value, (Builtin.append_ #[26, 26] 26 #[.slice (some ⟨g, 0, none⟩) m c, u]).run Tryz.prog w = .ok (.slice (some ⟨g, 0, none⟩) m c) w →
   ∃ (g' c' : Nat) (w' : World), (Builtin.append_ #[26, 26] 26 #[.slice (some ⟨g, 0, none⟩) m c, u]).run Tryz.prog w = .ok (.slice (some ⟨g', 0, none⟩) (m + 0) c') w' ∧ Owns B w' g' (m + 0) c' (ys ++ []) ∧ w.grownBy w' (some g) ∧ (g' = g ∨ g' = w.heap.size) :=
  fun u hu => ⟨g, c, w, hu, by rw [List.append_nil]; exact ho, hg0, .inl rfl⟩
 have hmc := (owns_parts ho).2.2.2.1
 obtain ⟨hlen, rfl | ⟨b, off, rfl, hb, hcell⟩⟩ := hI
 ·have hx : xs = [] := List.length_eq_zero_iff.1 hlen
  subst hx
  refine short _ ?_
  rcases a with _ | ad
  ·exact run_append_room_src _ _ _ _ 3 i Tryz.underlying26 hi g 0 m c _ 0 [] (Src.ofNil _ Tryz.underlying26 cap) (by omega) (fun j hj => by cases hj) (fun j hj => by cases hj)
  ·exact run_append_room_src _ _ _ _ 3 i Tryz.underlying26 hi g 0 m c _ 0 [] (Src.ofSlice _ Tryz.underlying26 ad 0 cap [] (by simp) (fun j u h => by simp at h) (fun u h => by cases h)) (by omega) (fun j hj => by cases hj) (fun j hj => by cases hj)
 ·rcases Nat.eq_zero_or_pos n with h0 | hpos
  ·subst h0
   have hx : xs = [] := List.length_eq_zero_iff.1 hlen
   subst hx
   refine short _ ?_
   exact run_append_room_src _ _ _ _ 3 i Tryz.underlying26 hi g 0 m c _ 0 [] (Src.ofSlice _ Tryz.underlying26 ⟨b, off, none⟩ 0 cap [] (by simp) (fun j u h => by simp at h) (fun u h => by cases h)) (by omega) (fun j hj => by cases hj) (fun j hj => by cases hj)
  ·obtain ⟨g', c', w', hr, hown, hgrow, hat, _⟩ := run_append_lies (P := Tryz.prog) w 26 26 B 3 i (.int .i64 0) 1 8 Tryz.underlying26 hi hz0 hz1 hz2 rfl (by omega) _ m _ ho ⟨b, off, none⟩ n cap (xs.map (Value.int .i64)) (by simp [hlen])
    (fun j u h => by
     rw [Addr.add_lit]
     have hj : j < n := by
      have := (List.getElem?_eq_some_iff.1 h).1
      simpa [hlen] using this
     rw [hcell j hj]
     simp only [List.getElem?_map] at h
     rw [List.getElem?_eq_getElem (by omega)] at h
     simp only [Option.map_some, Option.some.injEq] at h
     rw [← h]
     simp [List.getD, List.getElem?_eq_getElem (show j < xs.length by omega)])
    (fun u hu => by obtain ⟨_, _, rfl⟩ := List.mem_map.1 hu; rfl) hpos (by unfold maxLen; omega) (by omega) hB _ rfl
   refine ⟨g', c', w', hr, by rw [← List.map_append] at hown; exact hown, hgrow, ?_⟩
   rcases hat with h | h
   ·left; simpa [Value.ownBlock] using h.symm
   ·exact .inr h
theorem append_ints (B g m c : Nat) (ys : List Int) (a : Option Addr) (n cap : Nat) (xs : List Int) (w : World) (ho : Owns B w g m c ys) (hB : B ≤ w.heap.size) (hI : IntsAt w a n xs) (hs : m + n ≤ 4194304) :
    ∃ (g' c' : Nat) (w' : World), (Builtin.append_ #[26, 26] 26 #[.slice (some ⟨g, 0, none⟩) m c, .slice a n cap]).run Tryz.prog w = .ok (.slice (some ⟨g', 0, none⟩) (m + n) c') w' ∧
      Owns B w' g' (m + n) c' (ys ++ xs) ∧ w.grownBy w' (some g) := by
  obtain ⟨g', c', w', h1, h2, h3, _⟩ := append_ints2 B g m c ys a n cap xs w ho hB hI hs
  exact ⟨g', c', w', h1, h2, h3⟩
open Go.RowKit Pl Il
theorem l2Copy_any (a : Option Addr) (n cap : Nat) (xs : List Int) (w : World) (hI : IntsAt w a n xs) (hn : n ≤ 2097152) :
    Calls Tryz.prog 87 #[.slice a n cap] w fun e w' => ∃ g c, e = .returned (.slice (some ⟨g, 0, none⟩) n c) ∧ Owns w.heap.size w' g n c xs ∧ Below w.heap.size w w' := by
  have hb0 : Below w.heap.size w (w.alloc (.cells #[] 3)) := bl_alloc (Below.refl _ _) _
  obtain ⟨g, c, w', hr, ho, hg⟩ := append_ints w.heap.size w.heap.size 0 0 [] a n cap xs (w.alloc (.cells #[] 3)) (owns_empty w) (by simp) (hI.keep hb0) (by omega)
  rw [Nat.zero_add] at hr ho
  rw [List.nil_append] at ho
  have hb : Below w.heap.size w w' := hb0.grown hg (by simp) (fun k hk => by simp at hk; omega)
  have Hr : Hid _ := hr
  clear hr hg hb0 hI
  go_enter Tryz.func87, Tryz.ntmps87
  go_wp2_with (at_builtin; refine wpList_append_run rfl _ _ 26 rfl _ _ _ rfl rfl Hr.out ?_)
  go_ret
  exact ⟨g, c, rfl, ho, hb⟩
open Go.RowKit Pl Il
theorem append_own1 (B m : Nat) (v : Value) (ys : List Int) (x : Int) (w : World) (ho : w.ownsRow B 3 1 v m (ys.map (Value.int .i64))) (hB : B ≤ w.heap.size) (hs : m + 1 ≤ 4194304) :
    ∃ (g' c' : Nat) (w' : World), (Builtin.append_ #[26, 26] 26 #[v, .slice (some ⟨w.heap.size, 0, none⟩) 1 1]).run Tryz.prog (w.alloc (.cells #[.int .i64 x] 3)) = .ok (.slice (some ⟨g', 0, none⟩) (m + 1) c') w' ∧
      w'.ownsRow B 3 1 (.slice (some ⟨g', 0, none⟩) (m + 1) c') (m + 1) ((ys ++ [x]).map (Value.int .i64)) ∧ w.grownBy w' v.ownBlock ∧ (v.ownBlock = some g' ∨ w.heap.size ≤ g') := by
  obtain ⟨i, hi, hz0, hz1, hz2⟩ := info_parts info3
  obtain ⟨g', c', w', hr, hown, hgrow, hl, _⟩ := run_append_lies (P := Tryz.prog) (w.alloc (.cells #[.int .i64 x] 3)) 26 26 B 3 i (.int .i64 0) 1 8 Tryz.underlying26 hi hz0 hz1 hz2 rfl (by omega) v m _ (ho.alloc _) ⟨w.heap.size, 0, none⟩ 1 1 [.int .i64 x] rfl
    (cell_one_new _ _ _) (fun u hu => by rw [List.mem_singleton] at hu; subst hu; rfl) (by omega) (by unfold maxLen; omega) (by omega) (by simp; omega) _ rfl
  refine ⟨g', c', w', hr, by rw [List.map_append]; exact hown, (World.grownBy_alloc w _ _).trans hgrow, ?_⟩
  rcases hl with h | h
  · exact .inl h
  · right; subst h; simp
open Go.RowKit Pl Il
def cnt (x : Int) : Bool := decide (0 ≤ x) && decide (x ≤ 1000000000)
structure Na where
  a : Option Addr
  n : Nat
  c : Nat
  a' : Option Addr
  n' : Nat
  c' : Nat
def Na.zero : Na := ⟨none, 0, 0, none, 0, 0⟩
def Na.ok (A : Na) : Prop := A.n ≤ A.c ∧ A.n' ≤ A.c'
open Go.RowKit Pl Il
theorem szIntS_any (a : Option Addr) (n cap : Nat) (k : Int) (w : World) (hn : n ≤ 9223372036854775807) (k0 : 0 ≤ k) (k1 : k ≤ 1048576) :
    Calls Tryz.prog 115 #[.slice a n cap, .int .i64 k] w fun e w' => e = .returned (.int .i64 (if k < (n : Int) then -1 else k - (n : Int))) ∧ w' = w := by
  by_cases h : k < (n : Int)
  · have h' : k - (n : Int) < 0 := by omega
    go_enter Tryz.func115, Tryz.ntmps115
    go_wp2
    go_ret
    refine ⟨rint ?_, rfl⟩
    simp
  · have h' : ¬ k - (n : Int) < 0 := by omega
    go_enter Tryz.func115, Tryz.ntmps115
    go_wp2
    go_ret
    refine ⟨rint ?_, rfl⟩
    simp
theorem bl_set1 {B : Nat} {w u : World} (h : Below B w u) (N o : Nat) (hN : B ≤ N) (y : Value) : Below B w (u.setCell ⟨N, o, none⟩ y) := h.setCell (p := ⟨N, o, none⟩) hN y
end Go.Proofs.YtdboaoejlkkoeaaGreat
