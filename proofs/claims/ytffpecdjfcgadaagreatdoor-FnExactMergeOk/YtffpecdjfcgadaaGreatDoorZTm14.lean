/-
  Walk of the law on RingOk, out of the contracts of the specification's and the program's.
  Slices of topics in memory: nine cells each, a name and a ring's eight; what they read as.
-/
import Derived.Test.YtffpecdjfcgadaaGreatDoorZTm11
import Derived.Test.YtffpecdjfcgadaaGreatDoorZTm13
import Derived.Deep.RegionHeld3
namespace Go.Proofs.YtffpecdjfcgadaaGreatDoor
open Go.RowKit Pl Il

/-- What is asked of the specification's, and of the program's. -/
def SpecRingOk (f : Rv → Bool) : Prop := ∀ (M : Rm) (v : Rv) (w : World), RIn w M v → RLe M 1048576 → RCap M → RWf v →
  Calls Tryz.prog 29 #[.agg #[.int .i64 v.cp, .int .i64 v.se, .slice M.ia M.i M.ic, .int .i64 v.nx, .slice M.sa M.s M.sc, .slice M.la M.l M.lc, .slice M.ga M.g M.gc, .bool v.cl]] w fun e w' => e = .returned (.bool (f v)) ∧ Below w.heap.size w w'
def ImplRingOk (f : Rv → Bool) : Prop := ∀ (M : Rm) (v : Rv) (w : World), RIn w M v → RLe M 1048576 → RCap M → RWf v →
  Calls Tryz.prog 36 #[.agg #[.int .i64 v.cp, .int .i64 v.se, .slice M.ia M.i M.ic, .int .i64 v.nx, .slice M.sa M.s M.sc, .slice M.la M.l M.lc, .slice M.ga M.g M.gc, .bool v.cl]] w fun e w' => e = .returned (.bool (f v)) ∧ Below w.heap.size w w'
/-- What the law holds on to: the argument's variable and its own copy's. -/
structure LawR (w : World) (N : Nat) (M M' : Rm) (v : Rv) (u : World) : Prop where
  arg : BoxL w.heap.size (rC M v) u
  own : BoxL N (rC M' v) u
  cop : RIn u M' v
  below : Below w.heap.size w u
theorem LawR.keep {w : World} {N : Nat} {M M' : Rm} {v : Rv} {u u' : World} (h : LawR w N M M' v u) (hb : Below u.heap.size u u') : LawR w N M M' v u' := ⟨h.arg.keep hb, h.own.keep hb, h.cop.keep hb, bl_trans h.below hb⟩
abbrev LawRS (w : World) (N : Nat) (M M' : Rm) (v : Rv) (u : World) : Prop :=
  u.cell? ⟨w.heap.size, 0, none⟩ = some (.int .i64 v.cp) ∧ u.cell? ⟨w.heap.size, 1, none⟩ = some (.int .i64 v.se) ∧ u.cell? ⟨w.heap.size, 2, none⟩ = some (.slice M.ia M.i M.ic) ∧ u.cell? ⟨w.heap.size, 3, none⟩ = some (.int .i64 v.nx) ∧ u.cell? ⟨w.heap.size, 4, none⟩ = some (.slice M.sa M.s M.sc) ∧ u.cell? ⟨w.heap.size, 5, none⟩ = some (.slice M.la M.l M.lc) ∧ u.cell? ⟨w.heap.size, 6, none⟩ = some (.slice M.ga M.g M.gc) ∧ u.cell? ⟨w.heap.size, 7, none⟩ = some (.bool v.cl) ∧ u.cell? ⟨N, 0, none⟩ = some (.int .i64 v.cp) ∧ u.cell? ⟨N, 1, none⟩ = some (.int .i64 v.se) ∧ u.cell? ⟨N, 2, none⟩ = some (.slice M'.ia M'.i M'.ic) ∧ u.cell? ⟨N, 3, none⟩ = some (.int .i64 v.nx) ∧ u.cell? ⟨N, 4, none⟩ = some (.slice M'.sa M'.s M'.sc) ∧ u.cell? ⟨N, 5, none⟩ = some (.slice M'.la M'.l M'.lc) ∧ u.cell? ⟨N, 6, none⟩ = some (.slice M'.ga M'.g M'.gc) ∧ u.cell? ⟨N, 7, none⟩ = some (.bool v.cl) ∧ LawR w N M M' v u
theorem LawR.s {w : World} {N : Nat} {M M' : Rm} {v : Rv} {u : World} (h : LawR w N M M' v u) : LawRS w N M M' v u :=
  ⟨h.arg.cs 0 (by simp), h.arg.cs 1 (by simp), h.arg.cs 2 (by simp), h.arg.cs 3 (by simp), h.arg.cs 4 (by simp), h.arg.cs 5 (by simp), h.arg.cs 6 (by simp), h.arg.cs 7 (by simp), h.own.cs 0 (by simp), h.own.cs 1 (by simp), h.own.cs 2 (by simp), h.own.cs 3 (by simp), h.own.cs 4 (by simp), h.own.cs 5 (by simp), h.own.cs 6 (by simp), h.own.cs 7 (by simp), h⟩
theorem LawRS.law {w : World} {N : Nat} {M M' : Rm} {v : Rv} {u : World} (h : LawRS w N M M' v u) : LawR w N M M' v u := h.2.2.2.2.2.2.2.2.2.2.2.2.2.2.2.2
theorem LawRS.keep {w : World} {N : Nat} {M M' : Rm} {v : Rv} {u u' : World} (h : LawRS w N M M' v u) (hb : Below u.heap.size u u') : LawRS w N M M' v u' := (h.law.keep hb).s
theorem LawRS.drew {w : World} {N : Nat} {M M' : Rm} {v : Rv} {u : World} (h : LawRS w N M M' v u) : LawRS w N M M' v u.drew := h.keep (Below.refl _ _).drew
end Go.Proofs.YtffpecdjfcgadaaGreatDoor
namespace Go.Proofs.YtffpecdjfcgadaaGreatDoor
open Go.RowKit Pl Il

/-- A topic in memory: its name, its ring, and where the ring's lists lie. -/
structure Ta where
  nm : ByteArray
  M : Rm
  v : Rv
def Rm0 : Rm := ⟨none, 0, 0, none, 0, 0, [], none, 0, 0, none, 0, 0⟩
def Rv0 : Rv := ⟨0, 0, [], 0, [], [], [], false⟩
def Ta.zero : Ta := ⟨⟨#[]⟩, Rm0, Rv0⟩
def tg (xs : List Ta) (i : Nat) : Ta := xs.getD i Ta.zero
abbrev tC (x : Ta) : List Value := [.string x.nm, .int .i64 x.v.cp, .int .i64 x.v.se, .slice x.M.ia x.M.i x.M.ic, .int .i64 x.v.nx, .slice x.M.sa x.M.s x.M.sc, .slice x.M.la x.M.l x.M.lc, .slice x.M.ga x.M.g x.M.gc, .bool x.v.cl]
theorem tg_eq {l : List Ta} {i : Nat} (h : i < l.length) : tg l i = l[i] := by unfold tg; rw [List.getD_eq_getElem?_getD, List.getElem?_eq_getElem h]; rfl
theorem tg_mem {l : List Ta} {k : Nat} (h : k < l.length) : tg l k ∈ l := by rw [tg_eq h]; exact List.getElem_mem h
theorem tg_append_left {l m : List Ta} {i : Nat} (h : i < l.length) : tg (l ++ m) i = tg l i := by
  rw [tg_eq (by simp; omega), tg_eq h, List.getElem_append_left h]
theorem tg_snoc (l : List Ta) (x : Ta) : tg (l ++ [x]) l.length = x := by rw [tg_eq (by simp)]; simp
/-- The nine cells of one. -/
structure TCell (w : World) (b o : Nat) (x : Ta) : Prop where
  c0 : w.cell? ⟨b, o, none⟩ = some (.string x.nm)
  c1 : w.cell? ⟨b, o + 1, none⟩ = some (.int .i64 x.v.cp)
  c2 : w.cell? ⟨b, o + 2, none⟩ = some (.int .i64 x.v.se)
  c3 : w.cell? ⟨b, o + 3, none⟩ = some (.slice x.M.ia x.M.i x.M.ic)
  c4 : w.cell? ⟨b, o + 4, none⟩ = some (.int .i64 x.v.nx)
  c5 : w.cell? ⟨b, o + 5, none⟩ = some (.slice x.M.sa x.M.s x.M.sc)
  c6 : w.cell? ⟨b, o + 6, none⟩ = some (.slice x.M.la x.M.l x.M.lc)
  c7 : w.cell? ⟨b, o + 7, none⟩ = some (.slice x.M.ga x.M.g x.M.gc)
  c8 : w.cell? ⟨b, o + 8, none⟩ = some (.bool x.v.cl)
theorem TCell.same {w u : World} {b o : Nat} {x : Ta} (h : TCell w b o x) (he : ∀ i, i < 9 → u.cell? ⟨b, o + i, none⟩ = w.cell? ⟨b, o + i, none⟩) : TCell u b o x :=
  ⟨(he 0 (by omega)).trans h.c0, (he 1 (by omega)).trans h.c1, (he 2 (by omega)).trans h.c2, (he 3 (by omega)).trans h.c3, (he 4 (by omega)).trans h.c4, (he 5 (by omega)).trans h.c5, (he 6 (by omega)).trans h.c6, (he 7 (by omega)).trans h.c7, (he 8 (by omega)).trans h.c8⟩
theorem TCell.below {w u : World} {b o B : Nat} {x : Ta} (h : TCell w b o x) (hb : Below B w u) (hB : b < B) : TCell u b o x := h.same fun i _ => hb.cell (p := ⟨b, o + i, none⟩) hB
theorem TCell.ofSet {w : World} {b o : Nat} (x : Ta) (h : ∀ i, i < 9 → ∃ v, w.cell? ⟨b, o + i, none⟩ = some v) : TCell (setL w b o (tC x)) b o x := by
  have k := setL_same (g := b) (vs := tC x) (w := w) (o := o) (fun i hi => h i (by simpa using hi))
  exact ⟨k 0 (by simp), k 1 (by simp), k 2 (by simp), k 3 (by simp), k 4 (by simp), k 5 (by simp), k 6 (by simp), k 7 (by simp), k 8 (by simp)⟩
/-- The slice at a, of n topics, reads as xs in w. -/
structure TopAt (w : World) (a : Option Addr) (n : Nat) (xs : List Ta) : Prop where
  len : xs.length = n
  nms : ∀ x, x ∈ xs → x.nm.size ≤ maxLen
  rin : ∀ x, x ∈ xs → RIn w x.M x.v
  row : n = 0 ∨ ∃ b off, a = some ⟨b, off, none⟩ ∧ b < w.heap.size ∧ ∀ i, i < n → TCell w b (off + i * 9) (tg xs i)
theorem TopAt.keep {w w' : World} {a : Option Addr} {n : Nat} {xs : List Ta} (h : TopAt w a n xs) (hb : Below w.heap.size w w') : TopAt w' a n xs := by
  refine ⟨h.len, h.nms, fun x hx => (h.rin x hx).keep hb, ?_⟩
  rcases h.row with k | ⟨b, off, rfl, hlt, hc⟩
  · exact .inl k
  · exact .inr ⟨b, off, rfl, Nat.lt_of_lt_of_le hlt hb.size, fun i hi => (hc i hi).below hb hlt⟩
theorem TopAt.nil (w : World) (a : Option Addr) : TopAt w a 0 [] := ⟨rfl, fun p hp => (by cases hp), fun p hp => (by cases hp), .inl rfl⟩
/-- What they are, told apart from where they lie. -/
def tvs (xs : List Ta) : List (ByteArray × Rv) := xs.map fun x => (x.nm, x.v)
/-- All their rings' lists are at most k long. -/
def TLe (xs : List Ta) (k : Nat) : Prop := ∀ x, x ∈ xs → RLe x.M k
def TCap (xs : List Ta) : Prop := ∀ x, x ∈ xs → RCap x.M
theorem ROwn.setL {B : Nat} {M : Rm} {v : Rv} (g : Nat) (hg : g < B) : ∀ {vs : List Value} {w : World} {o : Nat}, ROwn B w M v → ROwn B (setL w g o vs) M v
  | [], _, _, h => h
  | x :: vs, w, o, h => by
    show ROwn B (Go.Proofs.YtffpecdjfcgadaaGreatDoor.setL (w.setCell ⟨g, o, none⟩ x) g (o + 1) vs) M v
    exact ROwn.setL g hg (h.far g o hg x)
/-- A new row in block g: its first places hold ys. -/
structure FillT (w : World) (g n : Nat) (ys : List Ta) (wr : World) : Prop where
  below : Below w.heap.size w wr
  eq : g = w.heap.size
  lt : g < wr.heap.size
  le : ys.length ≤ n
  cells : ∀ j, j < n → ∀ i, i < 9 → ∃ v, wr.cell? ⟨g, j * 9 + i, none⟩ = some v
  done : ∀ j, j < ys.length → TCell wr g (j * 9) (tg ys j)
  fr : ∀ j, wr.frozen? ⟨g, j, none⟩ = false
  nms : ∀ x, x ∈ ys → x.nm.size ≤ maxLen
  own : ∀ x, x ∈ ys → ROwn (w.heap.size + 1) wr x.M x.v
theorem FillT.keep {w : World} {g n : Nat} {ys : List Ta} {wr u : World} (h : FillT w g n ys wr) (hb : Below wr.heap.size wr u) : FillT w g n ys u where
  below := bl_trans h.below hb
  eq := h.eq
  lt := Nat.lt_of_lt_of_le h.lt hb.size
  le := h.le
  cells := fun j hj i hi => by obtain ⟨v, hv⟩ := h.cells j hj i hi; exact ⟨v, by rw [hb.cell (p := ⟨g, j * 9 + i, none⟩) h.lt]; exact hv⟩
  done := fun j hj => (h.done j hj).below hb h.lt
  fr := fun j => by rw [hb.frozen (p := ⟨g, j, none⟩) h.lt]; exact h.fr j
  nms := h.nms
  own := fun x hx => (h.own x hx).keep hb
/-- One more is laid down. -/
theorem FillT.step {w : World} {g n : Nat} {ys : List Ta} {wr : World} (h : FillT w g n ys wr) (hk : ys.length < n) (x : Ta) (hx : ROwn (w.heap.size + 1) wr x.M x.v) (hn : x.nm.size ≤ maxLen) :
    FillT w g n (ys ++ [x]) (setL wr g (ys.length * 9) (tC x)) where
  below := setL_below (by rw [h.eq]; exact Nat.le_refl _) h.below
  eq := h.eq
  lt := by rw [setL_size]; exact h.lt
  le := by simp; omega
  cells := fun j hj i hi => by
    by_cases e : j = ys.length
    · subst e
      have k := setL_same (g := g) (vs := tC x) (w := wr) (o := ys.length * 9) (fun i hi => h.cells _ hj i (by simpa using hi)) i (by simpa using hi)
      exact ⟨_, k⟩
    · obtain ⟨v, hv⟩ := h.cells j hj i hi
      exact ⟨v, by rw [setL_other (by simp only [tC, List.length_cons, List.length_nil]; omega)]; exact hv⟩
  done := fun j hj => by
    simp only [List.length_append, List.length_singleton] at hj
    by_cases e : j = ys.length
    · subst e
      rw [tg_snoc]
      exact TCell.ofSet x (fun i hi => h.cells _ hk i hi)
    · rw [tg_append_left (by omega)]
      exact (h.done j (by omega)).same fun i hi => setL_other (by simp only [tC, List.length_cons, List.length_nil]; omega)
  fr := fun j => by rw [setL_fr]; exact h.fr j
  nms := fun y hy => by
    rcases List.mem_append.1 hy with hy | hy
    · exact h.nms y hy
    · obtain rfl : y = x := by simpa using hy
      exact hn
  own := fun y hy => by
    have hg : g < w.heap.size + 1 := by rw [h.eq]; omega
    rcases List.mem_append.1 hy with hy | hy
    · exact (h.own y hy).setL g hg
    · obtain rfl : y = x := by simpa using hy
      exact hx.setL g hg
theorem FillT.top {w : World} {g n : Nat} {ys : List Ta} {wr : World} (h : FillT w g n ys wr) (hl : ys.length = n) : TopAt wr (some ⟨g, 0, none⟩) n ys :=
  ⟨hl, h.nms, fun x hx => (h.own x hx).rin, .inr ⟨g, 0, rfl, h.lt, fun i hi => by rw [Nat.zero_add]; exact h.done i (by omega)⟩⟩
theorem FillT.start (w : World) (n : Nat) (t : TypeId) (z : Array Value) : FillT w w.heap.size n [] (w.alloc (.cells (madeCells z (n * 9)) t)) where
  below := bl_alloc (Below.refl _ _) _
  eq := rfl
  lt := by simp
  le := Nat.zero_le _
  cells := fun j hj i hi => by
    rw [World.cell?_alloc_new]
    have hlt : j * 9 + i < (madeCells z (n * 9)).size := by rw [size_madeCells]; omega
    exact ⟨(madeCells z (n * 9))[j * 9 + i], by rw [Array.getElem?_eq_getElem hlt]⟩
  done := fun j hj => (by simp at hj)
  fr := fun j => by simp [go_sem]
  nms := fun x hx => (by cases hx)
  own := fun x hx => (by cases hx)
end Go.Proofs.YtffpecdjfcgadaaGreatDoor
