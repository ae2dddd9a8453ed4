/-
  What a call on a latch holds on to: the argument's variable, the answer's, a copy's.
-/
import Derived.Test.YtbhdjcggcgddfaaRW
import Derived.Test.YtbhdjcggcgddfaaKL
namespace Go.Proofs.Ytbhdjcggcgddfaa
open Go.RowKit Pl Il

/-- The argument's variable, the answer's. -/
structure LCtx (w : World) (A : Na) (x : Lt) (u : World) : Prop where
  box0 : LBox w.heap.size A x u
  box1 : LBox (w.heap.size + 1) Na.zero Lt.zero u
  nin : LIn w A x
  below : Below w.heap.size w u
  sz : w.heap.size + 2 ≤ u.heap.size
section
variable {w : World} {A : Na} {x : Lt} {u u' : World}
theorem LCtx.keep {B : Nat} (h : LCtx w A x u) (hb : Below B u u') (hB : w.heap.size + 2 ≤ B) : LCtx w A x u' :=
  ⟨h.box0.below hb (by omega), h.box1.below hb (by omega), h.nin, h.below.trans (hb.mono (by omega)), Nat.le_trans h.sz hb.size⟩
theorem LCtx.kp (h : LCtx w A x u) (hb : Below u.heap.size u u') : LCtx w A x u' := h.keep hb h.sz
theorem LCtx.ninX (h : LCtx w A x u) : LIn u A x := h.nin.keep h.below
theorem lctx_new (hI : LIn w A x) : LCtx w A x ((w.alloc (.cells #[.int .i64 x.ct, .slice A.a A.n A.c, .slice A.a' A.n' A.c'] 78)).alloc (.cells #[.int .i64 0, .slice none 0 0, .slice none 0 0] 78)) := by
  have s0 : (w.alloc (.cells #[.int .i64 x.ct, .slice A.a A.n A.c, .slice A.a' A.n' A.c'] 78)).heap.size = w.heap.size + 1 := by simp
  refine ⟨(LBox.new w A x _).alloc _, by rw [← s0]; exact LBox.newZ _ _, hI, bl_alloc (bl_alloc (Below.refl _ _) _) _, by simp⟩
theorem Rows2.lown {B : Nat} (h : Rows2 B u A x.ln x.gs) : LOwn B u A x := ⟨h.parts.1, h.parts.2.1, h.parts.2.2⟩
theorem lst_fin {A' : Na} {y : Lt} (hC : LCtx w A x u) (hR : Rows2 (w.heap.size + 2) u A' y.ln y.gs) :
    LOwn w.heap.size (((u.setCell ⟨w.heap.size + 1, 0, none⟩ (.int .i64 y.ct)).setCell ⟨w.heap.size + 1, 1, none⟩ (.slice A'.a A'.n A'.c)).setCell ⟨w.heap.size + 1, 2, none⟩ (.slice A'.a' A'.n' A'.c')) A' y ∧ A'.ok ∧ Below w.heap.size w (((u.setCell ⟨w.heap.size + 1, 0, none⟩ (.int .i64 y.ct)).setCell ⟨w.heap.size + 1, 1, none⟩ (.slice A'.a A'.n A'.c)).setCell ⟨w.heap.size + 1, 2, none⟩ (.slice A'.a' A'.n' A'.c')) :=
  ⟨(hR.lown.farA (w.heap.size + 1) (by omega) _ _ _).mono (by omega), hR.ok, bl_sL hC.below (w.heap.size + 1) (by omega) _ _ _⟩
theorem lst_finT {A' : Na} {y : Lt} {a : Option Addr} {m : Nat} {l : List Int} (hC : LCtx w A x u) (hR : Rows2 (w.heap.size + 2) u A' y.ln y.gs) (hL : Il.OwnAt (w.heap.size + 2) u a m l) :
    LOwn w.heap.size (((u.setCell ⟨w.heap.size + 1, 0, none⟩ (.int .i64 y.ct)).setCell ⟨w.heap.size + 1, 1, none⟩ (.slice A'.a A'.n A'.c)).setCell ⟨w.heap.size + 1, 2, none⟩ (.slice A'.a' A'.n' A'.c')) A' y ∧ A'.ok ∧ Il.OwnAt w.heap.size (((u.setCell ⟨w.heap.size + 1, 0, none⟩ (.int .i64 y.ct)).setCell ⟨w.heap.size + 1, 1, none⟩ (.slice A'.a A'.n A'.c)).setCell ⟨w.heap.size + 1, 2, none⟩ (.slice A'.a' A'.n' A'.c')) a m l ∧ Below w.heap.size w (((u.setCell ⟨w.heap.size + 1, 0, none⟩ (.int .i64 y.ct)).setCell ⟨w.heap.size + 1, 1, none⟩ (.slice A'.a A'.n A'.c)).setCell ⟨w.heap.size + 1, 2, none⟩ (.slice A'.a' A'.n' A'.c')) :=
  ⟨(lst_fin hC hR).1, hR.ok, ((((hL.far (w.heap.size + 1) 0 (by omega) _).far (w.heap.size + 1) 1 (by omega) _).far (w.heap.size + 1) 2 (by omega) _).mono (by omega)), bl_sL hC.below (w.heap.size + 1) (by omega) _ _ _⟩
end
/-- A copy in a variable of its own. -/
structure LSt (B N : Nat) (A : Na) (x : Lt) (w : World) : Prop where
  box : LBox N A x w
  ge : B ≤ N
  rows : Rows2 B w A x.ln x.gs
  ne1 : (Value.slice A.a A.n A.c).ownBlock ≠ some N
  ne2 : (Value.slice A.a' A.n' A.c').ownBlock ≠ some N
theorem lst_new {B : Nat} {A : Na} {x : Lt} {w : World} (h : Rows2 B w A x.ln x.gs) (hB : B ≤ w.heap.size) : LSt B w.heap.size A x (w.alloc (.cells #[.int .i64 x.ct, .slice A.a A.n A.c, .slice A.a' A.n' A.c'] 78)) :=
  ⟨LBox.new w A x _, hB, h.keep (bl_alloc (Below.refl _ _) _), fun e => Nat.lt_irrefl _ (h.one.lt _ e).2, fun e => Nat.lt_irrefl _ (h.two.lt _ e).2⟩
section
variable {B N : Nat} {A : Na} {x y : Lt} {w u : World}
theorem LSt.keep (h : LSt B N A x w) (hb : Below w.heap.size w u) : LSt B N A x u := ⟨h.box.keep hb, h.ge, h.rows.keep hb, h.ne1, h.ne2⟩
theorem LSt.setc (h : LSt B N A x w) (o : Nat) (v : Value) (hb : LBox N A y (w.setCell ⟨N, o, none⟩ v)) (h1 : y.ln = x.ln) (h2 : y.gs = x.gs) : LSt B N A y (w.setCell ⟨N, o, none⟩ v) :=
  ⟨hb, h.ge, by rw [h1, h2]; exact h.rows.set N o h.ne1 h.ne2 v, h.ne1, h.ne2⟩
theorem LSt.line {a : Option Addr} {n c : Nat} {xs : List Int} (h : LSt B N A x w) (hr : w.ownsRow B 3 1 (.slice a n c) n (intsV xs)) (h1 : (Value.slice a n c).ownBlock ≠ some N) (h2 : ∀ q, (Value.slice a n c).ownBlock = some q → (Value.slice A.a' A.n' A.c').ownBlock ≠ some q) :
    LSt B N { A with a := a, n := n, c := c } { x with ln := xs } (w.setCell ⟨N, 1, none⟩ (.slice a n c)) :=
  ⟨h.box.set1.lists xs x.gs, h.ge, ⟨row_set hr N _ h1 _, row_set h.rows.two N _ h.ne2 _, h2⟩, h1, h.ne2⟩
theorem LSt.told {a : Option Addr} {n c : Nat} {xs : List Int} (h : LSt B N A x w) (hr : w.ownsRow B 3 1 (.slice a n c) n (intsV xs)) (h1 : (Value.slice a n c).ownBlock ≠ some N) (h2 : ∀ q, (Value.slice A.a A.n A.c).ownBlock = some q → (Value.slice a n c).ownBlock ≠ some q) :
    LSt B N { A with a' := a, n' := n, c' := c } { x with gs := xs } (w.setCell ⟨N, 2, none⟩ (.slice a n c)) :=
  ⟨h.box.set2.lists x.ln xs, h.ge, ⟨row_set h.rows.one N _ h.ne1 _, row_set hr N _ h1 _, h2⟩, h.ne1, h1⟩
end
end Go.Proofs.Ytbhdjcggcgddfaa
