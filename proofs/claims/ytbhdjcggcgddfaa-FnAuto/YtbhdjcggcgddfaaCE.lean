/-
  What a call on a event holds on to: the argument's variable, the answer's, a copy's.
-/
import Derived.Test.YtbhdjcggcgddfaaMrg7
import Derived.Test.YtbhdjcggcgddfaaKE
namespace Go.Proofs.Ytbhdjcggcgddfaa
open Go.RowKit Pl Il

/-- The argument's variable, the answer's. -/
structure ECtx (w : World) (A : Na) (x : Et) (u : World) : Prop where
  box0 : EBox w.heap.size A x u
  box1 : EBox (w.heap.size + 1) Na.zero Et.zero u
  nin : EIn w A x
  below : Below w.heap.size w u
  sz : w.heap.size + 2 ≤ u.heap.size
section
variable {w : World} {A : Na} {x : Et} {u u' : World}
theorem ECtx.keep {B : Nat} (h : ECtx w A x u) (hb : Below B u u') (hB : w.heap.size + 2 ≤ B) : ECtx w A x u' :=
  ⟨h.box0.below hb (by omega), h.box1.below hb (by omega), h.nin, h.below.trans (hb.mono (by omega)), Nat.le_trans h.sz hb.size⟩
theorem ECtx.kp (h : ECtx w A x u) (hb : Below u.heap.size u u') : ECtx w A x u' := h.keep hb h.sz
theorem ECtx.ninX (h : ECtx w A x u) : EIn u A x := h.nin.keep h.below
theorem ectx_new (hI : EIn w A x) : ECtx w A x ((w.alloc (.cells #[.bool x.au, .bool x.up, .slice A.a A.n A.c, .slice A.a' A.n' A.c', .int .i64 x.st, .int .i64 x.sp, .int .i64 x.tk] 46)).alloc (.cells #[.bool false, .bool false, .slice none 0 0, .slice none 0 0, .int .i64 0, .int .i64 0, .int .i64 0] 46)) := by
  have s0 : (w.alloc (.cells #[.bool x.au, .bool x.up, .slice A.a A.n A.c, .slice A.a' A.n' A.c', .int .i64 x.st, .int .i64 x.sp, .int .i64 x.tk] 46)).heap.size = w.heap.size + 1 := by simp
  refine ⟨(EBox.new w A x _).alloc _, by rw [← s0]; exact EBox.newZ _ _, hI, bl_alloc (bl_alloc (Below.refl _ _) _) _, by simp⟩
theorem Rows2.eown {B : Nat} (h : Rows2 B u A x.ln x.gs) : EOwn B u A x := ⟨h.parts.1, h.parts.2.1, h.parts.2.2⟩
theorem est_fin {A' : Na} {y : Et} (hC : ECtx w A x u) (hR : Rows2 (w.heap.size + 2) u A' y.ln y.gs) :
    EOwn w.heap.size (((((((u.setCell ⟨w.heap.size + 1, 0, none⟩ (.bool y.au)).setCell ⟨w.heap.size + 1, 1, none⟩ (.bool y.up)).setCell ⟨w.heap.size + 1, 2, none⟩ (.slice A'.a A'.n A'.c)).setCell ⟨w.heap.size + 1, 3, none⟩ (.slice A'.a' A'.n' A'.c')).setCell ⟨w.heap.size + 1, 4, none⟩ (.int .i64 y.st)).setCell ⟨w.heap.size + 1, 5, none⟩ (.int .i64 y.sp)).setCell ⟨w.heap.size + 1, 6, none⟩ (.int .i64 y.tk)) A' y ∧ A'.ok ∧ Below w.heap.size w (((((((u.setCell ⟨w.heap.size + 1, 0, none⟩ (.bool y.au)).setCell ⟨w.heap.size + 1, 1, none⟩ (.bool y.up)).setCell ⟨w.heap.size + 1, 2, none⟩ (.slice A'.a A'.n A'.c)).setCell ⟨w.heap.size + 1, 3, none⟩ (.slice A'.a' A'.n' A'.c')).setCell ⟨w.heap.size + 1, 4, none⟩ (.int .i64 y.st)).setCell ⟨w.heap.size + 1, 5, none⟩ (.int .i64 y.sp)).setCell ⟨w.heap.size + 1, 6, none⟩ (.int .i64 y.tk)) :=
  ⟨(hR.eown.farA (w.heap.size + 1) (by omega) _ _ _ _ _ _ _).mono (by omega), hR.ok, bl_sE hC.below (w.heap.size + 1) (by omega) _ _ _ _ _ _ _⟩
theorem est_finT {A' : Na} {y : Et} {a : Option Addr} {m : Nat} {l : List Int} (hC : ECtx w A x u) (hR : Rows2 (w.heap.size + 2) u A' y.ln y.gs) (hL : Il.OwnAt (w.heap.size + 2) u a m l) :
    EOwn w.heap.size (((((((u.setCell ⟨w.heap.size + 1, 0, none⟩ (.bool y.au)).setCell ⟨w.heap.size + 1, 1, none⟩ (.bool y.up)).setCell ⟨w.heap.size + 1, 2, none⟩ (.slice A'.a A'.n A'.c)).setCell ⟨w.heap.size + 1, 3, none⟩ (.slice A'.a' A'.n' A'.c')).setCell ⟨w.heap.size + 1, 4, none⟩ (.int .i64 y.st)).setCell ⟨w.heap.size + 1, 5, none⟩ (.int .i64 y.sp)).setCell ⟨w.heap.size + 1, 6, none⟩ (.int .i64 y.tk)) A' y ∧ A'.ok ∧ Il.OwnAt w.heap.size (((((((u.setCell ⟨w.heap.size + 1, 0, none⟩ (.bool y.au)).setCell ⟨w.heap.size + 1, 1, none⟩ (.bool y.up)).setCell ⟨w.heap.size + 1, 2, none⟩ (.slice A'.a A'.n A'.c)).setCell ⟨w.heap.size + 1, 3, none⟩ (.slice A'.a' A'.n' A'.c')).setCell ⟨w.heap.size + 1, 4, none⟩ (.int .i64 y.st)).setCell ⟨w.heap.size + 1, 5, none⟩ (.int .i64 y.sp)).setCell ⟨w.heap.size + 1, 6, none⟩ (.int .i64 y.tk)) a m l ∧ Below w.heap.size w (((((((u.setCell ⟨w.heap.size + 1, 0, none⟩ (.bool y.au)).setCell ⟨w.heap.size + 1, 1, none⟩ (.bool y.up)).setCell ⟨w.heap.size + 1, 2, none⟩ (.slice A'.a A'.n A'.c)).setCell ⟨w.heap.size + 1, 3, none⟩ (.slice A'.a' A'.n' A'.c')).setCell ⟨w.heap.size + 1, 4, none⟩ (.int .i64 y.st)).setCell ⟨w.heap.size + 1, 5, none⟩ (.int .i64 y.sp)).setCell ⟨w.heap.size + 1, 6, none⟩ (.int .i64 y.tk)) :=
  ⟨(est_fin hC hR).1, hR.ok, ((((((((hL.far (w.heap.size + 1) 0 (by omega) _).far (w.heap.size + 1) 1 (by omega) _).far (w.heap.size + 1) 2 (by omega) _).far (w.heap.size + 1) 3 (by omega) _).far (w.heap.size + 1) 4 (by omega) _).far (w.heap.size + 1) 5 (by omega) _).far (w.heap.size + 1) 6 (by omega) _).mono (by omega)), bl_sE hC.below (w.heap.size + 1) (by omega) _ _ _ _ _ _ _⟩
end
/-- A copy in a variable of its own. -/
structure ESt (B N : Nat) (A : Na) (x : Et) (w : World) : Prop where
  box : EBox N A x w
  ge : B ≤ N
  rows : Rows2 B w A x.ln x.gs
  ne1 : (Value.slice A.a A.n A.c).ownBlock ≠ some N
  ne2 : (Value.slice A.a' A.n' A.c').ownBlock ≠ some N
theorem est_new {B : Nat} {A : Na} {x : Et} {w : World} (h : Rows2 B w A x.ln x.gs) (hB : B ≤ w.heap.size) : ESt B w.heap.size A x (w.alloc (.cells #[.bool x.au, .bool x.up, .slice A.a A.n A.c, .slice A.a' A.n' A.c', .int .i64 x.st, .int .i64 x.sp, .int .i64 x.tk] 46)) :=
  ⟨EBox.new w A x _, hB, h.keep (bl_alloc (Below.refl _ _) _), fun e => Nat.lt_irrefl _ (h.one.lt _ e).2, fun e => Nat.lt_irrefl _ (h.two.lt _ e).2⟩
section
variable {B N : Nat} {A : Na} {x y : Et} {w u : World}
theorem ESt.keep (h : ESt B N A x w) (hb : Below w.heap.size w u) : ESt B N A x u := ⟨h.box.keep hb, h.ge, h.rows.keep hb, h.ne1, h.ne2⟩
theorem ESt.setc (h : ESt B N A x w) (o : Nat) (v : Value) (hb : EBox N A y (w.setCell ⟨N, o, none⟩ v)) (h1 : y.ln = x.ln) (h2 : y.gs = x.gs) : ESt B N A y (w.setCell ⟨N, o, none⟩ v) :=
  ⟨hb, h.ge, by rw [h1, h2]; exact h.rows.set N o h.ne1 h.ne2 v, h.ne1, h.ne2⟩
theorem ESt.line {a : Option Addr} {n c : Nat} {xs : List Int} (h : ESt B N A x w) (hr : w.ownsRow B 3 1 (.slice a n c) n (intsV xs)) (h1 : (Value.slice a n c).ownBlock ≠ some N) (h2 : ∀ q, (Value.slice a n c).ownBlock = some q → (Value.slice A.a' A.n' A.c').ownBlock ≠ some q) :
    ESt B N { A with a := a, n := n, c := c } { x with ln := xs } (w.setCell ⟨N, 2, none⟩ (.slice a n c)) :=
  ⟨h.box.set2.lists xs x.gs, h.ge, ⟨row_set hr N _ h1 _, row_set h.rows.two N _ h.ne2 _, h2⟩, h1, h.ne2⟩
theorem ESt.told {a : Option Addr} {n c : Nat} {xs : List Int} (h : ESt B N A x w) (hr : w.ownsRow B 3 1 (.slice a n c) n (intsV xs)) (h1 : (Value.slice a n c).ownBlock ≠ some N) (h2 : ∀ q, (Value.slice A.a A.n A.c).ownBlock = some q → (Value.slice a n c).ownBlock ≠ some q) :
    ESt B N { A with a' := a, n' := n, c' := c } { x with gs := xs } (w.setCell ⟨N, 3, none⟩ (.slice a n c)) :=
  ⟨h.box.set3.lists x.ln xs, h.ge, ⟨row_set h.rows.one N _ h.ne1 _, row_set hr N _ h1 _, h2⟩, h.ne1, h1⟩
end
end Go.Proofs.Ytbhdjcggcgddfaa
