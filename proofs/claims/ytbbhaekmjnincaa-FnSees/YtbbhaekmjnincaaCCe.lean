/-
  What a call on a cell holds on to: the argument's variable, the answer's, a copy's.
-/
import Derived.Test.YtbbhaekmjnincaaRW
import Derived.Test.YtbbhaekmjnincaaKC
namespace Go.Proofs.Ytbbhaekmjnincaa
open Go.RowKit Pl Il

/-- The argument's variable, the answer's. -/
structure CCtx (w : World) (A : Na) (x : Ct) (u : World) : Prop where
  box0 : CBox w.heap.size A x u
  box1 : CBox (w.heap.size + 1) Na.zero Ct.zero u
  nin : CIn w A x
  below : Below w.heap.size w u
  sz : w.heap.size + 2 ≤ u.heap.size
section
variable {w : World} {A : Na} {x : Ct} {u u' : World}
theorem CCtx.keep {B : Nat} (h : CCtx w A x u) (hb : Below B u u') (hB : w.heap.size + 2 ≤ B) : CCtx w A x u' :=
  ⟨h.box0.below hb (by omega), h.box1.below hb (by omega), h.nin, h.below.trans (hb.mono (by omega)), Nat.le_trans h.sz hb.size⟩
theorem CCtx.kp (h : CCtx w A x u) (hb : Below u.heap.size u u') : CCtx w A x u' := h.keep hb h.sz
theorem CCtx.ninX (h : CCtx w A x u) : CIn u A x := h.nin.keep h.below
theorem cctx_new (hI : CIn w A x) : CCtx w A x ((w.alloc (.cells #[.int .i64 x.kd, .int .i64 x.nu, .string x.tx, .int .i64 x.ve, .bool x.cl, .slice A.a A.n A.c, .slice A.a' A.n' A.c'] 29)).alloc (.cells #[.int .i64 0, .int .i64 0, .string ⟨#[]⟩, .int .i64 0, .bool false, .slice none 0 0, .slice none 0 0] 29)) := by
  have s0 : (w.alloc (.cells #[.int .i64 x.kd, .int .i64 x.nu, .string x.tx, .int .i64 x.ve, .bool x.cl, .slice A.a A.n A.c, .slice A.a' A.n' A.c'] 29)).heap.size = w.heap.size + 1 := by simp
  refine ⟨(CBox.new w A x _).alloc _, by rw [← s0]; exact CBox.newZ _ _, hI, bl_alloc (bl_alloc (Below.refl _ _) _) _, by simp⟩
theorem Rows2.cown {B : Nat} (h : Rows2 B u A x.ln x.gs) (ht : x.tx.size ≤ maxLen) : COwn B u A x := ⟨h.parts.1, h.parts.2.1, h.parts.2.2, ht⟩
theorem cst_fin {A' : Na} {y : Ct} (hC : CCtx w A x u) (hR : Rows2 (w.heap.size + 2) u A' y.ln y.gs) (ht : y.tx.size ≤ maxLen) :
    COwn w.heap.size (((((((u.setCell ⟨w.heap.size + 1, 0, none⟩ (.int .i64 y.kd)).setCell ⟨w.heap.size + 1, 1, none⟩ (.int .i64 y.nu)).setCell ⟨w.heap.size + 1, 2, none⟩ (.string y.tx)).setCell ⟨w.heap.size + 1, 3, none⟩ (.int .i64 y.ve)).setCell ⟨w.heap.size + 1, 4, none⟩ (.bool y.cl)).setCell ⟨w.heap.size + 1, 5, none⟩ (.slice A'.a A'.n A'.c)).setCell ⟨w.heap.size + 1, 6, none⟩ (.slice A'.a' A'.n' A'.c')) A' y ∧ A'.ok ∧ Below w.heap.size w (((((((u.setCell ⟨w.heap.size + 1, 0, none⟩ (.int .i64 y.kd)).setCell ⟨w.heap.size + 1, 1, none⟩ (.int .i64 y.nu)).setCell ⟨w.heap.size + 1, 2, none⟩ (.string y.tx)).setCell ⟨w.heap.size + 1, 3, none⟩ (.int .i64 y.ve)).setCell ⟨w.heap.size + 1, 4, none⟩ (.bool y.cl)).setCell ⟨w.heap.size + 1, 5, none⟩ (.slice A'.a A'.n A'.c)).setCell ⟨w.heap.size + 1, 6, none⟩ (.slice A'.a' A'.n' A'.c')) :=
  ⟨((hR.cown ht).farA (w.heap.size + 1) (by omega) _ _ _ _ _ _ _).mono (by omega), hR.ok, bl_sC hC.below (w.heap.size + 1) (by omega) _ _ _ _ _ _ _⟩
theorem cst_finT {A' : Na} {y : Ct} {a : Option Addr} {m : Nat} {l : List Int} (hC : CCtx w A x u) (hR : Rows2 (w.heap.size + 2) u A' y.ln y.gs) (ht : y.tx.size ≤ maxLen) (hL : Il.OwnAt (w.heap.size + 2) u a m l) :
    COwn w.heap.size (((((((u.setCell ⟨w.heap.size + 1, 0, none⟩ (.int .i64 y.kd)).setCell ⟨w.heap.size + 1, 1, none⟩ (.int .i64 y.nu)).setCell ⟨w.heap.size + 1, 2, none⟩ (.string y.tx)).setCell ⟨w.heap.size + 1, 3, none⟩ (.int .i64 y.ve)).setCell ⟨w.heap.size + 1, 4, none⟩ (.bool y.cl)).setCell ⟨w.heap.size + 1, 5, none⟩ (.slice A'.a A'.n A'.c)).setCell ⟨w.heap.size + 1, 6, none⟩ (.slice A'.a' A'.n' A'.c')) A' y ∧ A'.ok ∧ Il.OwnAt w.heap.size (((((((u.setCell ⟨w.heap.size + 1, 0, none⟩ (.int .i64 y.kd)).setCell ⟨w.heap.size + 1, 1, none⟩ (.int .i64 y.nu)).setCell ⟨w.heap.size + 1, 2, none⟩ (.string y.tx)).setCell ⟨w.heap.size + 1, 3, none⟩ (.int .i64 y.ve)).setCell ⟨w.heap.size + 1, 4, none⟩ (.bool y.cl)).setCell ⟨w.heap.size + 1, 5, none⟩ (.slice A'.a A'.n A'.c)).setCell ⟨w.heap.size + 1, 6, none⟩ (.slice A'.a' A'.n' A'.c')) a m l ∧ Below w.heap.size w (((((((u.setCell ⟨w.heap.size + 1, 0, none⟩ (.int .i64 y.kd)).setCell ⟨w.heap.size + 1, 1, none⟩ (.int .i64 y.nu)).setCell ⟨w.heap.size + 1, 2, none⟩ (.string y.tx)).setCell ⟨w.heap.size + 1, 3, none⟩ (.int .i64 y.ve)).setCell ⟨w.heap.size + 1, 4, none⟩ (.bool y.cl)).setCell ⟨w.heap.size + 1, 5, none⟩ (.slice A'.a A'.n A'.c)).setCell ⟨w.heap.size + 1, 6, none⟩ (.slice A'.a' A'.n' A'.c')) :=
  ⟨(cst_fin hC hR ht).1, hR.ok, ((((((((hL.far (w.heap.size + 1) 0 (by omega) _).far (w.heap.size + 1) 1 (by omega) _).far (w.heap.size + 1) 2 (by omega) _).far (w.heap.size + 1) 3 (by omega) _).far (w.heap.size + 1) 4 (by omega) _).far (w.heap.size + 1) 5 (by omega) _).far (w.heap.size + 1) 6 (by omega) _).mono (by omega)), bl_sC hC.below (w.heap.size + 1) (by omega) _ _ _ _ _ _ _⟩
end
/-- A copy in a variable of its own. -/
structure CSt (B N : Nat) (A : Na) (x : Ct) (w : World) : Prop where
  box : CBox N A x w
  ge : B ≤ N
  rows : Rows2 B w A x.ln x.gs
  ne1 : (Value.slice A.a A.n A.c).ownBlock ≠ some N
  ne2 : (Value.slice A.a' A.n' A.c').ownBlock ≠ some N
theorem cst_new {B : Nat} {A : Na} {x : Ct} {w : World} (h : Rows2 B w A x.ln x.gs) (hB : B ≤ w.heap.size) : CSt B w.heap.size A x (w.alloc (.cells #[.int .i64 x.kd, .int .i64 x.nu, .string x.tx, .int .i64 x.ve, .bool x.cl, .slice A.a A.n A.c, .slice A.a' A.n' A.c'] 29)) :=
  ⟨CBox.new w A x _, hB, h.keep (bl_alloc (Below.refl _ _) _), fun e => Nat.lt_irrefl _ (h.one.lt _ e).2, fun e => Nat.lt_irrefl _ (h.two.lt _ e).2⟩
section
variable {B N : Nat} {A : Na} {x y : Ct} {w u : World}
theorem CSt.keep (h : CSt B N A x w) (hb : Below w.heap.size w u) : CSt B N A x u := ⟨h.box.keep hb, h.ge, h.rows.keep hb, h.ne1, h.ne2⟩
theorem CSt.setc (h : CSt B N A x w) (o : Nat) (v : Value) (hb : CBox N A y (w.setCell ⟨N, o, none⟩ v)) (h1 : y.ln = x.ln) (h2 : y.gs = x.gs) : CSt B N A y (w.setCell ⟨N, o, none⟩ v) :=
  ⟨hb, h.ge, by rw [h1, h2]; exact h.rows.set N o h.ne1 h.ne2 v, h.ne1, h.ne2⟩
theorem CSt.line {a : Option Addr} {n c : Nat} {xs : List Int} (h : CSt B N A x w) (hr : w.ownsRow B 3 1 (.slice a n c) n (intsV xs)) (h1 : (Value.slice a n c).ownBlock ≠ some N) (h2 : ∀ q, (Value.slice a n c).ownBlock = some q → (Value.slice A.a' A.n' A.c').ownBlock ≠ some q) :
    CSt B N { A with a := a, n := n, c := c } { x with ln := xs } (w.setCell ⟨N, 5, none⟩ (.slice a n c)) :=
  ⟨h.box.set5.lists xs x.gs, h.ge, ⟨row_set hr N _ h1 _, row_set h.rows.two N _ h.ne2 _, h2⟩, h1, h.ne2⟩
theorem CSt.told {a : Option Addr} {n c : Nat} {xs : List Int} (h : CSt B N A x w) (hr : w.ownsRow B 3 1 (.slice a n c) n (intsV xs)) (h1 : (Value.slice a n c).ownBlock ≠ some N) (h2 : ∀ q, (Value.slice A.a A.n A.c).ownBlock = some q → (Value.slice a n c).ownBlock ≠ some q) :
    CSt B N { A with a' := a, n' := n, c' := c } { x with gs := xs } (w.setCell ⟨N, 6, none⟩ (.slice a n c)) :=
  ⟨h.box.set6.lists x.ln xs, h.ge, ⟨row_set h.rows.one N _ h.ne1 _, row_set hr N _ h1 _, h2⟩, h.ne1, h1⟩
end
end Go.Proofs.Ytbbhaekmjnincaa
