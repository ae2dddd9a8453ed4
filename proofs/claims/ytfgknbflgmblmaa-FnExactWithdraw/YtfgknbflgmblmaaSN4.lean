/-
  A notification in a variable of its own, its lists rows of its own: what stores leave of it; what is handed back.
-/
import Derived.Test.YtfgknbflgmblmaaSN3
namespace Go.Proofs.Ytfgknbflgmblmaa
open Go.RowKit Pl Il

structure NSr (B N : Nat) (A : Na) (x : Nt) (w : World) : Prop where
  box : NBox N A x w
  ge : B ≤ N
  rows : NRow B w A x
  ne1 : (Value.slice A.a A.n A.c).ownBlock ≠ some N
  ne2 : (Value.slice A.a' A.n' A.c').ownBlock ≠ some N
theorem nsr_new {B : Nat} {A : Na} {x : Nt} {w : World} (h : NRow B w A x) (hB : B ≤ w.heap.size) : NSr B w.heap.size A x (w.alloc (.cells #[.bool x.pm, .slice A.a A.n A.c, .slice A.a' A.n' A.c', .int .i64 x.on, .int .i64 x.sp, .int .i64 x.tk] 27)) :=
  ⟨NBox.new w A x _, hB, h.keep (bl_alloc (Below.refl _ _) _), fun e => Nat.lt_irrefl _ (h.one.lt _ e).2, fun e => Nat.lt_irrefl _ (h.two.lt _ e).2⟩
section
variable {B N : Nat} {A : Na} {x y : Nt} {w u : World}
theorem NRow.set (h : NRow B w A x) (N o : Nat) (h1 : (Value.slice A.a A.n A.c).ownBlock ≠ some N) (h2 : (Value.slice A.a' A.n' A.c').ownBlock ≠ some N) (v : Value) : NRow B (w.setCell ⟨N, o, none⟩ v) A x := ⟨own_set h.one N o h1 v, own_set h.two N o h2 v⟩
theorem NSr.keep (h : NSr B N A x w) (hb : Below w.heap.size w u) : NSr B N A x u := ⟨h.box.keep hb, h.ge, h.rows.keep hb, h.ne1, h.ne2⟩
theorem NSr.setc (h : NSr B N A x w) (o : Nat) (v : Value) (hb : NBox N A y (w.setCell ⟨N, o, none⟩ v)) (h1 : y.ln = x.ln) (h2 : y.gs = x.gs) : NSr B N A y (w.setCell ⟨N, o, none⟩ v) :=
  ⟨hb, h.ge, ⟨by rw [h1]; exact own_set h.rows.one N o h.ne1 v, by rw [h2]; exact own_set h.rows.two N o h.ne2 v⟩, h.ne1, h.ne2⟩
theorem NSr.line {a : Option Addr} {n c : Nat} {xs : List Int} (h : NSr B N A x w) (hr : w.ownsRow B 3 1 (.slice a n c) n (intsV xs)) (h1 : (Value.slice a n c).ownBlock ≠ some N) :
    NSr B N { A with a := a, n := n, c := c } { x with ln := xs } (w.setCell ⟨N, 1, none⟩ (.slice a n c)) :=
  ⟨h.box.set1.lists xs x.gs, h.ge, ⟨own_set hr N _ h1 _, own_set h.rows.two N _ h.ne2 _⟩, h1, h.ne2⟩
theorem NSr.told {a : Option Addr} {n c : Nat} {xs : List (Int × Bool)} (h : NSr B N A x w) (hr : w.ownsRow B 44 2 (.slice a n c) n (gflat xs)) (h1 : (Value.slice a n c).ownBlock ≠ some N) :
    NSr B N { A with a' := a, n' := n, c' := c } { x with gs := xs } (w.setCell ⟨N, 2, none⟩ (.slice a n c)) :=
  ⟨h.box.set2.lists x.ln xs, h.ge, ⟨own_set h.rows.one N _ h.ne1 _, own_set hr N _ h1 _⟩, h.ne1, h1⟩
theorem NSr.below {w0 : World} (h : NSr B N A x w0) (hb : Below B w u) (o : Nat) (v : Value) : Below B w (u.setCell ⟨N, o, none⟩ v) := bl_set1' hb N o h.ge v
theorem NSr.kb {B' : Nat} (h : NSr B N A x w) (hb : Below B' w u) (hB : w.heap.size ≤ B') : NSr B N A x u := h.keep (hb.mono hB)
end
theorem nsr_fin {w : World} {A A' : Na} {x y : Nt} {u : World} (hC : NCtx w A x u) (hR : NRow (w.heap.size + 2) u A' y) :
    NOwn w.heap.size ((((((u.setCell ⟨w.heap.size + 1, 0, none⟩ (.bool y.pm)).setCell ⟨w.heap.size + 1, 1, none⟩ (.slice A'.a A'.n A'.c)).setCell ⟨w.heap.size + 1, 2, none⟩ (.slice A'.a' A'.n' A'.c')).setCell ⟨w.heap.size + 1, 3, none⟩ (.int .i64 y.on)).setCell ⟨w.heap.size + 1, 4, none⟩ (.int .i64 y.sp)).setCell ⟨w.heap.size + 1, 5, none⟩ (.int .i64 y.tk)) A' y ∧ A'.n ≤ A'.c ∧ Below w.heap.size w ((((((u.setCell ⟨w.heap.size + 1, 0, none⟩ (.bool y.pm)).setCell ⟨w.heap.size + 1, 1, none⟩ (.slice A'.a A'.n A'.c)).setCell ⟨w.heap.size + 1, 2, none⟩ (.slice A'.a' A'.n' A'.c')).setCell ⟨w.heap.size + 1, 3, none⟩ (.int .i64 y.on)).setCell ⟨w.heap.size + 1, 4, none⟩ (.int .i64 y.sp)).setCell ⟨w.heap.size + 1, 5, none⟩ (.int .i64 y.tk)) := by
  have hlt : w.heap.size + 1 < w.heap.size + 2 := by omega
  exact ⟨(hR.far6 (w.heap.size + 1) hlt _ _ _ _ _ _).own.mono (by omega), hR.cap, bl_set6' hC.below (w.heap.size + 1) (by omega) _ _ _ _ _ _⟩
end Go.Proofs.Ytfgknbflgmblmaa
