/-
  What a call on a cell and a change holds on to.
-/
import Derived.Test.YtbbhaekmjnincaaCCe
import Derived.Test.YtbbhaekmjnincaaBQ
namespace Go.Proofs.Ytbbhaekmjnincaa
open Go.RowKit Pl Il

theorem Box4.below {N : Nat} {v0 v1 v2 v3 : Value} {w u : World} {B : Nat} (h : Box4 N v0 v1 v2 v3 w) (hb : Below B w u) (hN : N < B) : Box4 N v0 v1 v2 v3 u := h.of_block (hb.block N hN) (Nat.lt_of_lt_of_le h.lt hb.size)
/-- The argument's variable, the answer's. -/
structure DCtx (w : World) (A : Na) (x : Ct) (q : Int × Int × Int × ByteArray) (u : World) : Prop where
  box0 : CBox w.heap.size A x u
  chg : Box4 (w.heap.size + 1) (.int .i64 q.1) (.int .i64 q.2.1) (.int .i64 q.2.2.1) (.string q.2.2.2) u
  box1 : CBox (w.heap.size + 1 + 1) Na.zero Ct.zero u
  nin : CIn w A x
  below : Below w.heap.size w u
  sz : w.heap.size + 3 ≤ u.heap.size
section
variable {w : World} {A : Na} {x : Ct} {q : Int × Int × Int × ByteArray} {u u' : World}
theorem DCtx.keep {B : Nat} (h : DCtx w A x q u) (hb : Below B u u') (hB : w.heap.size + 3 ≤ B) : DCtx w A x q u' :=
  ⟨h.box0.below hb (by omega), h.chg.below hb (by omega), h.box1.below hb (by omega), h.nin, h.below.trans (hb.mono (by omega)), Nat.le_trans h.sz hb.size⟩
theorem DCtx.kp (h : DCtx w A x q u) (hb : Below u.heap.size u u') : DCtx w A x q u' := h.keep hb h.sz
theorem DCtx.ninX (h : DCtx w A x q u) : CIn u A x := h.nin.keep h.below
theorem dctx_new (q : Int × Int × Int × ByteArray) (hI : CIn w A x) : DCtx w A x q (((w.alloc (.cells #[.int .i64 x.kd, .int .i64 x.nu, .string x.tx, .int .i64 x.ve, .bool x.cl, .slice A.a A.n A.c, .slice A.a' A.n' A.c'] 29)).alloc (.cells #[.int .i64 q.1, .int .i64 q.2.1, .int .i64 q.2.2.1, .string q.2.2.2] 34)).alloc (.cells #[.int .i64 0, .int .i64 0, .string ⟨#[]⟩, .int .i64 0, .bool false, .slice none 0 0, .slice none 0 0] 29)) := by
  have s0 : (w.alloc (.cells #[.int .i64 x.kd, .int .i64 x.nu, .string x.tx, .int .i64 x.ve, .bool x.cl, .slice A.a A.n A.c, .slice A.a' A.n' A.c'] 29)).heap.size = w.heap.size + 1 := by simp
  have s1 : ((w.alloc (.cells #[.int .i64 x.kd, .int .i64 x.nu, .string x.tx, .int .i64 x.ve, .bool x.cl, .slice A.a A.n A.c, .slice A.a' A.n' A.c'] 29)).alloc (.cells #[.int .i64 q.1, .int .i64 q.2.1, .int .i64 q.2.2.1, .string q.2.2.2] 34)).heap.size = w.heap.size + 1 + 1 := by simp
  refine ⟨((CBox.new w A x _).alloc _).alloc _, ?_, by rw [← s1]; exact CBox.newZ _ _, hI, bl_alloc (bl_alloc (bl_alloc (Below.refl _ _) _) _) _, by simp⟩
  have h := (Box4.new (w.alloc (.cells #[.int .i64 x.kd, .int .i64 x.nu, .string x.tx, .int .i64 x.ve, .bool x.cl, .slice A.a A.n A.c, .slice A.a' A.n' A.c'] 29)) (.int .i64 q.1) (.int .i64 q.2.1) (.int .i64 q.2.2.1) (.string q.2.2.2) 34).alloc (.cells #[.int .i64 0, .int .i64 0, .string ⟨#[]⟩, .int .i64 0, .bool false, .slice none 0 0, .slice none 0 0] 29)
  rw [s0] at h
  exact h
theorem dst_fin {A' : Na} {y : Ct} (hC : DCtx w A x q u) (hR : Rows2 (w.heap.size + 3) u A' y.ln y.gs) (ht : y.tx.size ≤ maxLen) :
    COwn w.heap.size (((((((u.setCell ⟨w.heap.size + 1 + 1, 0, none⟩ (.int .i64 y.kd)).setCell ⟨w.heap.size + 1 + 1, 1, none⟩ (.int .i64 y.nu)).setCell ⟨w.heap.size + 1 + 1, 2, none⟩ (.string y.tx)).setCell ⟨w.heap.size + 1 + 1, 3, none⟩ (.int .i64 y.ve)).setCell ⟨w.heap.size + 1 + 1, 4, none⟩ (.bool y.cl)).setCell ⟨w.heap.size + 1 + 1, 5, none⟩ (.slice A'.a A'.n A'.c)).setCell ⟨w.heap.size + 1 + 1, 6, none⟩ (.slice A'.a' A'.n' A'.c')) A' y ∧ A'.ok ∧ Below w.heap.size w (((((((u.setCell ⟨w.heap.size + 1 + 1, 0, none⟩ (.int .i64 y.kd)).setCell ⟨w.heap.size + 1 + 1, 1, none⟩ (.int .i64 y.nu)).setCell ⟨w.heap.size + 1 + 1, 2, none⟩ (.string y.tx)).setCell ⟨w.heap.size + 1 + 1, 3, none⟩ (.int .i64 y.ve)).setCell ⟨w.heap.size + 1 + 1, 4, none⟩ (.bool y.cl)).setCell ⟨w.heap.size + 1 + 1, 5, none⟩ (.slice A'.a A'.n A'.c)).setCell ⟨w.heap.size + 1 + 1, 6, none⟩ (.slice A'.a' A'.n' A'.c')) :=
  ⟨((hR.cown ht).farA (w.heap.size + 1 + 1) (by omega) _ _ _ _ _ _ _).mono (by omega), hR.ok, bl_sC hC.below (w.heap.size + 1 + 1) (by omega) _ _ _ _ _ _ _⟩
theorem dst_finT {A' : Na} {y : Ct} {a : Option Addr} {m : Nat} {l : List Int} (hC : DCtx w A x q u) (hR : Rows2 (w.heap.size + 3) u A' y.ln y.gs) (ht : y.tx.size ≤ maxLen) (hL : Il.OwnAt (w.heap.size + 3) u a m l) :
    COwn w.heap.size (((((((u.setCell ⟨w.heap.size + 1 + 1, 0, none⟩ (.int .i64 y.kd)).setCell ⟨w.heap.size + 1 + 1, 1, none⟩ (.int .i64 y.nu)).setCell ⟨w.heap.size + 1 + 1, 2, none⟩ (.string y.tx)).setCell ⟨w.heap.size + 1 + 1, 3, none⟩ (.int .i64 y.ve)).setCell ⟨w.heap.size + 1 + 1, 4, none⟩ (.bool y.cl)).setCell ⟨w.heap.size + 1 + 1, 5, none⟩ (.slice A'.a A'.n A'.c)).setCell ⟨w.heap.size + 1 + 1, 6, none⟩ (.slice A'.a' A'.n' A'.c')) A' y ∧ A'.ok ∧ Il.OwnAt w.heap.size (((((((u.setCell ⟨w.heap.size + 1 + 1, 0, none⟩ (.int .i64 y.kd)).setCell ⟨w.heap.size + 1 + 1, 1, none⟩ (.int .i64 y.nu)).setCell ⟨w.heap.size + 1 + 1, 2, none⟩ (.string y.tx)).setCell ⟨w.heap.size + 1 + 1, 3, none⟩ (.int .i64 y.ve)).setCell ⟨w.heap.size + 1 + 1, 4, none⟩ (.bool y.cl)).setCell ⟨w.heap.size + 1 + 1, 5, none⟩ (.slice A'.a A'.n A'.c)).setCell ⟨w.heap.size + 1 + 1, 6, none⟩ (.slice A'.a' A'.n' A'.c')) a m l ∧ Below w.heap.size w (((((((u.setCell ⟨w.heap.size + 1 + 1, 0, none⟩ (.int .i64 y.kd)).setCell ⟨w.heap.size + 1 + 1, 1, none⟩ (.int .i64 y.nu)).setCell ⟨w.heap.size + 1 + 1, 2, none⟩ (.string y.tx)).setCell ⟨w.heap.size + 1 + 1, 3, none⟩ (.int .i64 y.ve)).setCell ⟨w.heap.size + 1 + 1, 4, none⟩ (.bool y.cl)).setCell ⟨w.heap.size + 1 + 1, 5, none⟩ (.slice A'.a A'.n A'.c)).setCell ⟨w.heap.size + 1 + 1, 6, none⟩ (.slice A'.a' A'.n' A'.c')) :=
  ⟨(dst_fin hC hR ht).1, hR.ok, ((((((((hL.far (w.heap.size + 1 + 1) 0 (by omega) _).far (w.heap.size + 1 + 1) 1 (by omega) _).far (w.heap.size + 1 + 1) 2 (by omega) _).far (w.heap.size + 1 + 1) 3 (by omega) _).far (w.heap.size + 1 + 1) 4 (by omega) _).far (w.heap.size + 1 + 1) 5 (by omega) _).far (w.heap.size + 1 + 1) 6 (by omega) _).mono (by omega)), bl_sC hC.below (w.heap.size + 1 + 1) (by omega) _ _ _ _ _ _ _⟩
end
end Go.Proofs.Ytbbhaekmjnincaa
