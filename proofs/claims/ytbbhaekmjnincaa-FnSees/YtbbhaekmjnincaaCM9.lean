/-
  Cells: what one who has been told is answered.
-/
import Derived.Test.YtbbhaekmjnincaaCM8
import Derived.Test.YtbbhaekmjnincaaCCe
namespace Go.Proofs.Ytbbhaekmjnincaa
open Go.RowKit Pl Il

theorem Pl.Box3.below {N B : Nat} {v0 v1 v2 : Value} {w u : World} (h : Box3 N v0 v1 v2 w) (hb : Below B w u) (hN : N < B) : Box3 N v0 v1 v2 u where
  lt := Nat.lt_of_lt_of_le h.lt hb.size
  c0 := by rw [hb.cell (p := ⟨N, 0, none⟩) hN]; exact h.c0
  c1 := by rw [hb.cell (p := ⟨N, 1, none⟩) hN]; exact h.c1
  c2 := by rw [hb.cell (p := ⟨N, 2, none⟩) hN]; exact h.c2
  fr := fun k => by rw [hb.frozen (p := ⟨N, k, none⟩) hN]; exact h.fr k
/-- The argument's variable, the two answers'. -/
structure CC3 (w : World) (A : Na) (x : Ct) (u : World) : Prop where
  c : CCtx w A x u
  m : Box3 (w.heap.size + 2) (.int .i64 0) (.int .i64 0) (.string ⟨#[]⟩) u
  sz : w.heap.size + 3 ≤ u.heap.size
theorem CC3.keep {w : World} {A : Na} {x : Ct} {u u' : World} {B : Nat} (h : CC3 w A x u) (hb : Below B u u') (hB : w.heap.size + 3 ≤ B) : CC3 w A x u' := ⟨h.c.keep hb (by omega), h.m.below hb (by omega), Nat.le_trans h.sz hb.size⟩
theorem CC3.kp {w : World} {A : Na} {x : Ct} {u u' : World} (h : CC3 w A x u) (hb : Below u.heap.size u u') : CC3 w A x u' := h.keep hb h.sz
theorem cc3_new {w : World} {A : Na} {x : Ct} (hI : CIn w A x) : CC3 w A x (((w.alloc (.cells #[.int .i64 x.kd, .int .i64 x.nu, .string x.tx, .int .i64 x.ve, .bool x.cl, .slice A.a A.n A.c, .slice A.a' A.n' A.c'] 29)).alloc (.cells #[.int .i64 0, .int .i64 0, .string ⟨#[]⟩, .int .i64 0, .bool false, .slice none 0 0, .slice none 0 0] 29)).alloc (.cells #[.int .i64 0, .int .i64 0, .string ⟨#[]⟩] 25)) := by
  have hc := cctx_new hI
  have s1 : ((w.alloc (.cells #[.int .i64 x.kd, .int .i64 x.nu, .string x.tx, .int .i64 x.ve, .bool x.cl, .slice A.a A.n A.c, .slice A.a' A.n' A.c'] 29)).alloc (.cells #[.int .i64 0, .int .i64 0, .string ⟨#[]⟩, .int .i64 0, .bool false, .slice none 0 0, .slice none 0 0] 29)).heap.size = w.heap.size + 2 := by simp
  exact ⟨hc.kp (bl_alloc (Below.refl _ _) _), by rw [← s1]; exact Box3.new _ _ _ _ _, by simp⟩
theorem seen_fin {w : World} {A A' : Na} {x y : Ct} {u : World} (hC : CC3 w A x u) (hR : Rows2 (w.heap.size + 3) u A' y.ln y.gs) (ht : y.tx.size ≤ maxLen) (m0 m1 m2 : Value) :
    COwn w.heap.size ((((((((((u.setCell ⟨w.heap.size + 1, 0, none⟩ (.int .i64 y.kd)).setCell ⟨w.heap.size + 1, 1, none⟩ (.int .i64 y.nu)).setCell ⟨w.heap.size + 1, 2, none⟩ (.string y.tx)).setCell ⟨w.heap.size + 1, 3, none⟩ (.int .i64 y.ve)).setCell ⟨w.heap.size + 1, 4, none⟩ (.bool y.cl)).setCell ⟨w.heap.size + 1, 5, none⟩ (.slice A'.a A'.n A'.c)).setCell ⟨w.heap.size + 1, 6, none⟩ (.slice A'.a' A'.n' A'.c')).setCell ⟨w.heap.size + 2, 0, none⟩ m0).setCell ⟨w.heap.size + 2, 1, none⟩ m1).setCell ⟨w.heap.size + 2, 2, none⟩ m2) A' y ∧ A'.ok ∧ Below w.heap.size w ((((((((((u.setCell ⟨w.heap.size + 1, 0, none⟩ (.int .i64 y.kd)).setCell ⟨w.heap.size + 1, 1, none⟩ (.int .i64 y.nu)).setCell ⟨w.heap.size + 1, 2, none⟩ (.string y.tx)).setCell ⟨w.heap.size + 1, 3, none⟩ (.int .i64 y.ve)).setCell ⟨w.heap.size + 1, 4, none⟩ (.bool y.cl)).setCell ⟨w.heap.size + 1, 5, none⟩ (.slice A'.a A'.n A'.c)).setCell ⟨w.heap.size + 1, 6, none⟩ (.slice A'.a' A'.n' A'.c')).setCell ⟨w.heap.size + 2, 0, none⟩ m0).setCell ⟨w.heap.size + 2, 1, none⟩ m1).setCell ⟨w.heap.size + 2, 2, none⟩ m2) :=
  ⟨((((((hR.cown ht).farA (w.heap.size + 1) (by omega) _ _ _ _ _ _ _).far (w.heap.size + 2) 0 (by omega) m0).far (w.heap.size + 2) 1 (by omega) m1).far (w.heap.size + 2) 2 (by omega) m2).mono (by omega)), hR.ok, bl_set1 (bl_set1 (bl_set1 (bl_sC hC.c.below (w.heap.size + 1) (by omega) _ _ _ _ _ _ _) (w.heap.size + 2) 0 (by omega) m0) (w.heap.size + 2) 1 (by omega) m1) (w.heap.size + 2) 2 (by omega) m2⟩
def seenM (x : Ct) (who : Int) : Ct × Int × Int × ByteArray × Int × Int :=
  if okC x = false then (x, 0, 0, ⟨#[]⟩, 0, 1) else if hasL x.ln who = true then (x, 0, 0, ⟨#[]⟩, 0, 4) else if hasL x.gs who = true then ({ x with gs := lessL x.gs who }, x.kd, x.nu, x.tx, x.ve, lookC x) else (x, 0, 0, ⟨#[]⟩, 0, 3)
theorem seen_len (x : Ct) (y : Int) : (seenM x y).1.ln.length ≤ x.ln.length + x.gs.length + 1 ∧ (seenM x y).1.gs.length ≤ x.ln.length + x.gs.length + 1 := by
  have h1 : (lessL x.gs y).length ≤ x.gs.length := by unfold lessL; exact List.length_erase_le
  unfold seenM
  repeat' split
  all_goals (constructor <;> dsimp only <;> omega)
end Go.Proofs.Ytbbhaekmjnincaa
