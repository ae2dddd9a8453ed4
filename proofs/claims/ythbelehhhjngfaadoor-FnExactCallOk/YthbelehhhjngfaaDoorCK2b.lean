/-
  A call's copy.
-/
import Derived.Test.YthbelehhhjngfaaDoorCK2
namespace Go.Proofs.YthbelehhhjngfaaDoor
open Go.RowKit Pl Il Tn

set_option maxHeartbeats 4000000 in
theorem toCall_any (x : Cl) (p : Option Addr) (m c : Nat) (w : World) (hI : CIn w x p m) (hm : m ≤ 2097152) :
    Calls Tryd.prog 6 #[.agg #[.int .i64 x.op, .int .i64 x.a, .int .i64 x.b, .int .i64 x.tk, .string x.nm, .int .i64 x.kd, .int .i64 x.nu, .string x.tx, .slice p m c]] w fun e w' => ∃ g, e = .returned (.agg #[.int .i64 x.op, .int .i64 x.a, .int .i64 x.b, .int .i64 x.tk, .string x.nm, .int .i64 x.kd, .int .i64 x.nu, .string x.tx, .slice (some ⟨g, 0, none⟩) m m]) ∧ CIn w' x (some ⟨g, 0, none⟩) m ∧ Below w.heap.size w w' := by
  obtain ⟨U0, hU0⟩ : ∃ W, W = ((w.alloc (.cells #[.int .i64 x.op, .int .i64 x.a, .int .i64 x.b, .int .i64 x.tk, .string x.nm, .int .i64 x.kd, .int .i64 x.nu, .string x.tx, .slice p m c] 26)).alloc (.cells #[.int .i64 0, .int .i64 0, .int .i64 0, .int .i64 0, .string ⟨#[]⟩, .int .i64 0, .int .i64 0, .string ⟨#[]⟩, .slice none 0 0] 32)).alloc (.cells #[.int .i64 0, .int .i64 0, .int .i64 0, .int .i64 0, .string ⟨#[]⟩, .int .i64 0, .int .i64 0, .string ⟨#[]⟩, .slice none 0 0] 32) := ⟨_, rfl⟩
  have B0 : Below w.heap.size w U0 := by rw [hU0]; exact bl_alloc (bl_alloc (bl_alloc (Below.refl _ _) _) _) _
  have z0 : U0.heap.size = w.heap.size + 3 := by rw [hU0]; simp
  have A0 : BoxL w.heap.size (clC x p m c) U0 := by rw [hU0]; exact ((BoxL.new w (clC x p m c) _).alloc _).alloc _
  have R0 : BoxL (w.heap.size + 1) [.int .i64 0, .int .i64 0, .int .i64 0, .int .i64 0, .string ⟨#[]⟩, .int .i64 0, .int .i64 0, .string ⟨#[]⟩, .slice none 0 0] U0 := by
    rw [hU0]
    have h := (BoxL.new (w.alloc (.cells #[.int .i64 x.op, .int .i64 x.a, .int .i64 x.b, .int .i64 x.tk, .string x.nm, .int .i64 x.kd, .int .i64 x.nu, .string x.tx, .slice p m c] 26)) [.int .i64 0, .int .i64 0, .int .i64 0, .int .i64 0, .string ⟨#[]⟩, .int .i64 0, .int .i64 0, .string ⟨#[]⟩, .slice none 0 0] 32).alloc (.cells #[.int .i64 0, .int .i64 0, .int .i64 0, .int .i64 0, .string ⟨#[]⟩, .int .i64 0, .int .i64 0, .string ⟨#[]⟩, .slice none 0 0] 32)
    simpa using h
  have X0 : BoxL (w.heap.size + 1 + 1) [.int .i64 0, .int .i64 0, .int .i64 0, .int .i64 0, .string ⟨#[]⟩, .int .i64 0, .int .i64 0, .string ⟨#[]⟩, .slice none 0 0] U0 := by
    rw [hU0]
    have h := BoxL.new ((w.alloc (.cells #[.int .i64 x.op, .int .i64 x.a, .int .i64 x.b, .int .i64 x.tk, .string x.nm, .int .i64 x.kd, .int .i64 x.nu, .string x.tx, .slice p m c] 26)).alloc (.cells #[.int .i64 0, .int .i64 0, .int .i64 0, .int .i64 0, .string ⟨#[]⟩, .int .i64 0, .int .i64 0, .string ⟨#[]⟩, .slice none 0 0] 32)) [.int .i64 0, .int .i64 0, .int .i64 0, .int .i64 0, .string ⟨#[]⟩, .int .i64 0, .int .i64 0, .string ⟨#[]⟩, .slice none 0 0] 32
    simpa using h
  have HI := hidOf hI
  have HZ := hidOf z0
  obtain ⟨p0, p1, p2, p3, p4, p5, p6, p7, p8⟩ := A0.c9
  obtain ⟨q0, q1, q2, q3, q4, q5, q6, q7, q8⟩ := X0.c9
  have xf := X0.fr
  clear hI z0
  go_enter Tryd.func6, Tryd.ntmps6
  go_upto_region 2 with fail
  rw [← hU0]
  clear hU0
  generalize hNR : w.heap.size + 1 = NR at R0 X0 q0 q1 q2 q3 q4 q5 q6 q7 q8 xf ⊢
  generalize hNX : NR + 1 = NX at X0 q0 q1 q2 q3 q4 q5 q6 q7 q8 xf ⊢
  have HNR := hidOf hNR
  have HNX := hidOf hNX
  clear hNR hNX
  have n1 : ¬ w.heap.size = NX := by have h := HNR.out; have h2 := HNX.out; omega
  have n2 : ¬ NX = w.heap.size := fun h => n1 h.symm
  go_wp2_with fail
  obtain ⟨U1, hU1⟩ : ∃ W, W = (((((U0).setCell ⟨NX, 0, none⟩ (.int .i64 x.op)).setCell ⟨NX, 1, none⟩ (.int .i64 x.a)).setCell ⟨NX, 2, none⟩ (.int .i64 x.b)).setCell ⟨NX, 3, none⟩ (.int .i64 x.tk)).setCell ⟨NX, 4, none⟩ (.string x.nm) := ⟨_, rfl⟩
  have A1 : BoxL w.heap.size (clC x p m c) U1 := by rw [hU1]; exact (((((A0).far NX 0 n1 (.int .i64 x.op)).far NX 1 n1 (.int .i64 x.a)).far NX 2 n1 (.int .i64 x.b)).far NX 3 n1 (.int .i64 x.tk)).far NX 4 n1 (.string x.nm)
  have R1 : BoxL NR [.int .i64 0, .int .i64 0, .int .i64 0, .int .i64 0, .string ⟨#[]⟩, .int .i64 0, .int .i64 0, .string ⟨#[]⟩, .slice none 0 0] U1 := by
    rw [hU1]
    have n3 : NR ≠ NX := by have h2 := HNX.out; omega
    exact (((((R0).far NX 0 n3 (.int .i64 x.op)).far NX 1 n3 (.int .i64 x.a)).far NX 2 n3 (.int .i64 x.b)).far NX 3 n3 (.int .i64 x.tk)).far NX 4 n3 (.string x.nm)
  have X1 : BoxL NX [.int .i64 x.op, .int .i64 x.a, .int .i64 x.b, .int .i64 x.tk, .string x.nm, .int .i64 0, .int .i64 0, .string ⟨#[]⟩, .slice none 0 0] U1 := by rw [hU1]; exact (((((X0).set 0 (by simp) (.int .i64 x.op)).set 1 (by simp) (.int .i64 x.a)).set 2 (by simp) (.int .i64 x.b)).set 3 (by simp) (.int .i64 x.tk)).set 4 (by simp) (.string x.nm)
  have B1 : Below w.heap.size w U1 := by
    rw [hU1]
    have n4 : w.heap.size ≤ NX := by have h := HNR.out; have h2 := HNX.out; omega
    exact bl_setB (bl_setB (bl_setB (bl_setB (bl_setB (B0) NX 0 n4 (.int .i64 x.op)) NX 1 n4 (.int .i64 x.a)) NX 2 n4 (.int .i64 x.b)) NX 3 n4 (.int .i64 x.tk)) NX 4 n4 (.string x.nm)
  rw [← hU1]
  clear hU1 A0 R0 X0 B0 p0 p1 p2 p3 p4 p5 p6 p7 p8 q0 q1 q2 q3 q4 q5 q6 q7 q8 xf
  refine (toMsg_any x.kd x.nu x.tx U1).mono ?_
  rintro e w1 ⟨rfl, b1⟩
  have A2 := A1.keep b1
  have R2 := R1.keep b1
  have X2 := X1.keep b1
  have B2 := bl_trans B1 b1
  clear A1 R1 X1 B1 b1
  obtain ⟨p0, p1, p2, p3, p4, p5, p6, p7, p8⟩ := A2.c9
  obtain ⟨q0, q1, q2, q3, q4, q5, q6, q7, q8⟩ := X2.c9
  have xf := X2.fr
  obtain ⟨U3, hU3⟩ : ∃ W, W = (((w1).setCell ⟨NX, 5, none⟩ (.int .i64 x.kd)).setCell ⟨NX, 6, none⟩ (.int .i64 x.nu)).setCell ⟨NX, 7, none⟩ (.string x.tx) := ⟨_, rfl⟩
  have A3 : BoxL w.heap.size (clC x p m c) U3 := by rw [hU3]; exact (((A2).far NX 5 n1 (.int .i64 x.kd)).far NX 6 n1 (.int .i64 x.nu)).far NX 7 n1 (.string x.tx)
  have R3 : BoxL NR [.int .i64 0, .int .i64 0, .int .i64 0, .int .i64 0, .string ⟨#[]⟩, .int .i64 0, .int .i64 0, .string ⟨#[]⟩, .slice none 0 0] U3 := by
    rw [hU3]
    have n3 : NR ≠ NX := by have h2 := HNX.out; omega
    exact (((R2).far NX 5 n3 (.int .i64 x.kd)).far NX 6 n3 (.int .i64 x.nu)).far NX 7 n3 (.string x.tx)
  have X3 : BoxL NX [.int .i64 x.op, .int .i64 x.a, .int .i64 x.b, .int .i64 x.tk, .string x.nm, .int .i64 x.kd, .int .i64 x.nu, .string x.tx, .slice none 0 0] U3 := by rw [hU3]; exact (((X2).set 5 (by simp) (.int .i64 x.kd)).set 6 (by simp) (.int .i64 x.nu)).set 7 (by simp) (.string x.tx)
  have B3 : Below w.heap.size w U3 := by
    rw [hU3]
    have n4 : w.heap.size ≤ NX := by have h := HNR.out; have h2 := HNX.out; omega
    exact bl_setB (bl_setB (bl_setB (B2) NX 5 n4 (.int .i64 x.kd)) NX 6 n4 (.int .i64 x.nu)) NX 7 n4 (.string x.tx)
  go_wp2_with fail
  rw [← hU3]
  clear hU3 A2 R2 X2 B2 p0 p1 p2 p3 p4 p5 p6 p7 p8 q0 q1 q2 q3 q4 q5 q6 q7 q8 xf
  refine (toTermS_any p m c x.fl U3 (HI.out.keep B3).fl hm).mono ?_
  rintro e w4 ⟨rfl, own4, b4⟩
  generalize hNF : U3.heap.size = NF at own4 ⊢
  have HNF := hidOf hNF
  have X4 := X3.keep b4
  have R4 := R3.keep b4
  have B4 := bl_trans B3 b4
  have n5 : NX < NF := by rw [← hNF]; exact X3.lt
  clear A3 R3 X3 B3 b4 hNF
  have n3 : NR ≠ NX := by have h2 := HNX.out; omega
  have n6 : w.heap.size ≤ NX := by have h := HNR.out; have h2 := HNX.out; omega
  have n7 : w.heap.size ≤ NR := by have h := HNR.out; omega
  have n8 : NX ≠ NR := fun h => n3 h.symm
  have n9 : NR < NF := by have h2 := HNX.out; omega
  have X5 := X4.set 8 (by simp) (.slice (some ⟨NF, 0, none⟩) m m)
  have R5 := R4.far NX 8 n3 (.slice (some ⟨NF, 0, none⟩) m m)
  have R6 := (((((((((R5).set 0 (by simp) (.int .i64 x.op)).set 1 (by simp) (.int .i64 x.a)).set 2 (by simp) (.int .i64 x.b)).set 3 (by simp) (.int .i64 x.tk)).set 4 (by simp) (.string x.nm)).set 5 (by simp) (.int .i64 x.kd)).set 6 (by simp) (.int .i64 x.nu)).set 7 (by simp) (.string x.tx)).set 8 (by simp) (.slice (some ⟨NF, 0, none⟩) m m)
  have B6 := bl_setB (bl_setB (bl_setB (bl_setB (bl_setB (bl_setB (bl_setB (bl_setB (bl_setB (bl_setB B4 NX 8 n6 (.slice (some ⟨NF, 0, none⟩) m m)) NR 0 n7 (.int .i64 x.op)) NR 1 n7 (.int .i64 x.a)) NR 2 n7 (.int .i64 x.b)) NR 3 n7 (.int .i64 x.tk)) NR 4 n7 (.string x.nm)) NR 5 n7 (.int .i64 x.kd)) NR 6 n7 (.int .i64 x.nu)) NR 7 n7 (.string x.tx)) NR 8 n7 (.slice (some ⟨NF, 0, none⟩) m m)
  have O6 := (((((((((own4.far NX 8 n5 (.slice (some ⟨NF, 0, none⟩) m m)).far NR 0 n9 (.int .i64 x.op)).far NR 1 n9 (.int .i64 x.a)).far NR 2 n9 (.int .i64 x.b)).far NR 3 n9 (.int .i64 x.tk)).far NR 4 n9 (.string x.nm)).far NR 5 n9 (.int .i64 x.kd)).far NR 6 n9 (.int .i64 x.nu)).far NR 7 n9 (.string x.tx)).far NR 8 n9 (.slice (some ⟨NF, 0, none⟩) m m)
  have HF := hidOf (And.intro O6.tm B6)
  obtain ⟨q0, q1, q2, q3, q4, q5, q6, q7, q8⟩ := X4.c9
  have xf := X4.fr
  obtain ⟨p0, p1, p2, p3, p4, p5, p6, p7, p8⟩ := R5.c9
  have rf := R5.fr
  obtain ⟨r0, r1, r2, r3, r4, r5, r6, r7, r8⟩ := R6.c9
  obtain ⟨s0, s1, s2, s3, s4, s5, s6, s7, s8⟩ := X5.c9
  clear O6 B6 R6 X5 R5 X4 R4 B4 own4
  go_wp2
  exact bodyPost_ret (v := .agg #[.int .i64 x.op, .int .i64 x.a, .int .i64 x.b, .int .i64 x.tk, .string x.nm, .int .i64 x.kd, .int .i64 x.nu, .string x.tx, .slice (some ⟨NF, 0, none⟩) m m]) (by simp [results, Tryd.results6, go_sem, r0, r1, r2, r3, r4, r5, r6, r7, r8]) rfl ⟨NF, rfl, ⟨HI.out.nm, HI.out.tx, HF.out.1⟩, HF.out.2⟩
end Go.Proofs.YthbelehhhjngfaaDoor
