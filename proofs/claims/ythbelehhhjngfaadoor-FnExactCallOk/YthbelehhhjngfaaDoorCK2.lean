/-
  The law's helpers on calls: how long one is, a copy of it, one held against itself.
-/
import Derived.Test.YthbelehhhjngfaaDoorCK1
import Derived.Test.YthbelehhhjngfaaDoorLF2
import Derived.Deep.Cut
namespace Go.Proofs.YthbelehhhjngfaaDoor
open Go.RowKit Pl Il Tn

theorem eqMsC_same (k n : Int) (s : ByteArray) (w : World) :
    Calls Tryd.prog 21 #[.agg #[.int .i64 k, .int .i64 n, .string s], .agg #[.int .i64 k, .int .i64 n, .string s]] w fun e w' => e = .returned (.bool true) ∧ Below w.heap.size w w' := by
  go_enter Tryd.func21, Tryd.ntmps21
  go_wp2
  go_ret
  exact ⟨rfl, bl_alloc (bl_alloc (Below.refl _ _) _) _⟩
/-- What szCall tells. -/
def SzC (m : Nat) (e : Ending) : Prop := ∃ k : Int, e = .returned (.int .i64 k) ∧ (k < 0 ∨ (0 ≤ k ∧ k ≤ 1048576 ∧ m ≤ 1048576))
set_option maxHeartbeats 4000000 in
theorem szCall_any (x : Cl) (p : Option Addr) (m c : Nat) (w : World) (hI : CIn w x p m) (hn : m ≤ 9223372036854775807) :
    Calls Tryd.prog 4 #[.agg #[.int .i64 x.op, .int .i64 x.a, .int .i64 x.b, .int .i64 x.tk, .string x.nm, .int .i64 x.kd, .int .i64 x.nu, .string x.tx, .slice p m c], .int .i64 1048576] w fun e w' => SzC m e ∧ Below w.heap.size w w' := by
  obtain ⟨hnm, htx, hfl⟩ := hI
  have HT := hidOf htx
  have HF := hidOf hfl
  clear htx hfl
  unfold maxLen at hnm
  by_cases h0 : 1048576 < (x.nm.size : Int)
  · have h0' : 1048576 - (x.nm.size : Int) < 0 := by omega
    go_enter Tryd.func4, Tryd.ntmps4
    go_wp2_with fail
    go_ret
    exact ⟨⟨_, rfl, .inl (by omega)⟩, bl_alloc (Below.refl _ _) _⟩
  · obtain ⟨W, hW⟩ : ∃ W, W = w.alloc (.cells #[.int .i64 x.op, .int .i64 x.a, .int .i64 x.b, .int .i64 x.tk, .string x.nm, .int .i64 x.kd, .int .i64 x.nu, .string x.tx, .slice p m c] 26) := ⟨_, rfl⟩
    have B0 : Below w.heap.size w W := by rw [hW]; exact bl_alloc (Below.refl _ _) _
    have X0 : BoxL w.heap.size (clC x p m c) W := by rw [hW]; exact BoxL.new w (clC x p m c) _
    have h0' : ¬ 1048576 - (x.nm.size : Int) < 0 := by omega
    have HS := hidOf (fun u => szMsg_any x.kd x.nu (1048576 - (x.nm.size : Int)) x.tx u HT.out (by omega) (by omega))
    have HN0 := hidOf (show (x.nm.size : Int) ≤ 1048576 by omega)
    obtain ⟨p0, p1, p2, p3, p4, p5, p6, p7, p8⟩ := X0.c9
    go_enter Tryd.func4, Tryd.ntmps4
    go_upto_region 1 with fail
    rw [← hW]
    clear hW
    go_wp2_with fail
    refine (HS.out W).mono ?_
    rintro e w1 ⟨hcase, b1⟩
    have B1 := bl_trans B0 b1
    rcases hcase with ⟨hlt, rfl⟩ | ⟨hle, rfl⟩
    · clear p0 p1 p2 p3 p4 p5 p6 p7 p8 X0 B0 b1 hlt h0'
      go_wp2_with fail
      go_ret
      exact ⟨⟨_, rfl, .inl (by omega)⟩, B1⟩
    · have X1 := X0.keep b1
      obtain ⟨l, hl⟩ : ∃ l : Int, 1048576 - (x.nm.size : Int) - (x.tx.size : Int) = l := ⟨_, rfl⟩
      have hl0 : ¬ l < 0 := by omega
      have HL := hidOf (show 0 ≤ l ∧ l ≤ 1048576 by constructor <;> omega)
      have HC := hidOf (szTermS_any p m c x.fl l w1 (HF.out.keep B1) hn HL.out.1 HL.out.2)
      rw [hl]
      clear p0 p1 p2 p3 p4 p5 p6 p7 p8 X0 B0 b1 hle hl h0' h0 hnm
      obtain ⟨p0, p1, p2, p3, p4, p5, p6, p7, p8⟩ := X1.c9
      go_wp2_with fail
      refine HC.out.mono ?_
      rintro e w2 ⟨⟨k, rfl, hk⟩, b2⟩
      have B2 := bl_trans B1 b2
      clear p0 p1 p2 p3 p4 p5 p6 p7 p8 X1 B1 b2 HC
      rcases hk with hk | ⟨hk, hk2, hm⟩
      · go_wp2_with fail
        go_ret
        exact ⟨⟨_, rfl, .inl (by omega)⟩, B2⟩
      · have hk' : ¬ k < 0 := by omega
        have HK := hidOf (show 0 ≤ k ∧ k ≤ 1048576 ∧ m ≤ 1048576 by refine ⟨?_, ?_, ?_⟩ <;> omega)
        clear hk hk2 hm
        go_wp2_with fail
        go_ret
        exact ⟨⟨_, rfl, .inr HK.out⟩, B2⟩
set_option maxHeartbeats 4000000 in
theorem eqCall_same (x : Cl) (p p' : Option Addr) (m c c' : Nat) (w : World) (h1 : CIn w x p m) (h2 : CIn w x p' m) (hm : m ≤ 2097152) :
    Calls Tryd.prog 8 #[.agg #[.int .i64 x.op, .int .i64 x.a, .int .i64 x.b, .int .i64 x.tk, .string x.nm, .int .i64 x.kd, .int .i64 x.nu, .string x.tx, .slice p m c], .agg #[.int .i64 x.op, .int .i64 x.a, .int .i64 x.b, .int .i64 x.tk, .string x.nm, .int .i64 x.kd, .int .i64 x.nu, .string x.tx, .slice p' m c']] w fun e w' => e = .returned (.bool true) ∧ Below w.heap.size w w' := by
  generalize hW0 : w.alloc (.cells #[.int .i64 x.op, .int .i64 x.a, .int .i64 x.b, .int .i64 x.tk, .string x.nm, .int .i64 x.kd, .int .i64 x.nu, .string x.tx, .slice p m c] 32) = W0
  generalize hW1 : W0.alloc (.cells #[.int .i64 x.op, .int .i64 x.a, .int .i64 x.b, .int .i64 x.tk, .string x.nm, .int .i64 x.kd, .int .i64 x.nu, .string x.tx, .slice p' m c'] 32) = W1
  have B0 : Below w.heap.size w W0 := by subst hW0; exact bl_alloc (Below.refl _ _) _
  have B1 : Below w.heap.size w W1 := by subst hW1; exact bl_alloc B0 _
  have s0 : W0.heap.size = w.heap.size + 1 := by subst hW0; simp
  have x0 : BoxL w.heap.size (clC x p m c) W1 := by subst hW1 hW0; exact (BoxL.new w (clC x p m c) _).alloc _
  have x1 : BoxL (w.heap.size + 1) (clC x p' m c') W1 := by subst hW1; rw [← s0]; exact BoxL.new W0 (clC x p' m c') _
  have k1 := hidOf (h1.keep B1)
  have k2 := hidOf (h2.keep B1)
  have X0 := hidOf x0
  have X1 := hidOf x1
  obtain ⟨p0, p1, p2, p3, p4, p5, p6, p7, p8⟩ := x0.c9
  obtain ⟨q0, q1, q2, q3, q4, q5, q6, q7, q8⟩ := x1.c9
  have e0 : (x.op != x.op) = false := by simp
  have e1 : (x.a != x.a) = false := by simp
  have e2 : (x.b != x.b) = false := by simp
  have e3 : (x.tk != x.tk) = false := by simp
  have HE := fun u => hidOf (eqMsC_same x.kd x.nu x.tx u)
  clear h1 h2 x0 x1
  go_enter Tryd.func8, Tryd.ntmps8
  go_wp2_with fail
  refine ((HE _).out).mono ?_
  rintro e w0 ⟨rfl, hb0⟩
  have hB0 := bl_trans B1 hb0
  have HF := hidOf (eqTermS_any p p' m m c c' x.fl x.fl w0 (k1.out.keep hb0).fl (k2.out.keep hb0).fl hm hm)
  rw [eqFL_self] at HF
  have X0 := hidOf (X0.out.keep hb0)
  have X1 := hidOf (X1.out.keep hb0)
  clear p0 p1 p2 p3 p4 p5 p6 p7 p8 q0 q1 q2 q3 q4 q5 q6 q7 q8 hW0 hW1 B0 B1 hb0 HE k1 k2 s0 e0 e1 e2 e3
  obtain ⟨p0, p1, p2, p3, p4, p5, p6, p7, p8⟩ := X0.out.c9
  obtain ⟨q0, q1, q2, q3, q4, q5, q6, q7, q8⟩ := X1.out.c9
  go_wp2_with fail
  refine HF.out.mono ?_
  rintro e w1 ⟨rfl, hb1⟩
  have hB := bl_trans hB0 hb1
  clear p0 p1 p2 p3 p4 p5 p6 p7 p8 q0 q1 q2 q3 q4 q5 q6 q7 q8 X0 X1 hb1 hB0 HF
  go_wp2
  go_ret
  exact ⟨rfl, hB⟩
end Go.Proofs.YthbelehhhjngfaaDoor
