/-
  Walk of the law on Lag, out of the contracts of the specification's and the program's.
-/
import Derived.Test.YtihdglmiecifjaaZRbRR318
namespace Go.Proofs.Ytihdglmiecifjaa
open Go.RowKit Pl Il

set_option maxRecDepth 100000 in
set_option maxHeartbeats 4000000 in
theorem exactLag_of (hSp : LagDone 11) (hIm : LagDone 12) (M : Rm) (v : Rv) (id : Int) (w : World) (hI : RIn w M v) (hm : RLe M 9223372036854775807) (hw : RWf v) :
    Calls Try.prog 4 #[.agg #[.int .i64 v.cp, .int .i64 v.se, .slice M.ia M.i M.ic, .int .i64 v.nx, .slice M.sa M.s M.sc, .slice M.la M.l M.lc, .slice M.ga M.g M.gc, .bool v.cl], .int .i64 id] w fun e w' => e = .returned (.bool true) ∧ Below w.heap.size w w' := by
  obtain ⟨W0, hW0⟩ : ∃ W, W = w.alloc (.cells #[.int .i64 v.cp, .int .i64 v.se, .slice M.ia M.i M.ic, .int .i64 v.nx, .slice M.sa M.s M.sc, .slice M.la M.l M.lc, .slice M.ga M.g M.gc, .bool v.cl] 26) := ⟨_, rfl⟩
  have b0 : Below w.heap.size w W0 := by rw [hW0]; exact bl_alloc (Below.refl _ _) _
  have X0 : BoxL w.heap.size (rC M v) W0 := by rw [hW0]; exact BoxL.new w (rC M v) _
  have HI := hidOf hI
  have HM := hidOf hm
  have HW := hidOf hw
  clear hI hm hw
  go_enter Try.func4, Try.ntmps4
  go_wp2_with fail
  rw [← hW0]
  clear hW0
  refine (szRing_any M v _ _ (HI.out.keep b0) HM.out (by omega) (by omega)).mono ?_
  rintro e w1 ⟨⟨k, rfl, hk⟩, hb1⟩
  have x1 := X0.keep hb1
  have B1 := bl_trans b0 hb1
  clear X0 hb1 b0
  rcases hk with hk | ⟨k0, k1, hle⟩
  · go_wp2
    go_ret
    exact ⟨rfl, B1⟩
  have hk' : ¬ k < 0 := by omega
  have HL := hidOf (hle.mono (k' := 2097152) (by omega))
  have HL1 := hidOf hle
  clear hle HM k1
  have p0 := x1.cs 0 (by simp)
  have p1 := x1.cs 1 (by simp)
  have p2 := x1.cs 2 (by simp)
  have p3 := x1.cs 3 (by simp)
  have p4 := x1.cs 4 (by simp)
  have p5 := x1.cs 5 (by simp)
  have p6 := x1.cs 6 (by simp)
  have p7 := x1.cs 7 (by simp)
  simp at p0 p1 p2 p3 p4 p5 p6 p7
  go_wp2_with fail
  refine (toRing_any M v _ (HI.out.keep B1) HL.out).mono ?_
  rintro e w2 ⟨M2, rfl, hO2, hL2, hC2, hb2⟩
  have x2 := x1.keep hb2
  have B2 := bl_trans B1 hb2
  clear p0 p1 p2 p3 p4 p5 p6 p7 x1 hb2 B1
  go_wp2_with fail
  refine (hSp M2 v id _ hO2.rin (hL2 _ HL1.out) hC2 HW.out).mono ?_
  rintro e w3 ⟨rfl, hb3⟩
  have x3 := x2.keep hb3
  have B3 := bl_trans B2 hb3
  clear x2 hb3 B2 hO2 hL2 hC2
  have p0 := x3.cs 0 (by simp)
  have p1 := x3.cs 1 (by simp)
  have p2 := x3.cs 2 (by simp)
  have p3 := x3.cs 3 (by simp)
  have p4 := x3.cs 4 (by simp)
  have p5 := x3.cs 5 (by simp)
  have p6 := x3.cs 6 (by simp)
  have p7 := x3.cs 7 (by simp)
  simp at p0 p1 p2 p3 p4 p5 p6 p7
  go_wp2_with fail
  refine (toRing_any M v _ (HI.out.keep B3) HL.out).mono ?_
  rintro e w4 ⟨M4, rfl, hO4, hL4, hC4, hb4⟩
  have x4 := x3.keep hb4
  have B4 := bl_trans B3 hb4
  clear p0 p1 p2 p3 p4 p5 p6 p7 x3 hb4 B3
  obtain ⟨W4, hW4⟩ : ∃ W, W = w4.alloc (.cells #[.int .i64 v.cp, .int .i64 v.se, .slice M4.ia M4.i M4.ic, .int .i64 v.nx, .slice M4.sa M4.s M4.sc, .slice M4.la M4.l M4.lc, .slice M4.ga M4.g M4.gc, .bool v.cl] 32) := ⟨_, rfl⟩
  have b4 : Below w4.heap.size w4 W4 := by rw [hW4]; exact bl_alloc (Below.refl _ _) _
  have hLaw : LawR w w4.heap.size M M4 v W4 := ⟨x4.keep b4, by rw [hW4]; exact BoxL.new w4 (rC M4 v) _, hO4.rin.keep b4, bl_trans B4 b4⟩
  have HLe4 := hidOf (hL4 _ HL.out)
  have HLe41 := hidOf (hL4 _ HL1.out)
  have HC4 := hidOf hC4
  have HLaw := hidOf hLaw
  clear x4 B4 b4 hO4 hL4 hC4 hLaw
  go_wp2_with fail
  rw [← hW4]
  clear hW4
  refine (hIm M4 v id _ HLaw.out.cop HLe41.out HC4.out HW.out).mono ?_
  rintro e w5 ⟨rfl, hb5⟩
  have hS := (HLaw.out.keep hb5).s
  clear HLaw hb5
  generalize lagB v id = l0
  generalize lagM v id = l1
  generalize lagOk v id = l2
  go_wp2_with fail
  go_region_held3 (fun w' => LawRS w w4.heap.size M M4 v w') (first | (exact hS.drew) | (exact LawRS.keep (by assumption) (by assumption)))
    (first
      | (go_at_call 8; refine (toRing_any M v _ (HI.out.keep (LawRS.law (by assumption)).below) HL.out).mono ?_; rintro e w6 ⟨M6, rfl, hO6, hL6, hC6, hb6⟩)
      | (go_at_call 10; refine (eqRing_same M4 M6 v _ (LawRS.law (by assumption)).cop hO6.rin HLe4.out (hL6 _ HL.out)).mono ?_; rintro e w7 ⟨rfl, hb7⟩))
  rename_i hT
  have hB := (LawRS.law hT).below
  clear hS hT
  go_wp2
  go_ret
  exact ⟨rfl, hB⟩
end Go.Proofs.Ytihdglmiecifjaa
