/-
  Walk of the law on Peek, out of the contracts of the specification's and the program's.
  Peek of the specification and of the program.
-/
import Derived.Test.YtihdglmiecifjaaGreatZRa19
import Derived.Test.YtihdglmiecifjaaGreatZRa68
import Derived.Deep.RegionHeld3
import Derived.Test.YtihdglmiecifjaaGreatZRa77
namespace Go.Proofs.YtihdglmiecifjaaGreat
open Go.RowKit Pl Il

set_option maxRecDepth 100000 in
set_option maxHeartbeats 8000000 in
theorem exactPeek_of (id : Int) (v : Rv) (td : Td) (c : Int) (hSp : ∀ (M : Rm) (w : World), RIn w M v → RLe M 1048576 → RCap M → GOk w → Calls Tryz.prog 72 #[.agg #[.int .i64 v.cp, .int .i64 v.se, .slice M.ia M.i M.ic, .int .i64 v.nx, .slice M.sa M.s M.sc, .slice M.la M.l M.lc, .slice M.ga M.g M.gc, .bool v.cl], .int .i64 id] w fun e w' => e = .returned (.tuple #[.agg #[.int .i64 td.kd, .int .i64 td.ms.1, .int .i64 td.ms.2.1, .string td.ms.2.2, .int .i64 td.ix, .int .i64 td.n], .int .i64 c]) ∧ Below w.heap.size w w')
    (hIm : ∀ (M : Rm) (w : World), RIn w M v → RLe M 1048576 → RCap M → GOk w → Calls Tryz.prog 36 #[.agg #[.int .i64 v.cp, .int .i64 v.se, .slice M.ia M.i M.ic, .int .i64 v.nx, .slice M.sa M.s M.sc, .slice M.la M.l M.lc, .slice M.ga M.g M.gc, .bool v.cl], .int .i64 id] w fun e w' => e = .returned (.tuple #[.agg #[.int .i64 td.kd, .int .i64 td.ms.1, .int .i64 td.ms.2.1, .string td.ms.2.2, .int .i64 td.ix, .int .i64 td.n], .int .i64 c]) ∧ Below w.heap.size w w') (M : Rm) (w : World) (hI : RIn w M v) (hm : RLe M 9223372036854775807) (hG : GOk w) :
    Calls Tryz.prog 16 #[.agg #[.int .i64 v.cp, .int .i64 v.se, .slice M.ia M.i M.ic, .int .i64 v.nx, .slice M.sa M.s M.sc, .slice M.la M.l M.lc, .slice M.ga M.g M.gc, .bool v.cl], .int .i64 id] w fun e w' => e = .returned (.bool true) ∧ Below w.heap.size w w' := by
  obtain ⟨W0, hW0⟩ : ∃ W, W = w.alloc (.cells #[.int .i64 v.cp, .int .i64 v.se, .slice M.ia M.i M.ic, .int .i64 v.nx, .slice M.sa M.s M.sc, .slice M.la M.l M.lc, .slice M.ga M.g M.gc, .bool v.cl] 68) := ⟨_, rfl⟩
  have b0 : Below w.heap.size w W0 := by rw [hW0]; exact bl_alloc (Below.refl _ _) _
  have X0 : BoxL w.heap.size (rC M v) W0 := by rw [hW0]; exact BoxL.new w (rC M v) _
  have HI := hidOf hI
  have HM := hidOf hm
  have HG := hidOf hG
  have HSp := hidOf hSp
  have HIm := hidOf hIm
  clear hI hm hSp hIm hG
  go_enter Tryz.func16, Tryz.ntmps16
  go_wp2_with fail
  rw [← hW0]
  clear hW0
  refine (szRing_any M v _ _ (HI.out.keep b0) HM.out (by omega) (by omega)).mono ?_
  rintro e w1 ⟨⟨k, rfl, hk⟩, hb1⟩
  have x1 := X0.keep hb1
  have B1 := bl_trans b0 hb1
  clear X0 hb1 b0
  rcases hk with hk | ⟨k0, k1, hle⟩
  · go_wp2
    go_ret
    exact ⟨rfl, B1⟩
  have hk' : ¬ k < 0 := by omega
  have HL := hidOf (hle.mono (k' := 2097152) (by omega))
  have HL1 := hidOf hle
  clear hle HM k1
  have p0 := x1.cs 0 (by simp)
  have p1 := x1.cs 1 (by simp)
  have p2 := x1.cs 2 (by simp)
  have p3 := x1.cs 3 (by simp)
  have p4 := x1.cs 4 (by simp)
  have p5 := x1.cs 5 (by simp)
  have p6 := x1.cs 6 (by simp)
  have p7 := x1.cs 7 (by simp)
  simp at p0 p1 p2 p3 p4 p5 p6 p7
  go_wp2_with fail
  refine (toRing_any M v _ (HI.out.keep B1) HL.out).mono ?_
  rintro e w2 ⟨M2, rfl, hO2, hL2, hC2, hb2⟩
  have x2 := x1.keep hb2
  have B2 := bl_trans B1 hb2
  clear p0 p1 p2 p3 p4 p5 p6 p7 x1 hb2 B1
  go_wp2_with fail
  refine (HSp.out M2 _ hO2.rin (hL2 _ HL1.out) hC2 (HG.out.keep B2)).mono ?_
  rintro e w3 ⟨rfl, hb3⟩
  have x3 := x2.keep hb3
  have B3 := bl_trans B2 hb3
  clear x2 hb3 B2 hO2 hL2 hC2
  obtain ⟨W3, hW3⟩ : ∃ W, w3.alloc (.cells #[.int .i64 td.kd, .int .i64 td.ms.1, .int .i64 td.ms.2.1, .string td.ms.2.2, .int .i64 td.ix, .int .i64 td.n] 53) = W := ⟨_, rfl⟩
  have b3 : Below w3.heap.size w3 W3 := by rw [← hW3]; exact bl_alloc (Below.refl _ _) _
  have yt3 : BoxL w3.heap.size (tdC td) W3 := by rw [← hW3]; exact BoxL.new w3 (tdC td) _
  have x3b := x3.keep b3
  have B3b := bl_trans B3 b3
  clear b3 x3 B3
  have p0 := x3b.cs 0 (by simp)
  have p1 := x3b.cs 1 (by simp)
  have p2 := x3b.cs 2 (by simp)
  have p3 := x3b.cs 3 (by simp)
  have p4 := x3b.cs 4 (by simp)
  have p5 := x3b.cs 5 (by simp)
  have p6 := x3b.cs 6 (by simp)
  have p7 := x3b.cs 7 (by simp)
  simp at p0 p1 p2 p3 p4 p5 p6 p7
  go_wp2_with fail
  refine (toRing_any M v _ (HI.out.keep B3b) HL.out).mono ?_
  rintro e w4 ⟨M4, rfl, hO4, hL4, hC4, hb4⟩
  clear p0 p1 p2 p3 p4 p5 p6 p7
  obtain ⟨W4, hW4⟩ : ∃ W, w4.alloc (.cells #[.int .i64 v.cp, .int .i64 v.se, .slice M4.ia M4.i M4.ic, .int .i64 v.nx, .slice M4.sa M4.s M4.sc, .slice M4.la M4.l M4.lc, .slice M4.ga M4.g M4.gc, .bool v.cl] 28) = W := ⟨_, rfl⟩
  have b4 : Below w4.heap.size w4 W4 := by rw [← hW4]; exact bl_alloc (Below.refl _ _) _
  have z4 : BoxL w4.heap.size (rC M4 v) W4 := by rw [← hW4]; exact BoxL.new w4 (rC M4 v) _
  have hb34 := bl_trans hb4 b4
  have x4 := x3b.keep hb34
  have B4 := bl_trans B3b hb34
  have s34 := hidOf (show W3.heap.size ≤ W4.heap.size from hb34.size)
  have s4 := hidOf (show w4.heap.size ≤ W4.heap.size from b4.size)
  have O4 := hidOf (hO4.keep b4)
  have HLe4 := hidOf (hL4 _ HL.out)
  have HLe41 := hidOf (hL4 _ HL1.out)
  have HC4 := hidOf hC4
  have yt4 := yt3.keep hb34
  clear x3b yt3 hb34 hb4 b4 hO4 hL4 hC4 hW3
  have p0 := z4.cs 0 (by simp)
  have p1 := z4.cs 1 (by simp)
  have p2 := z4.cs 2 (by simp)
  have p3 := z4.cs 3 (by simp)
  have p4 := z4.cs 4 (by simp)
  have p5 := z4.cs 5 (by simp)
  have p6 := z4.cs 6 (by simp)
  have p7 := z4.cs 7 (by simp)
  simp at p0 p1 p2 p3 p4 p5 p6 p7
  go_wp2_with fail
  refine (HIm.out M4 _ O4.out.rin HLe41.out HC4.out (HG.out.keep B4)).mono ?_
  rintro e w6 ⟨rfl, hb6⟩
  clear p0 p1 p2 p3 p4 p5 p6 p7
  obtain ⟨W7, hW7⟩ : ∃ W, w6.alloc (.cells #[.int .i64 td.kd, .int .i64 td.ms.1, .int .i64 td.ms.2.1, .string td.ms.2.2, .int .i64 td.ix, .int .i64 td.n] 53) = W := ⟨_, rfl⟩
  have b7 : Below w6.heap.size w6 W7 := by rw [← hW7]; exact bl_alloc (Below.refl _ _) _
  have gt7 : BoxL w6.heap.size (tdC td) W7 := by rw [← hW7]; exact BoxL.new w6 (tdC td) _
  have hb67 := bl_trans hb6 b7
  have x7 := x4.keep hb67
  have yt7 := yt4.keep hb67
  have z7 := z4.keep hb67
  have B7 := bl_trans B4 hb67
  have O4b := hidOf (O4.out.keep hb67)
  have s46 := hidOf (show W4.heap.size ≤ w6.heap.size from hb6.size)
  clear x4 yt4 z4 B4 hb67 b7 hb6 O4 hW4
  have tm0 := yt7.cs 0 (by simp)
  have tm1 := yt7.cs 1 (by simp)
  have tm2 := yt7.cs 2 (by simp)
  have tm3 := yt7.cs 3 (by simp)
  have tm4 := yt7.cs 4 (by simp)
  have tm5 := yt7.cs 5 (by simp)
  simp at tm0 tm1 tm2 tm3 tm4 tm5
  have tn0 := gt7.cs 0 (by simp)
  have tn1 := gt7.cs 1 (by simp)
  have tn2 := gt7.cs 2 (by simp)
  have tn3 := gt7.cs 3 (by simp)
  have tn4 := gt7.cs 4 (by simp)
  have tn5 := gt7.cs 5 (by simp)
  simp at tn0 tn1 tn2 tn3 tn4 tn5
  go_wp2_with fail
  refine (eqTold_same td _).mono ?_
  rintro e w8 ⟨rfl, hb8⟩
  have hS : LawXS w w4.heap.size M M4 v w8 w8 := LawX.s ⟨x7.keep hb8, z7.keep hb8, O4b.out.rin.keep hb8, bl_trans B7 hb8, Below.refl _ _⟩
  clear tm0 tm1 tm2 tm3 tm4 tm5 tn0 tn1 tn2 tn3 tn4 tn5 x7 z7 yt7 gt7 B7 hb8 O4b hW7
  go_wp2_with fail
  go_region_held3 (fun w' => LawXS w w4.heap.size M M4 v w8 w') (first | (exact hS.drew) | (exact LawXS.keep (by assumption) (by assumption)))
    (first
      | (go_at_call 48; refine (toRing_any M v _ (HI.out.keep (LawXS.law (by assumption)).below) HL.out).mono ?_; rintro e w9 ⟨M9, rfl, hO9, hL9, hC9, hb9⟩)
      | (go_at_call 50; refine (eqRing_same M4 M9 v _ (LawXS.law (by assumption)).cop hO9.rin HLe4.out (hL9 _ HL.out)).mono ?_; rintro e w10 ⟨rfl, hb10⟩))
  rename_i u9 hT
  have L9 := hidOf (LawXS.law hT)
  clear hS hT
  go_wp2
  go_ret
  exact ⟨rfl, L9.out.below⟩
end Go.Proofs.YtihdglmiecifjaaGreat
namespace Go.Proofs.YtihdglmiecifjaaGreat
open Go.RowKit Go.Maps Pl Il

def PekDone (F : Nat) : Prop := ∀ (M : Rm) (v : Rv) (id : Int) (w : World), RIn w M v → RLe M 1048576 → RCap M → RWf v → (Lit.int .i64 id).wf = true → GOk w →
  Calls Tryz.prog F #[.agg #[.int .i64 v.cp, .int .i64 v.se, .slice M.ia M.i M.ic, .int .i64 v.nx, .slice M.sa M.s M.sc, .slice M.la M.l M.lc, .slice M.ga M.g M.gc, .bool v.cl], .int .i64 id] w fun e w' => e = .returned (.tuple #[.agg #[.int .i64 (recT v id).kd, .int .i64 (recT v id).ms.1, .int .i64 (recT v id).ms.2.1, .string (recT v id).ms.2.2, .int .i64 (recT v id).ix, .int .i64 (recT v id).n], .int .i64 (recC v id)]) ∧ Below w.heap.size w w'
set_option maxRecDepth 100000 in
set_option maxHeartbeats 4000000 in
theorem specPeek_any : PekDone 72 := by
  intro M v id w hI hm hcap hw hid hG
  obtain ⟨U0, hU0⟩ : ∃ W, W = (w.alloc (.cells #[.int .i64 v.cp, .int .i64 v.se, .slice M.ia M.i M.ic, .int .i64 v.nx, .slice M.sa M.s M.sc, .slice M.la M.l M.lc, .slice M.ga M.g M.gc, .bool v.cl] 28)).alloc (.cells #[.int .i64 0, .int .i64 0, .int .i64 0, .string ⟨#[]⟩, .int .i64 0, .int .i64 0] 53) := ⟨_, rfl⟩
  have B0 : Below w.heap.size w U0 := by rw [hU0]; exact bl_alloc (bl_alloc (Below.refl _ _) _) _
  have A0 : BoxL w.heap.size (rC M v) U0 := by rw [hU0]; exact (BoxL.new w (rC M v) _).alloc _
  have T0 : BoxL (w.heap.size + 1) [.int .i64 0, .int .i64 0, .int .i64 0, .string ⟨#[]⟩, .int .i64 0, .int .i64 0] U0 := by rw [hU0]; exact boxT1 w _ [.int .i64 0, .int .i64 0, .int .i64 0, .string ⟨#[]⟩, .int .i64 0, .int .i64 0] _
  have HC := hidOf (specReceive_any M v id U0 (hI.keep B0) hm hcap hw hid (hG.keep B0))
  obtain ⟨v5, hv5⟩ : ∃ v5, recG v id = v5 := ⟨_, rfl⟩
  obtain ⟨td, htd⟩ : ∃ td, recT v id = td := ⟨_, rfl⟩
  obtain ⟨cd, hcd⟩ : ∃ cd, recC v id = cd := ⟨_, rfl⟩
  rw [hv5, htd, hcd] at HC
  rw [htd, hcd]
  obtain ⟨p0, p1, p2, p3, p4, p5, p6, p7⟩ := box8 A0
  clear hI hm hcap hw hid hG hv5 htd hcd
  go_enter Tryz.func72, Tryz.ntmps72
  go_upto_region 1 with fail
  rw [← hU0]
  clear hU0
  generalize hN1 : w.heap.size + 1 = N1 at T0 ⊢
  have HN1 := hidOf (show w.heap.size ≤ N1 by omega)
  clear hN1
  go_wp2_with fail
  refine (HC.out).mono ?_
  rintro e w1 ⟨M5, rfl, _, _, b1⟩
  obtain ⟨V2, hV2⟩ : ∃ V, V = (w1.alloc (.cells #[.int .i64 v5.cp, .int .i64 v5.se, .slice M5.ia M5.i M5.ic, .int .i64 v5.nx, .slice M5.sa M5.s M5.sc, .slice M5.la M5.l M5.lc, .slice M5.ga M5.g M5.gc, .bool v5.cl] 28)).alloc (.cells #[.int .i64 td.kd, .int .i64 td.ms.1, .int .i64 td.ms.2.1, .string td.ms.2.2, .int .i64 td.ix, .int .i64 td.n] 53) := ⟨_, rfl⟩
  have bV2 : Below w1.heap.size w1 V2 := by rw [hV2]; exact bl_alloc (bl_alloc (Below.refl _ _) _) _
  have K2 : BoxL (w1.heap.size + 1) [.int .i64 td.kd, .int .i64 td.ms.1, .int .i64 td.ms.2.1, .string td.ms.2.2, .int .i64 td.ix, .int .i64 td.n] V2 := by rw [hV2]; exact boxT1 w1 _ [.int .i64 td.kd, .int .i64 td.ms.1, .int .i64 td.ms.2.1, .string td.ms.2.2, .int .i64 td.ix, .int .i64 td.n] _
  have T2 := (T0.keep b1).keep bV2
  have B2 := bl_trans (bl_trans B0 b1) bV2
  clear p0 p1 p2 p3 p4 p5 p6 p7 A0 T0 B0 b1 bV2 HC
  go_upto_region 2 with fail
  rw [← hV2]
  clear hV2
  generalize hNT : w1.heap.size + 1 = NT at K2 ⊢
  clear hNT
  obtain ⟨u0, u1, u2, u3, u4, u5⟩ := box6 T2
  have uf := T2.fr
  obtain ⟨k0, k1, k2, k3, k4, k5⟩ := box6 K2
  obtain ⟨Zz, hZ⟩ : ∃ Z, ((((((V2.setCell ⟨N1, 0, none⟩ (.int .i64 td.kd)).setCell ⟨N1, 1, none⟩ (.int .i64 td.ms.1)).setCell ⟨N1, 2, none⟩ (.int .i64 td.ms.2.1)).setCell ⟨N1, 3, none⟩ (.string td.ms.2.2)).setCell ⟨N1, 4, none⟩ (.int .i64 td.ix)).setCell ⟨N1, 5, none⟩ (.int .i64 td.n)) = Z := ⟨_, rfl⟩
  have hZ2 : Zz = setL V2 N1 0 [.int .i64 td.kd, .int .i64 td.ms.1, .int .i64 td.ms.2.1, .string td.ms.2.2, .int .i64 td.ix, .int .i64 td.n] := by rw [← hZ]; rfl
  have TZ : BoxL N1 [.int .i64 td.kd, .int .i64 td.ms.1, .int .i64 td.ms.2.1, .string td.ms.2.2, .int .i64 td.ix, .int .i64 td.n] Zz := by rw [hZ2]; exact T2.setAll (us := [.int .i64 td.kd, .int .i64 td.ms.1, .int .i64 td.ms.2.1, .string td.ms.2.2, .int .i64 td.ix, .int .i64 td.n]) rfl
  have HBZ := hidOf (show Below w.heap.size w Zz by rw [hZ2]; exact setL_below HN1.out B2)
  obtain ⟨t0, t1, t2, t3, t4, t5⟩ := box6 TZ
  clear hZ2 TZ T2 K2 B2
  go_wp2_with fail
  clear hZ
  exact bodyPost_ret (v := .tuple #[.agg #[.int .i64 td.kd, .int .i64 td.ms.1, .int .i64 td.ms.2.1, .string td.ms.2.2, .int .i64 td.ix, .int .i64 td.n], .int .i64 cd]) (by simp [results, Tryz.results72, go_sem, t0, t1, t2, t3, t4, t5]) rfl ⟨rfl, HBZ.out⟩
set_option maxRecDepth 100000 in
set_option maxHeartbeats 4000000 in
theorem implPeek_any : PekDone 36 := by
  intro M v id w hI hm hcap hw hid hG
  obtain ⟨U0, hU0⟩ : ∃ W, W = (w.alloc (.cells #[.int .i64 v.cp, .int .i64 v.se, .slice M.ia M.i M.ic, .int .i64 v.nx, .slice M.sa M.s M.sc, .slice M.la M.l M.lc, .slice M.ga M.g M.gc, .bool v.cl] 28)).alloc (.cells #[.int .i64 0, .int .i64 0, .int .i64 0, .string ⟨#[]⟩, .int .i64 0, .int .i64 0] 53) := ⟨_, rfl⟩
  have B0 : Below w.heap.size w U0 := by rw [hU0]; exact bl_alloc (bl_alloc (Below.refl _ _) _) _
  have A0 : BoxL w.heap.size (rC M v) U0 := by rw [hU0]; exact (BoxL.new w (rC M v) _).alloc _
  have T0 : BoxL (w.heap.size + 1) [.int .i64 0, .int .i64 0, .int .i64 0, .string ⟨#[]⟩, .int .i64 0, .int .i64 0] U0 := by rw [hU0]; exact boxT1 w _ [.int .i64 0, .int .i64 0, .int .i64 0, .string ⟨#[]⟩, .int .i64 0, .int .i64 0] _
  have HC := hidOf (implReceive_any M v id U0 (hI.keep B0) hm hcap hw hid (hG.keep B0))
  obtain ⟨v5, hv5⟩ : ∃ v5, recG v id = v5 := ⟨_, rfl⟩
  obtain ⟨td, htd⟩ : ∃ td, recT v id = td := ⟨_, rfl⟩
  obtain ⟨cd, hcd⟩ : ∃ cd, recC v id = cd := ⟨_, rfl⟩
  rw [hv5, htd, hcd] at HC
  rw [htd, hcd]
  obtain ⟨p0, p1, p2, p3, p4, p5, p6, p7⟩ := box8 A0
  clear hI hm hcap hw hid hG hv5 htd hcd
  go_enter Tryz.func36, Tryz.ntmps36
  go_upto_region 1 with fail
  rw [← hU0]
  clear hU0
  generalize hN1 : w.heap.size + 1 = N1 at T0 ⊢
  have HN1 := hidOf (show w.heap.size ≤ N1 by omega)
  clear hN1
  go_wp2_with fail
  refine (HC.out).mono ?_
  rintro e w1 ⟨M5, rfl, _, _, b1⟩
  obtain ⟨V2, hV2⟩ : ∃ V, V = (w1.alloc (.cells #[.int .i64 v5.cp, .int .i64 v5.se, .slice M5.ia M5.i M5.ic, .int .i64 v5.nx, .slice M5.sa M5.s M5.sc, .slice M5.la M5.l M5.lc, .slice M5.ga M5.g M5.gc, .bool v5.cl] 28)).alloc (.cells #[.int .i64 td.kd, .int .i64 td.ms.1, .int .i64 td.ms.2.1, .string td.ms.2.2, .int .i64 td.ix, .int .i64 td.n] 53) := ⟨_, rfl⟩
  have bV2 : Below w1.heap.size w1 V2 := by rw [hV2]; exact bl_alloc (bl_alloc (Below.refl _ _) _) _
  have K2 : BoxL (w1.heap.size + 1) [.int .i64 td.kd, .int .i64 td.ms.1, .int .i64 td.ms.2.1, .string td.ms.2.2, .int .i64 td.ix, .int .i64 td.n] V2 := by rw [hV2]; exact boxT1 w1 _ [.int .i64 td.kd, .int .i64 td.ms.1, .int .i64 td.ms.2.1, .string td.ms.2.2, .int .i64 td.ix, .int .i64 td.n] _
  have T2 := (T0.keep b1).keep bV2
  have B2 := bl_trans (bl_trans B0 b1) bV2
  clear p0 p1 p2 p3 p4 p5 p6 p7 A0 T0 B0 b1 bV2 HC
  go_upto_region 2 with fail
  rw [← hV2]
  clear hV2
  generalize hNT : w1.heap.size + 1 = NT at K2 ⊢
  clear hNT
  obtain ⟨u0, u1, u2, u3, u4, u5⟩ := box6 T2
  have uf := T2.fr
  obtain ⟨k0, k1, k2, k3, k4, k5⟩ := box6 K2
  obtain ⟨Zz, hZ⟩ : ∃ Z, ((((((V2.setCell ⟨N1, 0, none⟩ (.int .i64 td.kd)).setCell ⟨N1, 1, none⟩ (.int .i64 td.ms.1)).setCell ⟨N1, 2, none⟩ (.int .i64 td.ms.2.1)).setCell ⟨N1, 3, none⟩ (.string td.ms.2.2)).setCell ⟨N1, 4, none⟩ (.int .i64 td.ix)).setCell ⟨N1, 5, none⟩ (.int .i64 td.n)) = Z := ⟨_, rfl⟩
  have hZ2 : Zz = setL V2 N1 0 [.int .i64 td.kd, .int .i64 td.ms.1, .int .i64 td.ms.2.1, .string td.ms.2.2, .int .i64 td.ix, .int .i64 td.n] := by rw [← hZ]; rfl
  have TZ : BoxL N1 [.int .i64 td.kd, .int .i64 td.ms.1, .int .i64 td.ms.2.1, .string td.ms.2.2, .int .i64 td.ix, .int .i64 td.n] Zz := by rw [hZ2]; exact T2.setAll (us := [.int .i64 td.kd, .int .i64 td.ms.1, .int .i64 td.ms.2.1, .string td.ms.2.2, .int .i64 td.ix, .int .i64 td.n]) rfl
  have HBZ := hidOf (show Below w.heap.size w Zz by rw [hZ2]; exact setL_below HN1.out B2)
  obtain ⟨t0, t1, t2, t3, t4, t5⟩ := box6 TZ
  clear hZ2 TZ T2 K2 B2
  go_wp2_with fail
  clear hZ
  exact bodyPost_ret (v := .tuple #[.agg #[.int .i64 td.kd, .int .i64 td.ms.1, .int .i64 td.ms.2.1, .string td.ms.2.2, .int .i64 td.ix, .int .i64 td.n], .int .i64 cd]) (by simp [results, Tryz.results36, go_sem, t0, t1, t2, t3, t4, t5]) rfl ⟨rfl, HBZ.out⟩
end Go.Proofs.YtihdglmiecifjaaGreat
