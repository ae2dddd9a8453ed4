/-
  Walk of the law on Send, out of the contracts of the specification's a
-/
import Derived.Test.YtihdglmiecifjaaGreatZRs33
namespace Go.Proofs.YtihdglmiecifjaaGreat
open Go.RowKit Pl Il
set_option maxRecDepth 100000 in
set_option maxHeartbeats 8000000 in
theorem exactSend_of (y : Tm) (hys : y.2.2.size ≤ maxLen) (v r : Rv) (td : List Int) (c : Int) (hSp : ∀ (M : Rm) (w : World), RIn w M v → RLe M 1048576 → RCap M → GOk w → Calls Tryz.prog 21 #[.agg #[.int .i64 v.cp, .int .i64 v.se, .slice M.ia M.i M.ic, .int .i64 v.nx, .slice M.sa M.s M.sc, .slice M.la M.l M.lc, .slice M.ga M.g M.gc, .bool v.cl], .agg #[.int .i64 y.1, .int .i64 y.2.1, .string y.2.2]] w fun e w' => RgT w r td c e w')
  (hIm : ∀ (M : Rm) (w : World), RIn w M v → RLe M 1048576 → RCap M → GOk w → Calls Tryz.prog 20 #[.agg #[.int .i64 v.cp, .int .i64 v.se, .slice M.ia M.i M.ic, .int .i64 v.nx, .slice M.sa M.s M.sc, .slice M.la M.l M.lc, .slice M.ga M.g M.gc, .bool v.cl], .agg #[.int .i64 y.1, .int .i64 y.2.1, .string y.2.2]] w fun e w' => RgT w r td c e w') (M : Rm) (w : World) (hI : RIn w M v) (hm : RLe M 9223372036854775807) (hG : GOk w) :
  Calls Tryz.prog 8 #[.agg #[.int .i64 v.cp, .int .i64 v.se, .slice M.ia M.i M.ic, .int .i64 v.nx, .slice M.sa M.s M.sc, .slice M.la M.l M.lc, .slice M.ga M.g M.gc, .bool v.cl], .agg #[.int .i64 y.1, .int .i64 y.2.1, .string y.2.2]] w fun e w' => e = .returned (.bool true) ∧ Below w.heap.size w w' := by
 obtain ⟨W0, hW0⟩ : ∃ W, W = (w.alloc (.cells #[.int .i64 v.cp, .int .i64 v.se, .slice M.ia M.i M.ic, .int .i64 v.nx, .slice M.sa M.s M.sc, .slice M.la M.l M.lc, .slice M.ga M.g M.gc, .bool v.cl] 68)).alloc (.cells #[.int .i64 y.1, .int .i64 y.2.1, .string y.2.2] 69) := ⟨_, rfl⟩
 have b0 : Below w.heap.size w W0 := by rw [hW0]; exact bl_alloc (bl_alloc (Below.refl _ _) _) _
 have X0 : BoxL w.heap.size (rC M v) W0 := by rw [hW0]; exact (BoxL.new w (rC M v) _).alloc _
 have Y0 : BoxL (w.heap.size + 1) [.int .i64 y.1, .int .i64 y.2.1, .string y.2.2] W0 := by
  rw [hW0]
  have h := BoxL.new (w.alloc (.cells #[.int .i64 v.cp, .int .i64 v.se, .slice M.ia M.i M.ic, .int .i64 v.nx, .slice M.sa M.s M.sc, .slice M.la M.l M.lc, .slice M.ga M.g M.gc, .bool v.cl] 68)) [.int .i64 y.1, .int .i64 y.2.1, .string y.2.2] 69
  simpa using h
 have HI := hidOf hI
 have HM := hidOf hm
 have HG := hidOf hG
 have HYs := hidOf hys
 have HSp := hidOf hSp
 have HIm := hidOf hIm
 clear hI hm hSp hIm hG hys
 go_enter Tryz.func8, Tryz.ntmps8
 go_wp2_with fail
 rw [← hW0]
 clear hW0
 refine (szRing_any M v _ _ (HI.out.keep b0) HM.out (by omega) (by omega)).mono ?_
 rintro e w1 ⟨⟨k, rfl, hk⟩, hb1⟩
 have x1 := X0.keep hb1
 have mx1 := Y0.keep hb1
 have B1 := bl_trans b0 hb1
 clear X0 Y0 hb1 b0
 rcases hk with hk | ⟨k0, k1, hle⟩
 ·go_wp2
  go_ret
  exact ⟨rfl, B1⟩
 have hk' : ¬ k < 0 := by omega
 have HL := hidOf (hle.mono (k' := 2097152) (by omega))
 have HL1 := hidOf hle
 clear hle HM
 have d0 : w1.cell? ⟨w.heap.size + 1, 0, none⟩ = some (.int .i64 y.1) := mx1.cs 0 (by simp)
 have d1 : w1.cell? ⟨w.heap.size + 1, 1, none⟩ = some (.int .i64 y.2.1) := mx1.cs 1 (by simp)
 have d2 : w1.cell? ⟨w.heap.size + 1, 2, none⟩ = some (.string y.2.2) := mx1.cs 2 (by simp)
 go_wp2_with fail
 refine (szMsg_any y.1 y.2.1 k y.2.2 w1 HYs.out k0 k1).mono ?_
 rintro e w1b ⟨hcase, hb1b⟩
 have x1 := x1.keep hb1b
 have mx1 := mx1.keep hb1b
 have B1 := bl_trans B1 hb1b
 clear d0 d1 d2 hb1b
 rcases hcase with ⟨hl2, rfl⟩ | ⟨hl2, rfl⟩
 ·clear hl2 hk'
  go_wp2
  go_ret
  exact ⟨rfl, B1⟩
 obtain ⟨k2, hk2⟩ : ∃ k2 : Int, k - (y.2.2.size : Int) = k2 := ⟨_, rfl⟩
 have hk2' : ¬ k2 < 0 := by omega
 rw [hk2]
 clear hl2 hk2 k1 hk' k0
 have hH1 : LawM w M v y w.heap.size M w1b := LawM.mk' x1 mx1 x1 B1
 go_upto_region 8 with fail
 clear hk2'
 go_cut [6, 7, 8] from 19 (fun va vb vc wx => ∃ (R : Nat) (Mw : Rm) (tw : Option Addr) (nw kw : Nat), va = .pointer (some ⟨R, 0, none⟩) ∧ vb = .slice tw nw kw ∧ vc = .int .i64 c ∧ RsR w1b r td R Mw tw nw wx)
 case first =>
  go_wp2_with fail
  refine wp_region_noPanic ?_
  refine wp_region_held_drew (S := fun u => LawM w M v y w.heap.size M u) (by kernel_rfl) hH1.drew (fun hHeld => ?_)
  refine tK 0 ?_ rfl (by kernel_rfl) (by rfl) ?_ (by assumption) (fun _ _ _ h => h) ?_
  case refine_2 => (intro w hSw; (try dsimp only at hSw); go_simp; try with_reducible rfl)
  simp only [Act.put, List.getElem_toArray, List.getElem_cons_zero, List.setIfInBounds_toArray, List.set_cons_zero, List.set_cons_succ]
  refine tK 2 ?_ rfl (by kernel_rfl) (by rfl) ?_ (by assumption) (fun _ _ _ h => h) ?_
  case refine_2 => (intro w hSw; (try dsimp only at hSw); go_simp; try with_reducible rfl)
  simp only [Act.put, zGA, zG0, zGC, zSA, zS0, zSC]
  refine wpAnyH_ready (rs := [1, 9]) (by kernel_rfl) (by simp) ?_
  refine AllReadyH.cons rfl (fun K hK => ?_) (AllReadyH.cons rfl (fun K hK => ?_) AllReadyH.nil)
  ·have hu0 : Below w1b.heap.size w1b w1b.drew := (Below.refl _ _).drew
   go_simp
   refine (toRing_any M v _ (HI.out.keep hHeld.bel) HL.out).mono ?_
   rintro e v1 ⟨Mc, rfl, hoc, hlc, hcc, hv1⟩
   go_wp2_with fail
   have hu1 := bl_trans hu0 hv1
   have hS1 := LawM.keep hHeld hv1
   refine hK.out _ _ hS1 (fun hHeld => ?_)
   clear hK K
   refine wpAnyH_ready (rs := [3, 9]) (by kernel_rfl) (by simp) ?_
   refine AllReadyH.cons rfl (fun K hK => ?_) (AllReadyH.cons rfl (fun K hK => ?_) AllReadyH.nil)
   ·go_simp
    refine (toMsg_any y.1 y.2.1 y.2.2 _).mono ?_
    rintro e v2 ⟨rfl, hv2⟩
    go_wp2_with fail
    have hoc := hoc.keep hv2
    have hu2 := bl_trans hu1 hv2
    have hS2 := LawM.keep hHeld hv2
    refine hK.out _ _ hS2 (fun hHeld => ?_)
    clear hK K
    refine wpAnyH_ready (rs := [4, 9]) (by kernel_rfl) (by simp) ?_
    refine AllReadyH.cons rfl (fun K hK => ?_) (AllReadyH.cons rfl (fun K hK => ?_) AllReadyH.nil)
    ·go_simp
     refine (HSp.out Mc _ hoc.rin (hlc _ HL1.out) hcc (HG.out.keep hHeld.bel)).mono ?_
     rintro e v3 ⟨Mw, tw, nw, kw, rfl, how, hle, hol, hnl, hfl, hbl⟩
     go_wp2_with fail
     have hbc := hu2
     have hSl := LawM.keep hHeld hbl
     refine hK.out _ _ hSl (fun hHeld => ?_)
     clear hK K
     refine tK 5 ?_ rfl (by kernel_rfl) (by rfl) ?_ (by assumption) (fun _ _ _ h => h) ?_
     case refine_2 => (intro w hSw; (try dsimp only at hSw); go_simp; try with_reducible rfl)
     simp only [Act.put, zGA, zG0, zGC, zSA, zS0, zSC]
     refine tK 6 ?_ rfl (by kernel_rfl) (by rfl) ?_ (by assumption) (fun _ _ _ h => h) ?_
     case refine_2 => (intro w hSw; (try dsimp only at hSw); go_simp; try with_reducible rfl)
     simp only [Act.put, zGA, zG0, zGC, zSA, zS0, zSC]
     refine tK 7 ?_ rfl (by kernel_rfl) (by rfl) ?_ (by assumption) (fun _ _ _ h => h) ?_
     case refine_2 => (intro w hSw; (try dsimp only at hSw); go_simp; try with_reducible rfl)
     simp only [Act.put, zGA, zG0, zGC, zSA, zS0, zSC]
     refine tK 8 ?_ rfl (by kernel_rfl) (by rfl) ?_ (by assumption) (fun _ _ _ h => h) ?_
     case refine_2 => (intro w hSw; (try dsimp only at hSw); go_simp; try with_reducible rfl)
     simp only [Act.put, zGA, zG0, zGC, zSA, zS0, zSC]
     refine wpAnyH_ready (rs := [9]) (by kernel_rfl) (by simp) ?_
     refine AllReadyH.cons rfl (fun K hK => ?_) AllReadyH.nil
     go_simp
     refine hK.out _ _ (LawM.keep hSl (bl_alloc (Below.refl _ _) _)) (fun hHeld => ?_)
     clear hK K
     refine wpAnyH_ready (rs := [10]) (by kernel_rfl) (by simp) ?_
     refine AllReadyH.cons rfl (fun K hK => ?_) AllReadyH.nil
     go_simp
     refine hK.out _ _ (LawM.keep hSl (bl_alloc (Below.refl _ _) _)) (fun hHeld => ?_)
     clear hK K
     refine tK 11 ?_ rfl (by kernel_rfl) (by rfl) ?_ (by assumption) (fun _ _ _ h => h) ?_
     case refine_2 => (intro w hSw; (try dsimp only at hSw); go_simp; try with_reducible rfl)
     simp only [Act.put, zGA, zG0, zGC, zSA, zS0, zSC]
     refine tK 12 ?_ rfl (by kernel_rfl) (by rfl) ?_ (by assumption) (fun _ _ _ h => h) ?_
     case refine_2 => (intro w hSw; (try dsimp only at hSw); go_simp; try with_reducible rfl)
     simp only [Act.put, zGA, zG0, zGC, zSA, zS0, zSC]
     refine wpAnyH_done (by kernel_rfl) ?_ _
     refine NoPanic.normal ?_
     go_wp2_with fail
     go_meet
     exact ⟨_, _, _, _, _, rfl, rfl, rfl, RsR.last hbc how hle hol hnl hfl hbl _⟩
    ·go_simp
     have ba : Below v2.heap.size v2 (v2.alloc (.cells #[.int .i64 0, .int .i64 0, .slice none 0 0, .int .i64 0, .slice none 0 0, .slice none 0 0, .slice none 0 0, .bool false] 28)) := bl_alloc (Below.refl _ _) _
     have Z2 := BoxL.new v2 [.int .i64 0, .int .i64 0, .slice none 0 0, .int .i64 0, .slice none 0 0, .slice none 0 0, .slice none 0 0, .bool false] 28
     have hRu : w1b.heap.size ≤ v2.heap.size := hu2.size
     refine hK.out _ _ (LawM.keep hS2 ba) (fun hHeld => ?_)
     clear hK K
     have hu2 := bl_trans hu2 ba
     have hoc := hoc.keep ba
     refine wpAnyH_ready (rs := [4]) (by kernel_rfl) (by simp) ?_
     refine AllReadyH.cons rfl (fun K hK => ?_) AllReadyH.nil
     go_simp
     refine (HSp.out Mc _ hoc.rin (hlc _ HL1.out) hcc (HG.out.keep hHeld.bel)).mono ?_
     rintro e v3 ⟨Mw, tw, nw, kw, rfl, how, hle, hol, hnl, hfl, hbl⟩
     go_wp2_with fail
     have Zc := Z2
     have Zl := Z2.keep hbl
     have hbc := hu2
     have hSl := LawM.keep hHeld hbl
     refine hK.out _ _ hSl (fun hHeld => ?_)
     clear hK K
     refine tK 5 ?_ rfl (by kernel_rfl) (by rfl) ?_ (by assumption) (fun _ _ _ h => h) ?_
     case refine_2 => (intro w hSw; (try dsimp only at hSw); go_simp; try with_reducible rfl)
     simp only [Act.put, zGA, zG0, zGC, zSA, zS0, zSC]
     refine tK 6 ?_ rfl (by kernel_rfl) (by rfl) ?_ (by assumption) (fun _ _ _ h => h) ?_
     case refine_2 => (intro w hSw; (try dsimp only at hSw); go_simp; try with_reducible rfl)
     simp only [Act.put, zGA, zG0, zGC, zSA, zS0, zSC]
     refine tK 7 ?_ rfl (by kernel_rfl) (by rfl) ?_ (by assumption) (fun _ _ _ h => h) ?_
     case refine_2 => (intro w hSw; (try dsimp only at hSw); go_simp; try with_reducible rfl)
     simp only [Act.put, zGA, zG0, zGC, zSA, zS0, zSC]
     refine tK 8 ?_ rfl (by kernel_rfl) (by rfl) ?_ (by assumption) (fun _ _ _ h => h) ?_
     case refine_2 => (intro w hSw; (try dsimp only at hSw); go_simp; try with_reducible rfl)
     simp only [Act.put, zGA, zG0, zGC, zSA, zS0, zSC]
     obtain ⟨k0, k1, k2, k3, k4, k5, k6, k7⟩ := box8 Zl
     have kf := Zl.fr
     have hUP := RsR.first hbc how hle hol hnl hfl hbl hRu Zc.lt Zl
     have hSs : LawM w M v y w.heap.size M _ := LawM.keep hH1 hUP.below
     refine wpAnyH_ready (rs := [10]) (by kernel_rfl) (by simp) ?_
     refine AllReadyH.cons rfl (fun K hK => ?_) AllReadyH.nil
     go_simp
     refine hK.out _ _ hSs (fun hHeld => ?_)
     clear hK K
     refine tK 11 ?_ rfl (by kernel_rfl) (by rfl) ?_ (by assumption) (fun _ _ _ h => h) ?_
     case refine_2 => (intro w hSw; (try dsimp only at hSw); go_simp; try with_reducible rfl)
     simp only [Act.put, zGA, zG0, zGC, zSA, zS0, zSC]
     refine tK 12 ?_ rfl (by kernel_rfl) (by rfl) ?_ (by assumption) (fun _ _ _ h => h) ?_
     case refine_2 => (intro w hSw; (try dsimp only at hSw); go_simp; try with_reducible rfl)
     simp only [Act.put, zGA, zG0, zGC, zSA, zS0, zSC]
     refine wpAnyH_done (by kernel_rfl) ?_ _
     refine NoPanic.normal ?_
     go_wp2_with fail
     go_meet
     exact ⟨_, _, _, _, _, rfl, rfl, rfl, hUP⟩
   ·go_simp
    have ba : Below v1.heap.size v1 (v1.alloc (.cells #[.int .i64 0, .int .i64 0, .slice none 0 0, .int .i64 0, .slice none 0 0, .slice none 0 0, .slice none 0 0, .bool false] 28)) := bl_alloc (Below.refl _ _) _
    have Z1 := BoxL.new v1 [.int .i64 0, .int .i64 0, .slice none 0 0, .int .i64 0, .slice none 0 0, .slice none 0 0, .slice none 0 0, .bool false] 28
    have hRu : w1b.heap.size ≤ v1.heap.size := hu1.size
    refine hK.out _ _ (LawM.keep hS1 ba) (fun hHeld => ?_)
    clear hK K
    have hu1 := bl_trans hu1 ba
    have hoc := hoc.keep ba
    refine wpAnyH_ready (rs := [3]) (by kernel_rfl) (by simp) ?_
    refine AllReadyH.cons rfl (fun K hK => ?_) AllReadyH.nil
    go_simp
    refine (toMsg_any y.1 y.2.1 y.2.2 _).mono ?_
    rintro e v2 ⟨rfl, hv2⟩
    go_wp2_with fail
    have hoc := hoc.keep hv2
    have Z2 := Z1.keep hv2
    have hu2 := bl_trans hu1 hv2
    have hS2 := LawM.keep hHeld hv2
    refine hK.out _ _ hS2 (fun hHeld => ?_)
    clear hK K
    refine wpAnyH_ready (rs := [4]) (by kernel_rfl) (by simp) ?_
    refine AllReadyH.cons rfl (fun K hK => ?_) AllReadyH.nil
    go_simp
    refine (HSp.out Mc _ hoc.rin (hlc _ HL1.out) hcc (HG.out.keep hHeld.bel)).mono ?_
    rintro e v3 ⟨Mw, tw, nw, kw, rfl, how, hle, hol, hnl, hfl, hbl⟩
    go_wp2_with fail
    have Zc := Z2
    have Zl := Z2.keep hbl
    have hbc := hu2
    have hSl := LawM.keep hHeld hbl
    refine hK.out _ _ hSl (fun hHeld => ?_)
    clear hK K
    refine tK 5 ?_ rfl (by kernel_rfl) (by rfl) ?_ (by assumption) (fun _ _ _ h => h) ?_
    case refine_2 => (intro w hSw; (try dsimp only at hSw); go_simp; try with_reducible rfl)
    simp only [Act.put, zGA, zG0, zGC, zSA, zS0, zSC]
    refine tK 6 ?_ rfl (by kernel_rfl) (by rfl) ?_ (by assumption) (fun _ _ _ h => h) ?_
    case refine_2 => (intro w hSw; (try dsimp only at hSw); go_simp; try with_reducible rfl)
    simp only [Act.put, zGA, zG0, zGC, zSA, zS0, zSC]
    refine tK 7 ?_ rfl (by kernel_rfl) (by rfl) ?_ (by assumption) (fun _ _ _ h => h) ?_
    case refine_2 => (intro w hSw; (try dsimp only at hSw); go_simp; try with_reducible rfl)
    simp only [Act.put, zGA, zG0, zGC, zSA, zS0, zSC]
    refine tK 8 ?_ rfl (by kernel_rfl) (by rfl) ?_ (by assumption) (fun _ _ _ h => h) ?_
    case refine_2 => (intro w hSw; (try dsimp only at hSw); go_simp; try with_reducible rfl)
    simp only [Act.put, zGA, zG0, zGC, zSA, zS0, zSC]
    obtain ⟨k0, k1, k2, k3, k4, k5, k6, k7⟩ := box8 Zl
    have kf := Zl.fr
    have hUP := RsR.first hbc how hle hol hnl hfl hbl hRu Zc.lt Zl
    have hSs : LawM w M v y w.heap.size M _ := LawM.keep hH1 hUP.below
    refine wpAnyH_ready (rs := [10]) (by kernel_rfl) (by simp) ?_
    refine AllReadyH.cons rfl (fun K hK => ?_) AllReadyH.nil
    go_simp
    refine hK.out _ _ hSs (fun hHeld => ?_)
    clear hK K
    refine tK 11 ?_ rfl (by kernel_rfl) (by rfl) ?_ (by assumption) (fun _ _ _ h => h) ?_
    case refine_2 => (intro w hSw; (try dsimp only at hSw); go_simp; try with_reducible rfl)
    simp only [Act.put, zGA, zG0, zGC, zSA, zS0, zSC]
    refine tK 12 ?_ rfl (by kernel_rfl) (by rfl) ?_ (by assumption) (fun _ _ _ h => h) ?_
    case refine_2 => (intro w hSw; (try dsimp only at hSw); go_simp; try with_reducible rfl)
    simp only [Act.put, zGA, zG0, zGC, zSA, zS0, zSC]
    refine wpAnyH_done (by kernel_rfl) ?_ _
    refine NoPanic.normal ?_
    go_wp2_with fail
    go_meet
    exact ⟨_, _, _, _, _, rfl, rfl, rfl, hUP⟩
  ·go_simp
   have ba : Below w1b.heap.size w1b (w1b.alloc (.cells #[.int .i64 0, .int .i64 0, .slice none 0 0, .int .i64 0, .slice none 0 0, .slice none 0 0, .slice none 0 0, .bool false] 28)).drew := (bl_alloc (Below.refl _ _) _).drew
   have Z0 := (BoxL.new w1b [.int .i64 0, .int .i64 0, .slice none 0 0, .int .i64 0, .slice none 0 0, .slice none 0 0, .slice none 0 0, .bool false] 28).keep (Below.refl _ _).drew
   have hRu : w1b.heap.size ≤ w1b.heap.size := Nat.le_refl _
   refine hK.out _ _ (LawM.keep hH1 ba) (fun hHeld => ?_)
   clear hK K
   have hu0 := ba
   refine wpAnyH_ready (rs := [1]) (by kernel_rfl) (by simp) ?_
   refine AllReadyH.cons rfl (fun K hK => ?_) AllReadyH.nil
   go_simp
   refine (toRing_any M v _ (HI.out.keep hHeld.bel) HL.out).mono ?_
   rintro e v1 ⟨Mc, rfl, hoc, hlc, hcc, hv1⟩
   go_wp2_with fail
   have Z1 := Z0.keep hv1
   have hu1 := bl_trans hu0 hv1
   have hS1 := LawM.keep hHeld hv1
   refine hK.out _ _ hS1 (fun hHeld => ?_)
   clear hK K
   refine wpAnyH_ready (rs := [3]) (by kernel_rfl) (by simp) ?_
   refine AllReadyH.cons rfl (fun K hK => ?_) AllReadyH.nil
   go_simp
   refine (toMsg_any y.1 y.2.1 y.2.2 _).mono ?_
   rintro e v2 ⟨rfl, hv2⟩
   go_wp2_with fail
   have hoc := hoc.keep hv2
   have Z2 := Z1.keep hv2
   have hu2 := bl_trans hu1 hv2
   have hS2 := LawM.keep hHeld hv2
   refine hK.out _ _ hS2 (fun hHeld => ?_)
   clear hK K
   refine wpAnyH_ready (rs := [4]) (by kernel_rfl) (by simp) ?_
   refine AllReadyH.cons rfl (fun K hK => ?_) AllReadyH.nil
   go_simp
   refine (HSp.out Mc _ hoc.rin (hlc _ HL1.out) hcc (HG.out.keep hHeld.bel)).mono ?_
   rintro e v3 ⟨Mw, tw, nw, kw, rfl, how, hle, hol, hnl, hfl, hbl⟩
   go_wp2_with fail
   have Zc := Z2
   have Zl := Z2.keep hbl
   have hbc := hu2
   have hSl := LawM.keep hHeld hbl
   refine hK.out _ _ hSl (fun hHeld => ?_)
   clear hK K
   refine tK 5 ?_ rfl (by kernel_rfl) (by rfl) ?_ (by assumption) (fun _ _ _ h => h) ?_
   case refine_2 => (intro w hSw; (try dsimp only at hSw); go_simp; try with_reducible rfl)
   simp only [Act.put, zGA, zG0, zGC, zSA, zS0, zSC]
   refine tK 6 ?_ rfl (by kernel_rfl) (by rfl) ?_ (by assumption) (fun _ _ _ h => h) ?_
   case refine_2 => (intro w hSw; (try dsimp only at hSw); go_simp; try with_reducible rfl)
   simp only [Act.put, zGA, zG0, zGC, zSA, zS0, zSC]
   refine tK 7 ?_ rfl (by kernel_rfl) (by rfl) ?_ (by assumption) (fun _ _ _ h => h) ?_
   case refine_2 => (intro w hSw; (try dsimp only at hSw); go_simp; try with_reducible rfl)
   simp only [Act.put, zGA, zG0, zGC, zSA, zS0, zSC]
   refine tK 8 ?_ rfl (by kernel_rfl) (by rfl) ?_ (by assumption) (fun _ _ _ h => h) ?_
   case refine_2 => (intro w hSw; (try dsimp only at hSw); go_simp; try with_reducible rfl)
   simp only [Act.put, zGA, zG0, zGC, zSA, zS0, zSC]
   obtain ⟨k0, k1, k2, k3, k4, k5, k6, k7⟩ := box8 Zl
   have kf := Zl.fr
   have hUP := RsR.first hbc how hle hol hnl hfl hbl hRu Zc.lt Zl
   have hSs : LawM w M v y w.heap.size M _ := LawM.keep hH1 hUP.below
   refine wpAnyH_ready (rs := [10]) (by kernel_rfl) (by simp) ?_
   refine AllReadyH.cons rfl (fun K hK => ?_) AllReadyH.nil
   go_simp
   refine hK.out _ _ hSs (fun hHeld => ?_)
   clear hK K
   refine tK 11 ?_ rfl (by kernel_rfl) (by rfl) ?_ (by assumption) (fun _ _ _ h => h) ?_
   case refine_2 => (intro w hSw; (try dsimp only at hSw); go_simp; try with_reducible rfl)
   simp only [Act.put, zGA, zG0, zGC, zSA, zS0, zSC]
   refine tK 12 ?_ rfl (by kernel_rfl) (by rfl) ?_ (by assumption) (fun _ _ _ h => h) ?_
   case refine_2 => (intro w hSw; (try dsimp only at hSw); go_simp; try with_reducible rfl)
   simp only [Act.put, zGA, zG0, zGC, zSA, zS0, zSC]
   refine wpAnyH_done (by kernel_rfl) ?_ _
   refine NoPanic.normal ?_
   go_wp2_with fail
   go_meet
   exact ⟨_, _, _, _, _, rfl, rfl, rfl, hUP⟩
 obtain ⟨R3, Mw, tw, nw, kw, rfl, rfl, rfl, hU3⟩ := hcut
 obtain ⟨W3, rfl⟩ : ∃ W3, W3 = wc := ⟨_, rfl⟩
 have y3 := hU3.box
 have x3b := x1.keep hU3.below
 have mx3b := mx1.keep hU3.below
 have B3b := bl_trans B1 hU3.below
 have Iw := hidOf hU3.own.rin
 have Tw := hidOf hU3.told.ints
 have Nw := hidOf hU3.tn
 have Ow := hidOf hU3.le
 have UW := hidOf Iw.out.und
 have UT := hidOf (und_ints Tw.out)
 clear hU3 hH1 x1 mx1 B1
 have p0 := x3b.cs 0 (by simp)
 have p1 := x3b.cs 1 (by simp)
 have p2 := x3b.cs 2 (by simp)
 have p3 := x3b.cs 3 (by simp)
 have p4 := x3b.cs 4 (by simp)
 have p5 := x3b.cs 5 (by simp)
 have p6 := x3b.cs 6 (by simp)
 have p7 := x3b.cs 7 (by simp)
 simp at p0 p1 p2 p3 p4 p5 p6 p7
 go_wp2_with fail
 refine (toRing_any M v _ (HI.out.keep B3b) HL.out).mono ?_
 rintro e w4 ⟨M4, rfl, hO4, hL4, hC4, hb4⟩
 clear p0 p1 p2 p3 p4 p5 p6 p7
 obtain ⟨W4, hW4⟩ : ∃ W, w4.alloc (.cells #[.int .i64 v.cp, .int .i64 v.se, .slice M4.ia M4.i M4.ic, .int .i64 v.nx, .slice M4.sa M4.s M4.sc, .slice M4.la M4.l M4.lc, .slice M4.ga M4.g M4.gc, .bool v.cl] 28) = W := ⟨_, rfl⟩
 have b4 : Below w4.heap.size w4 W4 := by rw [← hW4]; exact bl_alloc (Below.refl _ _) _
 have z4 : BoxL w4.heap.size (rC M4 v) W4 := by rw [← hW4]; exact BoxL.new w4 (rC M4 v) _
 have hb34 := bl_trans hb4 b4
 have x4 := x3b.keep hb34
 have mx4 := mx3b.keep hb34
 have y4 := y3.keep hb34
 have B4 := bl_trans B3b hb34
 have A4 := hidOf hO4.abv
 have U4 := hidOf hO4.rin.und
 have s34 := hidOf (show W3.heap.size ≤ W4.heap.size from hb34.size)
 have s4 := hidOf (show w4.heap.size ≤ W4.heap.size from b4.size)
 have O4 := hidOf (hO4.keep b4)
 have I4 := hidOf (Iw.out.keep hb34)
 have T4 := hidOf (Tw.out.keep hb34)
 have HLe4 := hidOf (hL4 _ HL.out)
 have HLe41 := hidOf (hL4 _ HL1.out)
 have HC4 := hidOf hC4
 have lx := hidOf x3b.lt
 have lmx := hidOf mx3b.lt
 have ly := hidOf y3.lt
 clear x3b mx3b y3 hb34 hb4 b4 hO4 hL4 hC4 Iw Tw
 have hH4 : LawM w M v y w4.heap.size M4 W4 := LawM.mk' x4 mx4 z4 B4
 have hoc := O4.out
 go_upto_region 10 with fail
 try rw [hW4]
 clear hW4
 go_cut [10, 11, 12] from 19 (fun va vb vc wx => ∃ (R : Nat) (Mw : Rm) (tw : Option Addr) (nw kw : Nat), va = .pointer (some ⟨R, 0, none⟩) ∧ vb = .slice tw nw kw ∧ vc = .int .i64 c ∧ RsR W4 r td R Mw tw nw wx)
 case first =>
  go_wp2_with fail
  refine wp_region_noPanic ?_
  refine wp_region_held_drew (S := fun u => LawM w M v y w4.heap.size M4 u) (by kernel_rfl) hH4.drew (fun hHeld => ?_)
  refine tK 0 ?_ rfl (by kernel_rfl) (by rfl) ?_ (by assumption) (fun _ _ _ h => h) ?_
  case refine_2 => (intro w hSw; (try dsimp only at hSw); go_simp; try with_reducible rfl)
  simp only [Act.put, List.getElem_toArray, List.getElem_cons_zero, List.setIfInBounds_toArray, List.set_cons_zero, List.set_cons_succ]
  refine tK 1 ?_ rfl (by kernel_rfl) (by rfl) ?_ (by assumption) (fun _ _ _ h => h) ?_
  case refine_2 => (intro w hSw; (try dsimp only at hSw); go_simp; try with_reducible rfl)
  simp only [Act.put, zGA, zG0, zGC, zSA, zS0, zSC]
  refine wpAnyH_ready (rs := [2, 8]) (by kernel_rfl) (by simp) ?_
  refine AllReadyH.cons rfl (fun K hK => ?_) (AllReadyH.cons rfl (fun K hK => ?_) AllReadyH.nil)
  ·have hoc := hoc.keep (Below.refl _ _).drew
   have hu0 : Below W4.heap.size W4 W4.drew := (Below.refl _ _).drew
   go_simp
   refine (toMsg_any y.1 y.2.1 y.2.2 _).mono ?_
   rintro e v1 ⟨rfl, hv1⟩
   go_wp2_with fail
   have hoc := hoc.keep hv1
   have hu1 := bl_trans hu0 hv1
   have hS1 := LawM.keep hHeld hv1
   refine hK.out _ _ hS1 (fun hHeld => ?_)
   clear hK K
   refine wpAnyH_ready (rs := [3, 8]) (by kernel_rfl) (by simp) ?_
   refine AllReadyH.cons rfl (fun K hK => ?_) (AllReadyH.cons rfl (fun K hK => ?_) AllReadyH.nil)
   ·go_simp
    refine (HIm.out M4 _ hoc.rin HLe41.out HC4.out (HG.out.keep hHeld.bel)).mono ?_
    rintro e v2 ⟨Mw, tw, nw, kw, rfl, how, hle, hol, hnl, hfl, hbl⟩
    go_wp2_with fail
    have hbc := hu1
    have hSl := LawM.keep hHeld hbl
    refine hK.out _ _ hSl (fun hHeld => ?_)
    clear hK K
    refine tK 4 ?_ rfl (by kernel_rfl) (by rfl) ?_ (by assumption) (fun _ _ _ h => h) ?_
    case refine_2 => (intro w hSw; (try dsimp only at hSw); go_simp; try with_reducible rfl)
    simp only [Act.put, zGA, zG0, zGC, zSA, zS0, zSC]
    refine tK 5 ?_ rfl (by kernel_rfl) (by rfl) ?_ (by assumption) (fun _ _ _ h => h) ?_
    case refine_2 => (intro w hSw; (try dsimp only at hSw); go_simp; try with_reducible rfl)
    simp only [Act.put, zGA, zG0, zGC, zSA, zS0, zSC]
    refine tK 6 ?_ rfl (by kernel_rfl) (by rfl) ?_ (by assumption) (fun _ _ _ h => h) ?_
    case refine_2 => (intro w hSw; (try dsimp only at hSw); go_simp; try with_reducible rfl)
    simp only [Act.put, zGA, zG0, zGC, zSA, zS0, zSC]
    refine tK 7 ?_ rfl (by kernel_rfl) (by rfl) ?_ (by assumption) (fun _ _ _ h => h) ?_
    case refine_2 => (intro w hSw; (try dsimp only at hSw); go_simp; try with_reducible rfl)
    simp only [Act.put, zGA, zG0, zGC, zSA, zS0, zSC]
    refine wpAnyH_ready (rs := [8]) (by kernel_rfl) (by simp) ?_
    refine AllReadyH.cons rfl (fun K hK => ?_) AllReadyH.nil
    go_simp
    refine hK.out _ _ (LawM.keep hSl (bl_alloc (Below.refl _ _) _)) (fun hHeld => ?_)
    clear hK K
    refine wpAnyH_ready (rs := [9]) (by kernel_rfl) (by simp) ?_
    refine AllReadyH.cons rfl (fun K hK => ?_) AllReadyH.nil
    go_simp
    refine hK.out _ _ (LawM.keep hSl (bl_alloc (Below.refl _ _) _)) (fun hHeld => ?_)
    clear hK K
    refine tK 10 ?_ rfl (by kernel_rfl) (by rfl) ?_ (by assumption) (fun _ _ _ h => h) ?_
    case refine_2 => (intro w hSw; (try dsimp only at hSw); go_simp; try with_reducible rfl)
    simp only [Act.put, zGA, zG0, zGC, zSA, zS0, zSC]
    refine tK 11 ?_ rfl (by kernel_rfl) (by rfl) ?_ (by assumption) (fun _ _ _ h => h) ?_
    case refine_2 => (intro w hSw; (try dsimp only at hSw); go_simp; try with_reducible rfl)
    simp only [Act.put, zGA, zG0, zGC, zSA, zS0, zSC]
    refine wpAnyH_done (by kernel_rfl) ?_ _
    refine NoPanic.normal ?_
    go_wp2_with fail
    go_meet
    exact ⟨_, _, _, _, _, rfl, rfl, rfl, RsR.last hbc how hle hol hnl hfl hbl _⟩
   ·go_simp
    have ba : Below v1.heap.size v1 (v1.alloc (.cells #[.int .i64 0, .int .i64 0, .slice none 0 0, .int .i64 0, .slice none 0 0, .slice none 0 0, .slice none 0 0, .bool false] 28)) := bl_alloc (Below.refl _ _) _
    have Z1 := BoxL.new v1 [.int .i64 0, .int .i64 0, .slice none 0 0, .int .i64 0, .slice none 0 0, .slice none 0 0, .slice none 0 0, .bool false] 28
    have hRu : W4.heap.size ≤ v1.heap.size := hu1.size
    refine hK.out _ _ (LawM.keep hS1 ba) (fun hHeld => ?_)
    clear hK K
    have hu1 := bl_trans hu1 ba
    have hoc := hoc.keep ba
    refine wpAnyH_ready (rs := [3]) (by kernel_rfl) (by simp) ?_
    refine AllReadyH.cons rfl (fun K hK => ?_) AllReadyH.nil
    go_simp
    refine (HIm.out M4 _ hoc.rin HLe41.out HC4.out (HG.out.keep hHeld.bel)).mono ?_
    rintro e v2 ⟨Mw, tw, nw, kw, rfl, how, hle, hol, hnl, hfl, hbl⟩
    go_wp2_with fail
    have Zc := Z1
    have Zl := Z1.keep hbl
    have hbc := hu1
    have hSl := LawM.keep hHeld hbl
    refine hK.out _ _ hSl (fun hHeld => ?_)
    clear hK K
    refine tK 4 ?_ rfl (by kernel_rfl) (by rfl) ?_ (by assumption) (fun _ _ _ h => h) ?_
    case refine_2 => (intro w hSw; (try dsimp only at hSw); go_simp; try with_reducible rfl)
    simp only [Act.put, zGA, zG0, zGC, zSA, zS0, zSC]
    refine tK 5 ?_ rfl (by kernel_rfl) (by rfl) ?_ (by assumption) (fun _ _ _ h => h) ?_
    case refine_2 => (intro w hSw; (try dsimp only at hSw); go_simp; try with_reducible rfl)
    simp only [Act.put, zGA, zG0, zGC, zSA, zS0, zSC]
    refine tK 6 ?_ rfl (by kernel_rfl) (by rfl) ?_ (by assumption) (fun _ _ _ h => h) ?_
    case refine_2 => (intro w hSw; (try dsimp only at hSw); go_simp; try with_reducible rfl)
    simp only [Act.put, zGA, zG0, zGC, zSA, zS0, zSC]
    refine tK 7 ?_ rfl (by kernel_rfl) (by rfl) ?_ (by assumption) (fun _ _ _ h => h) ?_
    case refine_2 => (intro w hSw; (try dsimp only at hSw); go_simp; try with_reducible rfl)
    simp only [Act.put, zGA, zG0, zGC, zSA, zS0, zSC]
    obtain ⟨k0, k1, k2, k3, k4, k5, k6, k7⟩ := box8 Zl
    have kf := Zl.fr
    have hUP := RsR.first hbc how hle hol hnl hfl hbl hRu Zc.lt Zl
    have hSs : LawM w M v y w4.heap.size M4 _ := LawM.keep hH4 hUP.below
    refine wpAnyH_ready (rs := [9]) (by kernel_rfl) (by simp) ?_
    refine AllReadyH.cons rfl (fun K hK => ?_) AllReadyH.nil
    go_simp
    refine hK.out _ _ hSs (fun hHeld => ?_)
    clear hK K
    refine tK 10 ?_ rfl (by kernel_rfl) (by rfl) ?_ (by assumption) (fun _ _ _ h => h) ?_
    case refine_2 => (intro w hSw; (try dsimp only at hSw); go_simp; try with_reducible rfl)
    simp only [Act.put, zGA, zG0, zGC, zSA, zS0, zSC]
    refine tK 11 ?_ rfl (by kernel_rfl) (by rfl) ?_ (by assumption) (fun _ _ _ h => h) ?_
    case refine_2 => (intro w hSw; (try dsimp only at hSw); go_simp; try with_reducible rfl)
    simp only [Act.put, zGA, zG0, zGC, zSA, zS0, zSC]
    refine wpAnyH_done (by kernel_rfl) ?_ _
    refine NoPanic.normal ?_
    go_wp2_with fail
    go_meet
    exact ⟨_, _, _, _, _, rfl, rfl, rfl, hUP⟩
  ·go_simp
   have ba : Below W4.heap.size W4 (W4.alloc (.cells #[.int .i64 0, .int .i64 0, .slice none 0 0, .int .i64 0, .slice none 0 0, .slice none 0 0, .slice none 0 0, .bool false] 28)).drew := (bl_alloc (Below.refl _ _) _).drew
   have Z0 := (BoxL.new W4 [.int .i64 0, .int .i64 0, .slice none 0 0, .int .i64 0, .slice none 0 0, .slice none 0 0, .slice none 0 0, .bool false] 28).keep (Below.refl _ _).drew
   have hRu : W4.heap.size ≤ W4.heap.size := Nat.le_refl _
   refine hK.out _ _ (LawM.keep hH4 ba) (fun hHeld => ?_)
   clear hK K
   have hu0 := ba
   have hoc := hoc.keep ba
   refine wpAnyH_ready (rs := [2]) (by kernel_rfl) (by simp) ?_
   refine AllReadyH.cons rfl (fun K hK => ?_) AllReadyH.nil
   go_simp
   refine (toMsg_any y.1 y.2.1 y.2.2 _).mono ?_
   rintro e v1 ⟨rfl, hv1⟩
   go_wp2_with fail
   have hoc := hoc.keep hv1
   have Z1 := Z0.keep hv1
   have hu1 := bl_trans hu0 hv1
   have hS1 := LawM.keep hHeld hv1
   refine hK.out _ _ hS1 (fun hHeld => ?_)
   clear hK K
   refine wpAnyH_ready (rs := [3]) (by kernel_rfl) (by simp) ?_
   refine AllReadyH.cons rfl (fun K hK => ?_) AllReadyH.nil
   go_simp
   refine (HIm.out M4 _ hoc.rin HLe41.out HC4.out (HG.out.keep hHeld.bel)).mono ?_
   rintro e v2 ⟨Mw, tw, nw, kw, rfl, how, hle, hol, hnl, hfl, hbl⟩
   go_wp2_with fail
   have Zc := Z1
   have Zl := Z1.keep hbl
   have hbc := hu1
   have hSl := LawM.keep hHeld hbl
   refine hK.out _ _ hSl (fun hHeld => ?_)
   clear hK K
   refine tK 4 ?_ rfl (by kernel_rfl) (by rfl) ?_ (by assumption) (fun _ _ _ h => h) ?_
   case refine_2 => (intro w hSw; (try dsimp only at hSw); go_simp; try with_reducible rfl)
   simp only [Act.put, zGA, zG0, zGC, zSA, zS0, zSC]
   refine tK 5 ?_ rfl (by kernel_rfl) (by rfl) ?_ (by assumption) (fun _ _ _ h => h) ?_
   case refine_2 => (intro w hSw; (try dsimp only at hSw); go_simp; try with_reducible rfl)
   simp only [Act.put, zGA, zG0, zGC, zSA, zS0, zSC]
   refine tK 6 ?_ rfl (by kernel_rfl) (by rfl) ?_ (by assumption) (fun _ _ _ h => h) ?_
   case refine_2 => (intro w hSw; (try dsimp only at hSw); go_simp; try with_reducible rfl)
   simp only [Act.put, zGA, zG0, zGC, zSA, zS0, zSC]
   refine tK 7 ?_ rfl (by kernel_rfl) (by rfl) ?_ (by assumption) (fun _ _ _ h => h) ?_
   case refine_2 => (intro w hSw; (try dsimp only at hSw); go_simp; try with_reducible rfl)
   simp only [Act.put, zGA, zG0, zGC, zSA, zS0, zSC]
   obtain ⟨k0, k1, k2, k3, k4, k5, k6, k7⟩ := box8 Zl
   have kf := Zl.fr
   have hUP := RsR.first hbc how hle hol hnl hfl hbl hRu Zc.lt Zl
   have hSs : LawM w M v y w4.heap.size M4 _ := LawM.keep hH4 hUP.below
   refine wpAnyH_ready (rs := [9]) (by kernel_rfl) (by simp) ?_
   refine AllReadyH.cons rfl (fun K hK => ?_) AllReadyH.nil
   go_simp
   refine hK.out _ _ hSs (fun hHeld => ?_)
   clear hK K
   refine tK 10 ?_ rfl (by kernel_rfl) (by rfl) ?_ (by assumption) (fun _ _ _ h => h) ?_
   case refine_2 => (intro w hSw; (try dsimp only at hSw); go_simp; try with_reducible rfl)
   simp only [Act.put, zGA, zG0, zGC, zSA, zS0, zSC]
   refine tK 11 ?_ rfl (by kernel_rfl) (by rfl) ?_ (by assumption) (fun _ _ _ h => h) ?_
   case refine_2 => (intro w hSw; (try dsimp only at hSw); go_simp; try with_reducible rfl)
   simp only [Act.put, zGA, zG0, zGC, zSA, zS0, zSC]
   refine wpAnyH_done (by kernel_rfl) ?_ _
   refine NoPanic.normal ?_
   go_wp2_with fail
   go_meet
   exact ⟨_, _, _, _, _, rfl, rfl, rfl, hUP⟩
 obtain ⟨R7, M6, t6, n6, k6, rfl, rfl, rfl, hU7⟩ := hcut
 obtain ⟨W7, rfl⟩ : ∃ W7, W7 = wc := ⟨_, rfl⟩
 have g7 := hU7.box
 have hb67 := hU7.below
 have x7 := x4.keep hb67
 have mx7 := mx4.keep hb67
 have y7 := y4.keep hb67
 have z7 := z4.keep hb67
 have B7 := bl_trans B4 hb67
 have A6 := hidOf hU7.own.abv
 have AT := hidOf (abv_ints hU7.told)
 have F6 := hidOf hU7.far
 have N6 := hidOf hU7.tn
 have O4b := hidOf (O4.out.keep hb67)
 have O6 := hidOf hU7.own
 have T6 := hidOf hU7.told
 have I7 := hidOf (I4.out.keep hb67)
 have T7 := hidOf (T4.out.keep hb67)
 have HL6 := hidOf hU7.le
 have NR7 := hidOf hU7.nr
 have NT7 := hidOf hU7.nt
 have sR7 := hidOf hU7.ge
 clear x4 mx4 y4 z4 B4 hb67 O4 I4 T4 hU7 hH4 hoc
 have p0 := y7.cs 0 (by simp)
 have p1 := y7.cs 1 (by simp)
 have p2 := y7.cs 2 (by simp)
 have p3 := y7.cs 3 (by simp)
 have p4 := y7.cs 4 (by simp)
 have p5 := y7.cs 5 (by simp)
 have p6 := y7.cs 6 (by simp)
 have p7 := y7.cs 7 (by simp)
 simp at p0 p1 p2 p3 p4 p5 p6 p7
 have q0 := g7.cs 0 (by simp)
 have q1 := g7.cs 1 (by simp)
 have q2 := g7.cs 2 (by simp)
 have q3 := g7.cs 3 (by simp)
 have q4 := g7.cs 4 (by simp)
 have q5 := g7.cs 5 (by simp)
 have q6 := g7.cs 6 (by simp)
 have q7 := g7.cs 7 (by simp)
 simp at q0 q1 q2 q3 q4 q5 q6 q7
 go_wp2_with fail
 refine (eqRing_same M6 Mw r _ O6.out.rin I7.out HL6.out Ow.out).mono ?_
 rintro e w8a ⟨rfl, hb8a⟩
 have HEq := hidOf (eqIntS_any t6 tw n6 nw k6 kw td td w8a (T6.out.ints.keep hb8a) (T7.out.keep hb8a) N6.out Nw.out)
 rw [eqL_selfT] at HEq
 go_wp2_with fail
 refine HEq.out.mono ?_
 rintro e w8 ⟨rfl, hb8b⟩
 have hb8 := bl_trans hb8a hb8b
 have hS : LawXS w w4.heap.size M M4 v w8 w8 := LawX.s ⟨x7.keep hb8, z7.keep hb8, O4b.out.rin.keep hb8, bl_trans B7 hb8, Below.refl _ _⟩
 have y8 := y7.keep hb8
 have Mx8 := hidOf (mx7.keep hb8)
 have g8 := g7.keep hb8
 have O4c := hidOf (O4b.out.keep hb8)
 have O6b := hidOf (O6.out.keep hb8)
 have T6b := hidOf (T6.out.keep hb8)
 have I8 := hidOf (I7.out.keep hb8)
 have T8 := hidOf (T7.out.keep hb8)
 clear p0 p1 p2 p3 p4 p5 p6 p7 q0 q1 q2 q3 q4 q5 q6 q7 x7 mx7 y7 z7 g7 B7 hb8 O4b O6 I7 hb8a hb8b HEq T6 T7
 have Y8 := hidOf y8
 have G8 := hidOf g8
 clear y8 g8
 go_wp2_with fail
 go_region_held3 (fun w' => LawXS w w4.heap.size M M4 v w8 w') (first | (exact hS.drew) | (exact LawXS.keep (by assumption) (by assumption)))
  (first
   | (go_at_call 48; refine (toRing_any M v _ (HI.out.keep (LawXS.law (by assumption)).below) HL.out).mono ?_; rintro e w9 ⟨M9, rfl, hO9, hL9, hC9, hb9⟩)
   | (go_at_call 50; refine (eqRing_same M4 M9 v _ (LawXS.law (by assumption)).cop hO9.rin HLe4.out (hL9 _ HL.out)).mono ?_; rintro e w10 ⟨rfl, hb10⟩))
 rename_i u9 hT
 have L9 := hidOf (LawXS.law hT)
 clear hS hT
 have z9 := L9.out.own
 have HMk := hidOf (markRing_any W3.heap.size M4 v 1 _ (O4c.out.keep L9.out.since) HLe4.out (by omega) (by omega))
 have p0 := z9.cs 0 (by simp)
 have p1 := z9.cs 1 (by simp)
 have p2 := z9.cs 2 (by simp)
 have p3 := z9.cs 3 (by simp)
 have p4 := z9.cs 4 (by simp)
 have p5 := z9.cs 5 (by simp)
 have p6 := z9.cs 6 (by simp)
 have p7 := z9.cs 7 (by simp)
 simp at p0 p1 p2 p3 p4 p5 p6 p7
 go_wp2_with fail
 refine HMk.out.mono ?_
 rintro e w10 ⟨he, -, t10⟩
 obtain ⟨m4, hm4⟩ : ∃ m : Int, ((1 + cntR M4 : Nat) : Int) = m := ⟨_, rfl⟩
 rw [hm4] at he
 subst he
 have n4 : ¬ m4 < 0 := by omega
 have y10 := (Y8.out.keep L9.out.since).turnA t10 ly.out A4.out
 have x10 := L9.out.arg.turnA t10 lx.out A4.out
 have mx10 := (Mx8.out.keep L9.out.since).turnA t10 lmx.out A4.out
 have g10 := (G8.out.keep L9.out.since).turn t10 fun p hp => (U4.out p hp).mono (Nat.le_trans s4.out sR7.out)
 have I10 := hidOf ((I8.out.keep L9.out.since).turn t10 fun p hp q hq => (Far.mk (UW.out q hq) (A4.out p hp)).symm)
 have Tw10 := hidOf (IntsAt.turn (T8.out.keep L9.out.since) t10 fun p hp => (Far.mk UT.out (A4.out p hp)).symm)
 have O10 := hidOf ((O6b.out.keep L9.out.since).turn t10 fun p hp q hq => Far.mk ((U4.out p hp).mono s4.out) (A6.out q hq))
 have To10 := hidOf (Il.OwnAt.turn (T6b.out.keep L9.out.since) t10 fun p hp => Far.mk ((U4.out p hp).mono s4.out) AT.out)
 have B10 := L9.out.below.trans (t10.below L9.out.below.size fun p hp => (A4.out p hp).mono (Nat.le_of_lt lx.out))
 clear p0 p1 p2 p3 p4 p5 p6 p7 z9 HMk L9 Y8 G8 Mx8 I8 O4c O6b hm4 t10 T6b T8
 have p0 := y10.cs 0 (by simp)
 have p1 := y10.cs 1 (by simp)
 have p2 := y10.cs 2 (by simp)
 have p3 := y10.cs 3 (by simp)
 have p4 := y10.cs 4 (by simp)
 have p5 := y10.cs 5 (by simp)
 have p6 := y10.cs 6 (by simp)
 have p7 := y10.cs 7 (by simp)
 simp at p0 p1 p2 p3 p4 p5 p6 p7
 have q0 := g10.cs 0 (by simp)
 have q1 := g10.cs 1 (by simp)
 have q2 := g10.cs 2 (by simp)
 have q3 := g10.cs 3 (by simp)
 have q4 := g10.cs 4 (by simp)
 have q5 := g10.cs 5 (by simp)
 have q6 := g10.cs 6 (by simp)
 have q7 := g10.cs 7 (by simp)
 simp at q0 q1 q2 q3 q4 q5 q6 q7
 go_wp2_with fail
 refine (eqRing_same M6 Mw r _ O10.out.rin I10.out HL6.out Ow.out).mono ?_
 rintro e w11a ⟨rfl, hb11a⟩
 have HEq := hidOf (eqIntS_any t6 tw n6 nw k6 kw td td w11a (To10.out.ints.keep hb11a) (Tw10.out.keep hb11a) N6.out Nw.out)
 rw [eqL_selfT] at HEq
 go_wp2_with fail
 refine HEq.out.mono ?_
 rintro e w11 ⟨rfl, hb11b⟩
 have hb11 := bl_trans hb11a hb11b
 have y11 := y10.keep hb11
 have x11 := x10.keep hb11
 have mx11 := mx10.keep hb11
 have g11 := g10.keep hb11
 have I11 := hidOf (I10.out.keep hb11)
 have Tw11 := hidOf (Tw10.out.keep hb11)
 have To11 := hidOf (To10.out.keep hb11)
 have B11 := bl_trans B10 hb11
 have HMk := hidOf (markRing_any W4.heap.size M6 r 1 _ (O10.out.keep hb11) HL6.out (by omega) (by omega))
 have hl6 := hidOf O10.out.sb.sub.len
 clear p0 p1 p2 p3 p4 p5 p6 p7 q0 q1 q2 q3 q4 q5 q6 q7 y10 x10 mx10 g10 I10 O10 B10 hb11 hb11a hb11b HEq Tw10 To10
 have q0 := g11.cs 0 (by simp)
 have q1 := g11.cs 1 (by simp)
 have q2 := g11.cs 2 (by simp)
 have q3 := g11.cs 3 (by simp)
 have q4 := g11.cs 4 (by simp)
 have q5 := g11.cs 5 (by simp)
 have q6 := g11.cs 6 (by simp)
 have q7 := g11.cs 7 (by simp)
 simp at q0 q1 q2 q3 q4 q5 q6 q7
 go_wp2_with fail
 refine HMk.out.mono ?_
 rintro e w12 ⟨he, o12, t12⟩
 obtain ⟨m6, hm6⟩ : ∃ m : Int, ((1 + cntR M6 : Nat) : Int) = m := ⟨_, rfl⟩
 rw [hm6] at he
 subst he
 have n6' : ¬ m6 < 0 := by omega
 have hm6le : m6 ≤ 4000000000000000000 := by have := cntR_le HL6.out hl6.out; omega
 have Hm6 := hidOf hm6
 have y12 := y11.turnA t12 (Nat.lt_of_lt_of_le ly.out s34.out) A6.out
 have x12 := x11.turnA t12 (Nat.lt_of_lt_of_le lx.out s34.out) A6.out
 have mx12 := mx11.turnA t12 (Nat.lt_of_lt_of_le lmx.out s34.out) A6.out
 have g12 := g11.turnN t12 NR7.out
 have I12 := hidOf (I11.out.turn t12 fun p hp q hq => (Far.mk ((UW.out q hq).mono s34.out) (A6.out p hp)).symm)
 have Tw12 := hidOf (IntsAt.turn Tw11.out t12 fun p hp => (Far.mk (UT.out.mono s34.out) (A6.out p hp)).symm)
 have To12 := hidOf (Il.OwnAt.turn To11.out t12 fun p hp => F6.out p hp)
 have K12 := hidOf o12.rin
 have B12 := B11.trans (t12.below B11.size fun p hp => (A6.out p hp).mono (Nat.le_of_lt (Nat.lt_of_lt_of_le lx.out s34.out)))
 have HMi := hidOf (markIntW_any W4.heap.size t6 n6 k6 td m6 w12 To12.out N6.out (by omega) hm6le)
 clear q0 q1 q2 q3 q4 q5 q6 q7 y11 x11 mx11 g11 I11 B11 HMk o12 t12 hm6 Tw11 To11 To12
 go_wp2_with fail
 refine HMi.out.mono ?_
 rintro e w12b ⟨he, o12b, t12b⟩
 have tt := TurnL.ofI t12b
 obtain ⟨m7, hm7⟩ : ∃ m : Int, m6 + (n6 : Int) = m := ⟨_, rfl⟩
 rw [hm7] at he
 subst he
 have n7 : ¬ m7 < 0 := by omega
 have Hm7 := hidOf hm7
 have oneT : ∀ {Q : Option Addr × Nat → Prop}, Q (t6, n6) → ∀ p, p ∈ [(t6, n6)] → Q p := fun h p hp => by rw [List.mem_singleton] at hp; subst hp; exact h
 have y12b := y12.turnA tt (Nat.lt_of_lt_of_le ly.out s34.out) (oneT AT.out)
 have x12b := x12.turnA tt (Nat.lt_of_lt_of_le lx.out s34.out) (oneT AT.out)
 have mx12b := mx12.turnA tt (Nat.lt_of_lt_of_le lmx.out s34.out) (oneT AT.out)
 have g12b := g12.turnN tt (oneT NT7.out)
 have I12b := hidOf (I12.out.turn tt (oneT fun q hq => (Far.mk ((UW.out q hq).mono s34.out) AT.out).symm))
 have Tw12b := hidOf (IntsAt.turn Tw12.out tt (oneT (Far.mk (UT.out.mono s34.out) AT.out).symm))
 have K12b := hidOf (K12.out.turn tt (oneT fun q hq => (F6.out q (by rw [allR_mk] at hq; exact hq)).symm))
 have Kt := hidOf o12b.ints
 have B12b := B12.trans (tt.below B12.size (oneT (AT.out.mono (Nat.le_of_lt (Nat.lt_of_lt_of_le lx.out s34.out)))))
 clear y12 x12 mx12 g12 I12 Tw12 K12 B12 HMi o12b t12b tt hm7 oneT
 have q0 := g12b.cs 0 (by simp)
 have q1 := g12b.cs 1 (by simp)
 have q2 := g12b.cs 2 (by simp)
 have q3 := g12b.cs 3 (by simp)
 have q4 := g12b.cs 4 (by simp)
 have q5 := g12b.cs 5 (by simp)
 have q6 := g12b.cs 6 (by simp)
 have q7 := g12b.cs 7 (by simp)
 simp at q0 q1 q2 q3 q4 q5 q6 q7
 go_wp2_with fail
 refine (heldRing_marks M6 r r 1 _ K12b.out HL6.out (by omega) (by omega) hl6.out).mono ?_
 rintro e w13 ⟨he, hb13⟩
 rw [Hm6.out] at he
 subst he
 have HHi := hidOf (heldIntW_marks t6 n6 k6 m6 w13 (Kt.out.keep hb13) N6.out (by omega) hm6le)
 rw [Hm7.out] at HHi
 have y13 := y12b.keep hb13
 have x13 := x12b.keep hb13
 have mx13 := mx12b.keep hb13
 have g13 := g12b.keep hb13
 have I13 := hidOf (I12b.out.keep hb13)
 have Tw13 := hidOf (Tw12b.out.keep hb13)
 have K13 := hidOf (K12b.out.keep hb13)
 have Kt13 := hidOf (Kt.out.keep hb13)
 have B13 := bl_trans B12b hb13
 clear q0 q1 q2 q3 q4 q5 q6 q7 y12b x12b mx12b g12b I12b K12b B12b hb13 Tw12b Kt
 go_wp2_with fail
 refine HHi.out.mono ?_
 rintro e w13b ⟨rfl, rfl⟩
 have hH13 : LawM w M v y w.heap.size M w13b := LawM.mk' x13 mx13 x13 B13
 go_upto_region 31 with fail
 go_cut [16, 17, 18] from 19 (fun va vb vc wx => ∃ (R : Nat) (Mw : Rm) (tw : Option Addr) (nw kw : Nat), va = .pointer (some ⟨R, 0, none⟩) ∧ vb = .slice tw nw kw ∧ vc = .int .i64 c ∧ RsR w13b r td R Mw tw nw wx)
 case first =>
  go_wp2_with fail
  refine wp_region_noPanic ?_
  refine wp_region_held_drew (S := fun u => LawM w M v y w.heap.size M u) (by kernel_rfl) hH13.drew (fun hHeld => ?_)
  refine tK 0 ?_ rfl (by kernel_rfl) (by rfl) ?_ (by assumption) (fun _ _ _ h => h) ?_
  case refine_2 => (intro w hSw; (try dsimp only at hSw); go_simp; try with_reducible rfl)
  simp only [Act.put, List.getElem_toArray, List.getElem_cons_zero, List.setIfInBounds_toArray, List.set_cons_zero, List.set_cons_succ]
  refine tK 2 ?_ rfl (by kernel_rfl) (by rfl) ?_ (by assumption) (fun _ _ _ h => h) ?_
  case refine_2 => (intro w hSw; (try dsimp only at hSw); go_simp; try with_reducible rfl)
  simp only [Act.put, zGA, zG0, zGC, zSA, zS0, zSC]
  refine wpAnyH_ready (rs := [1, 9]) (by kernel_rfl) (by simp) ?_
  refine AllReadyH.cons rfl (fun K hK => ?_) (AllReadyH.cons rfl (fun K hK => ?_) AllReadyH.nil)
  ·have hu0 : Below w13b.heap.size w13b w13b.drew := (Below.refl _ _).drew
   go_simp
   refine (toRing_any M v _ (HI.out.keep hHeld.bel) HL.out).mono ?_
   rintro e v1 ⟨Mc, rfl, hoc, hlc, hcc, hv1⟩
   go_wp2_with fail
   have hu1 := bl_trans hu0 hv1
   have hS1 := LawM.keep hHeld hv1
   refine hK.out _ _ hS1 (fun hHeld => ?_)
   clear hK K
   refine wpAnyH_ready (rs := [3, 9]) (by kernel_rfl) (by simp) ?_
   refine AllReadyH.cons rfl (fun K hK => ?_) (AllReadyH.cons rfl (fun K hK => ?_) AllReadyH.nil)
   ·go_simp
    refine (toMsg_any y.1 y.2.1 y.2.2 _).mono ?_
    rintro e v2 ⟨rfl, hv2⟩
    go_wp2_with fail
    have hoc := hoc.keep hv2
    have hu2 := bl_trans hu1 hv2
    have hS2 := LawM.keep hHeld hv2
    refine hK.out _ _ hS2 (fun hHeld => ?_)
    clear hK K
    refine wpAnyH_ready (rs := [4, 9]) (by kernel_rfl) (by simp) ?_
    refine AllReadyH.cons rfl (fun K hK => ?_) (AllReadyH.cons rfl (fun K hK => ?_) AllReadyH.nil)
    ·go_simp
     refine (HIm.out Mc _ hoc.rin (hlc _ HL1.out) hcc (HG.out.keep hHeld.bel)).mono ?_
     rintro e v3 ⟨Mw, tw, nw, kw, rfl, how, hle, hol, hnl, hfl, hbl⟩
     go_wp2_with fail
     have hbc := hu2
     have hSl := LawM.keep hHeld hbl
     refine hK.out _ _ hSl (fun hHeld => ?_)
     clear hK K
     refine tK 5 ?_ rfl (by kernel_rfl) (by rfl) ?_ (by assumption) (fun _ _ _ h => h) ?_
     case refine_2 => (intro w hSw; (try dsimp only at hSw); go_simp; try with_reducible rfl)
     simp only [Act.put, zGA, zG0, zGC, zSA, zS0, zSC]
     refine tK 6 ?_ rfl (by kernel_rfl) (by rfl) ?_ (by assumption) (fun _ _ _ h => h) ?_
     case refine_2 => (intro w hSw; (try dsimp only at hSw); go_simp; try with_reducible rfl)
     simp only [Act.put, zGA, zG0, zGC, zSA, zS0, zSC]
     refine tK 7 ?_ rfl (by kernel_rfl) (by rfl) ?_ (by assumption) (fun _ _ _ h => h) ?_
     case refine_2 => (intro w hSw; (try dsimp only at hSw); go_simp; try with_reducible rfl)
     simp only [Act.put, zGA, zG0, zGC, zSA, zS0, zSC]
     refine tK 8 ?_ rfl (by kernel_rfl) (by rfl) ?_ (by assumption) (fun _ _ _ h => h) ?_
     case refine_2 => (intro w hSw; (try dsimp only at hSw); go_simp; try with_reducible rfl)
     simp only [Act.put, zGA, zG0, zGC, zSA, zS0, zSC]
     refine wpAnyH_ready (rs := [9]) (by kernel_rfl) (by simp) ?_
     refine AllReadyH.cons rfl (fun K hK => ?_) AllReadyH.nil
     go_simp
     refine hK.out _ _ (LawM.keep hSl (bl_alloc (Below.refl _ _) _)) (fun hHeld => ?_)
     clear hK K
     refine wpAnyH_ready (rs := [10]) (by kernel_rfl) (by simp) ?_
     refine AllReadyH.cons rfl (fun K hK => ?_) AllReadyH.nil
     go_simp
     refine hK.out _ _ (LawM.keep hSl (bl_alloc (Below.refl _ _) _)) (fun hHeld => ?_)
     clear hK K
     refine tK 11 ?_ rfl (by kernel_rfl) (by rfl) ?_ (by assumption) (fun _ _ _ h => h) ?_
     case refine_2 => (intro w hSw; (try dsimp only at hSw); go_simp; try with_reducible rfl)
     simp only [Act.put, zGA, zG0, zGC, zSA, zS0, zSC]
     refine tK 12 ?_ rfl (by kernel_rfl) (by rfl) ?_ (by assumption) (fun _ _ _ h => h) ?_
     case refine_2 => (intro w hSw; (try dsimp only at hSw); go_simp; try with_reducible rfl)
     simp only [Act.put, zGA, zG0, zGC, zSA, zS0, zSC]
     refine wpAnyH_done (by kernel_rfl) ?_ _
     refine NoPanic.normal ?_
     go_wp2_with fail
     go_meet
     exact ⟨_, _, _, _, _, rfl, rfl, rfl, RsR.last hbc how hle hol hnl hfl hbl _⟩
    ·go_simp
     have ba : Below v2.heap.size v2 (v2.alloc (.cells #[.int .i64 0, .int .i64 0, .slice none 0 0, .int .i64 0, .slice none 0 0, .slice none 0 0, .slice none 0 0, .bool false] 28)) := bl_alloc (Below.refl _ _) _
     have Z2 := BoxL.new v2 [.int .i64 0, .int .i64 0, .slice none 0 0, .int .i64 0, .slice none 0 0, .slice none 0 0, .slice none 0 0, .bool false] 28
     have hRu : w13b.heap.size ≤ v2.heap.size := hu2.size
     refine hK.out _ _ (LawM.keep hS2 ba) (fun hHeld => ?_)
     clear hK K
     have hu2 := bl_trans hu2 ba
     have hoc := hoc.keep ba
     refine wpAnyH_ready (rs := [4]) (by kernel_rfl) (by simp) ?_
     refine AllReadyH.cons rfl (fun K hK => ?_) AllReadyH.nil
     go_simp
     refine (HIm.out Mc _ hoc.rin (hlc _ HL1.out) hcc (HG.out.keep hHeld.bel)).mono ?_
     rintro e v3 ⟨Mw, tw, nw, kw, rfl, how, hle, hol, hnl, hfl, hbl⟩
     go_wp2_with fail
     have Zc := Z2
     have Zl := Z2.keep hbl
     have hbc := hu2
     have hSl := LawM.keep hHeld hbl
     refine hK.out _ _ hSl (fun hHeld => ?_)
     clear hK K
     refine tK 5 ?_ rfl (by kernel_rfl) (by rfl) ?_ (by assumption) (fun _ _ _ h => h) ?_
     case refine_2 => (intro w hSw; (try dsimp only at hSw); go_simp; try with_reducible rfl)
     simp only [Act.put, zGA, zG0, zGC, zSA, zS0, zSC]
     refine tK 6 ?_ rfl (by kernel_rfl) (by rfl) ?_ (by assumption) (fun _ _ _ h => h) ?_
     case refine_2 => (intro w hSw; (try dsimp only at hSw); go_simp; try with_reducible rfl)
     simp only [Act.put, zGA, zG0, zGC, zSA, zS0, zSC]
     refine tK 7 ?_ rfl (by kernel_rfl) (by rfl) ?_ (by assumption) (fun _ _ _ h => h) ?_
     case refine_2 => (intro w hSw; (try dsimp only at hSw); go_simp; try with_reducible rfl)
     simp only [Act.put, zGA, zG0, zGC, zSA, zS0, zSC]
     refine tK 8 ?_ rfl (by kernel_rfl) (by rfl) ?_ (by assumption) (fun _ _ _ h => h) ?_
     case refine_2 => (intro w hSw; (try dsimp only at hSw); go_simp; try with_reducible rfl)
     simp only [Act.put, zGA, zG0, zGC, zSA, zS0, zSC]
     obtain ⟨k0, k1, k2, k3, k4, k5, k6, k7⟩ := box8 Zl
     have kf := Zl.fr
     have hUP := RsR.first hbc how hle hol hnl hfl hbl hRu Zc.lt Zl
     have hSs : LawM w M v y w.heap.size M _ := LawM.keep hH13 hUP.below
     refine wpAnyH_ready (rs := [10]) (by kernel_rfl) (by simp) ?_
     refine AllReadyH.cons rfl (fun K hK => ?_) AllReadyH.nil
     go_simp
     refine hK.out _ _ hSs (fun hHeld => ?_)
     clear hK K
     refine tK 11 ?_ rfl (by kernel_rfl) (by rfl) ?_ (by assumption) (fun _ _ _ h => h) ?_
     case refine_2 => (intro w hSw; (try dsimp only at hSw); go_simp; try with_reducible rfl)
     simp only [Act.put, zGA, zG0, zGC, zSA, zS0, zSC]
     refine tK 12 ?_ rfl (by kernel_rfl) (by rfl) ?_ (by assumption) (fun _ _ _ h => h) ?_
     case refine_2 => (intro w hSw; (try dsimp only at hSw); go_simp; try with_reducible rfl)
     simp only [Act.put, zGA, zG0, zGC, zSA, zS0, zSC]
     refine wpAnyH_done (by kernel_rfl) ?_ _
     refine NoPanic.normal ?_
     go_wp2_with fail
     go_meet
     exact ⟨_, _, _, _, _, rfl, rfl, rfl, hUP⟩
   ·go_simp
    have ba : Below v1.heap.size v1 (v1.alloc (.cells #[.int .i64 0, .int .i64 0, .slice none 0 0, .int .i64 0, .slice none 0 0, .slice none 0 0, .slice none 0 0, .bool false] 28)) := bl_alloc (Below.refl _ _) _
    have Z1 := BoxL.new v1 [.int .i64 0, .int .i64 0, .slice none 0 0, .int .i64 0, .slice none 0 0, .slice none 0 0, .slice none 0 0, .bool false] 28
    have hRu : w13b.heap.size ≤ v1.heap.size := hu1.size
    refine hK.out _ _ (LawM.keep hS1 ba) (fun hHeld => ?_)
    clear hK K
    have hu1 := bl_trans hu1 ba
    have hoc := hoc.keep ba
    refine wpAnyH_ready (rs := [3]) (by kernel_rfl) (by simp) ?_
    refine AllReadyH.cons rfl (fun K hK => ?_) AllReadyH.nil
    go_simp
    refine (toMsg_any y.1 y.2.1 y.2.2 _).mono ?_
    rintro e v2 ⟨rfl, hv2⟩
    go_wp2_with fail
    have hoc := hoc.keep hv2
    have Z2 := Z1.keep hv2
    have hu2 := bl_trans hu1 hv2
    have hS2 := LawM.keep hHeld hv2
    refine hK.out _ _ hS2 (fun hHeld => ?_)
    clear hK K
    refine wpAnyH_ready (rs := [4]) (by kernel_rfl) (by simp) ?_
    refine AllReadyH.cons rfl (fun K hK => ?_) AllReadyH.nil
    go_simp
    refine (HIm.out Mc _ hoc.rin (hlc _ HL1.out) hcc (HG.out.keep hHeld.bel)).mono ?_
    rintro e v3 ⟨Mw, tw, nw, kw, rfl, how, hle, hol, hnl, hfl, hbl⟩
    go_wp2_with fail
    have Zc := Z2
    have Zl := Z2.keep hbl
    have hbc := hu2
    have hSl := LawM.keep hHeld hbl
    refine hK.out _ _ hSl (fun hHeld => ?_)
    clear hK K
    refine tK 5 ?_ rfl (by kernel_rfl) (by rfl) ?_ (by assumption) (fun _ _ _ h => h) ?_
    case refine_2 => (intro w hSw; (try dsimp only at hSw); go_simp; try with_reducible rfl)
    simp only [Act.put, zGA, zG0, zGC, zSA, zS0, zSC]
    refine tK 6 ?_ rfl (by kernel_rfl) (by rfl) ?_ (by assumption) (fun _ _ _ h => h) ?_
    case refine_2 => (intro w hSw; (try dsimp only at hSw); go_simp; try with_reducible rfl)
    simp only [Act.put, zGA, zG0, zGC, zSA, zS0, zSC]
    refine tK 7 ?_ rfl (by kernel_rfl) (by rfl) ?_ (by assumption) (fun _ _ _ h => h) ?_
    case refine_2 => (intro w hSw; (try dsimp only at hSw); go_simp; try with_reducible rfl)
    simp only [Act.put, zGA, zG0, zGC, zSA, zS0, zSC]
    refine tK 8 ?_ rfl (by kernel_rfl) (by rfl) ?_ (by assumption) (fun _ _ _ h => h) ?_
    case refine_2 => (intro w hSw; (try dsimp only at hSw); go_simp; try with_reducible rfl)
    simp only [Act.put, zGA, zG0, zGC, zSA, zS0, zSC]
    obtain ⟨k0, k1, k2, k3, k4, k5, k6, k7⟩ := box8 Zl
    have kf := Zl.fr
    have hUP := RsR.first hbc how hle hol hnl hfl hbl hRu Zc.lt Zl
    have hSs : LawM w M v y w.heap.size M _ := LawM.keep hH13 hUP.below
    refine wpAnyH_ready (rs := [10]) (by kernel_rfl) (by simp) ?_
    refine AllReadyH.cons rfl (fun K hK => ?_) AllReadyH.nil
    go_simp
    refine hK.out _ _ hSs (fun hHeld => ?_)
    clear hK K
    refine tK 11 ?_ rfl (by kernel_rfl) (by rfl) ?_ (by assumption) (fun _ _ _ h => h) ?_
    case refine_2 => (intro w hSw; (try dsimp only at hSw); go_simp; try with_reducible rfl)
    simp only [Act.put, zGA, zG0, zGC, zSA, zS0, zSC]
    refine tK 12 ?_ rfl (by kernel_rfl) (by rfl) ?_ (by assumption) (fun _ _ _ h => h) ?_
    case refine_2 => (intro w hSw; (try dsimp only at hSw); go_simp; try with_reducible rfl)
    simp only [Act.put, zGA, zG0, zGC, zSA, zS0, zSC]
    refine wpAnyH_done (by kernel_rfl) ?_ _
    refine NoPanic.normal ?_
    go_wp2_with fail
    go_meet
    exact ⟨_, _, _, _, _, rfl, rfl, rfl, hUP⟩
  ·go_simp
   have ba : Below w13b.heap.size w13b (w13b.alloc (.cells #[.int .i64 0, .int .i64 0, .slice none 0 0, .int .i64 0, .slice none 0 0, .slice none 0 0, .slice none 0 0, .bool false] 28)).drew := (bl_alloc (Below.refl _ _) _).drew
   have Z0 := (BoxL.new w13b [.int .i64 0, .int .i64 0, .slice none 0 0, .int .i64 0, .slice none 0 0, .slice none 0 0, .slice none 0 0, .bool false] 28).keep (Below.refl _ _).drew
   have hRu : w13b.heap.size ≤ w13b.heap.size := Nat.le_refl _
   refine hK.out _ _ (LawM.keep hH13 ba) (fun hHeld => ?_)
   clear hK K
   have hu0 := ba
   refine wpAnyH_ready (rs := [1]) (by kernel_rfl) (by simp) ?_
   refine AllReadyH.cons rfl (fun K hK => ?_) AllReadyH.nil
   go_simp
   refine (toRing_any M v _ (HI.out.keep hHeld.bel) HL.out).mono ?_
   rintro e v1 ⟨Mc, rfl, hoc, hlc, hcc, hv1⟩
   go_wp2_with fail
   have Z1 := Z0.keep hv1
   have hu1 := bl_trans hu0 hv1
   have hS1 := LawM.keep hHeld hv1
   refine hK.out _ _ hS1 (fun hHeld => ?_)
   clear hK K
   refine wpAnyH_ready (rs := [3]) (by kernel_rfl) (by simp) ?_
   refine AllReadyH.cons rfl (fun K hK => ?_) AllReadyH.nil
   go_simp
   refine (toMsg_any y.1 y.2.1 y.2.2 _).mono ?_
   rintro e v2 ⟨rfl, hv2⟩
   go_wp2_with fail
   have hoc := hoc.keep hv2
   have Z2 := Z1.keep hv2
   have hu2 := bl_trans hu1 hv2
   have hS2 := LawM.keep hHeld hv2
   refine hK.out _ _ hS2 (fun hHeld => ?_)
   clear hK K
   refine wpAnyH_ready (rs := [4]) (by kernel_rfl) (by simp) ?_
   refine AllReadyH.cons rfl (fun K hK => ?_) AllReadyH.nil
   go_simp
   refine (HIm.out Mc _ hoc.rin (hlc _ HL1.out) hcc (HG.out.keep hHeld.bel)).mono ?_
   rintro e v3 ⟨Mw, tw, nw, kw, rfl, how, hle, hol, hnl, hfl, hbl⟩
   go_wp2_with fail
   have Zc := Z2
   have Zl := Z2.keep hbl
   have hbc := hu2
   have hSl := LawM.keep hHeld hbl
   refine hK.out _ _ hSl (fun hHeld => ?_)
   clear hK K
   refine tK 5 ?_ rfl (by kernel_rfl) (by rfl) ?_ (by assumption) (fun _ _ _ h => h) ?_
   case refine_2 => (intro w hSw; (try dsimp only at hSw); go_simp; try with_reducible rfl)
   simp only [Act.put, zGA, zG0, zGC, zSA, zS0, zSC]
   refine tK 6 ?_ rfl (by kernel_rfl) (by rfl) ?_ (by assumption) (fun _ _ _ h => h) ?_
   case refine_2 => (intro w hSw; (try dsimp only at hSw); go_simp; try with_reducible rfl)
   simp only [Act.put, zGA, zG0, zGC, zSA, zS0, zSC]
   refine tK 7 ?_ rfl (by kernel_rfl) (by rfl) ?_ (by assumption) (fun _ _ _ h => h) ?_
   case refine_2 => (intro w hSw; (try dsimp only at hSw); go_simp; try with_reducible rfl)
   simp only [Act.put, zGA, zG0, zGC, zSA, zS0, zSC]
   refine tK 8 ?_ rfl (by kernel_rfl) (by rfl) ?_ (by assumption) (fun _ _ _ h => h) ?_
   case refine_2 => (intro w hSw; (try dsimp only at hSw); go_simp; try with_reducible rfl)
   simp only [Act.put, zGA, zG0, zGC, zSA, zS0, zSC]
   obtain ⟨k0, k1, k2, k3, k4, k5, k6, k7⟩ := box8 Zl
   have kf := Zl.fr
   have hUP := RsR.first hbc how hle hol hnl hfl hbl hRu Zc.lt Zl
   have hSs : LawM w M v y w.heap.size M _ := LawM.keep hH13 hUP.below
   refine wpAnyH_ready (rs := [10]) (by kernel_rfl) (by simp) ?_
   refine AllReadyH.cons rfl (fun K hK => ?_) AllReadyH.nil
   go_simp
   refine hK.out _ _ hSs (fun hHeld => ?_)
   clear hK K
   refine tK 11 ?_ rfl (by kernel_rfl) (by rfl) ?_ (by assumption) (fun _ _ _ h => h) ?_
   case refine_2 => (intro w hSw; (try dsimp only at hSw); go_simp; try with_reducible rfl)
   simp only [Act.put, zGA, zG0, zGC, zSA, zS0, zSC]
   refine tK 12 ?_ rfl (by kernel_rfl) (by rfl) ?_ (by assumption) (fun _ _ _ h => h) ?_
   case refine_2 => (intro w hSw; (try dsimp only at hSw); go_simp; try with_reducible rfl)
   simp only [Act.put, zGA, zG0, zGC, zSA, zS0, zSC]
   refine wpAnyH_done (by kernel_rfl) ?_ _
   refine NoPanic.normal ?_
   go_wp2_with fail
   go_meet
   exact ⟨_, _, _, _, _, rfl, rfl, rfl, hUP⟩
 obtain ⟨R16, M15, t15, n15, k15, rfl, rfl, rfl, hU16⟩ := hcut
 obtain ⟨W16, rfl⟩ : ∃ W16, W16 = wc := ⟨_, rfl⟩
 have z16 := hU16.box
 have hb16 := hU16.below
 have y16 := y13.keep hb16
 have g16 := g13.keep hb16
 have I16 := hidOf (I13.out.keep hb16)
 have Tw16 := hidOf (Tw13.out.keep hb16)
 have K16 := hidOf (K13.out.keep hb16)
 have Kt16 := hidOf (Kt13.out.keep hb16)
 have B16 := bl_trans B13 hb16
 have J16 := hidOf hU16.own.rin
 have Jt16 := hidOf hU16.told.ints
 have N15 := hidOf hU16.tn
 have HL15 := hidOf hU16.le
 clear x13 mx13 y13 g13 I13 K13 B13 hb16 Tw13 Kt13 HHi hU16 hH13
 have p0 := y16.cs 0 (by simp)
 have p1 := y16.cs 1 (by simp)
 have p2 := y16.cs 2 (by simp)
 have p3 := y16.cs 3 (by simp)
 have p4 := y16.cs 4 (by simp)
 have p5 := y16.cs 5 (by simp)
 have p6 := y16.cs 6 (by simp)
 have p7 := y16.cs 7 (by simp)
 simp at p0 p1 p2 p3 p4 p5 p6 p7
 have q0 := z16.cs 0 (by simp)
 have q1 := z16.cs 1 (by simp)
 have q2 := z16.cs 2 (by simp)
 have q3 := z16.cs 3 (by simp)
 have q4 := z16.cs 4 (by simp)
 have q5 := z16.cs 5 (by simp)
 have q6 := z16.cs 6 (by simp)
 have q7 := z16.cs 7 (by simp)
 simp at q0 q1 q2 q3 q4 q5 q6 q7
 go_wp2_with fail
 refine (eqRing_same M15 Mw r _ J16.out I16.out HL15.out Ow.out).mono ?_
 rintro e w17a ⟨rfl, hb17a⟩
 have HEq := hidOf (eqIntS_any t15 tw n15 nw k15 kw td td w17a (Jt16.out.keep hb17a) (Tw16.out.keep hb17a) N15.out Nw.out)
 rw [eqL_selfT] at HEq
 go_wp2_with fail
 refine HEq.out.mono ?_
 rintro e w17 ⟨rfl, hb17b⟩
 have hb17 := bl_trans hb17a hb17b
 have g17 := g16.keep hb17
 have K17 := hidOf (K16.out.keep hb17)
 have Kt17 := hidOf (Kt16.out.keep hb17)
 have B17 := bl_trans B16 hb17
 clear p0 p1 p2 p3 p4 p5 p6 p7 q0 q1 q2 q3 q4 q5 q6 q7 y16 z16 g16 I16 K16 B16 hb17 hb17a hb17b HEq Tw16 Kt16 Jt16
 have q0 := g17.cs 0 (by simp)
 have q1 := g17.cs 1 (by simp)
 have q2 := g17.cs 2 (by simp)
 have q3 := g17.cs 3 (by simp)
 have q4 := g17.cs 4 (by simp)
 have q5 := g17.cs 5 (by simp)
 have q6 := g17.cs 6 (by simp)
 have q7 := g17.cs 7 (by simp)
 simp at q0 q1 q2 q3 q4 q5 q6 q7
 go_wp2_with fail
 refine (heldRing_marks M6 r r 1 _ K17.out HL6.out (by omega) (by omega) hl6.out).mono ?_
 rintro e w18 ⟨he, hb18⟩
 rw [Hm6.out] at he
 subst he
 have HHi := hidOf (heldIntW_marks t6 n6 k6 m6 w18 (Kt17.out.keep hb18) N6.out (by omega) hm6le)
 rw [Hm7.out] at HHi
 have B18 := bl_trans B17 hb18
 clear q0 q1 q2 q3 q4 q5 q6 q7 g17 K17 B17 hb18 Kt17
 go_wp2_with fail
 refine HHi.out.mono ?_
 rintro e w19 ⟨rfl, rfl⟩
 go_wp2
 go_ret
 exact ⟨rfl, B18⟩
end Go.Proofs.YtihdglmiecifjaaGreat
