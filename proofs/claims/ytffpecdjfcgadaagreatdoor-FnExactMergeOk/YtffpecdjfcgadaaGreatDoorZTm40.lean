/-
  The law on MergeOk.
-/
import Derived.Test.YtffpecdjfcgadaaGreatDoorZTm38
import Derived.Test.YtffpecdjfcgadaaGreatDoorZTm39
import Derived.Test.YtffpecdjfcgadaaGreatDoorZTm16
namespace Go.Proofs.YtffpecdjfcgadaaGreatDoor
open Go.RowKit Pl Il Tn

theorem okMg_tvs {xs ys : List Ta} (h : tvs ys = tvs xs) (ls : List Lg) (io mv : Int) : okMg ys ls io mv = okMg xs ls io mv := by
  have hl : ys.length = xs.length := by have := congrArg List.length h; simpa [tvs] using this
  have hb : ∀ i, legB ys ls io i = legB xs ls io i := fun i => by
    unfold legB legN legR
    simp only [(tg_tvs h _).2, hl]
  unfold okMg headM
  rw [okTs_tvs h]
  simp only [hb, hl]
set_option maxRecDepth 100000 in
set_option maxHeartbeats 8000000 in
theorem exactMergeOk_any (a : Option Addr) (n c : Nat) (xs : List Ta) (la : Option Addr) (ln lc : Nat) (ls : List Lg) (io mv : Int) (w : World) (hI : TopAt w a n xs) (hw : ∀ x, x ∈ xs → RWf x.v) (hn : n ≤ 9223372036854775807) (hm : TLe xs 9223372036854775807) (hL : LegAt w la ln ls) (hln : ln ≤ 9223372036854775807) (hx : ∀ x, x ∈ ls → LgWf x) (hio : (Lit.int .i64 io).wf = true) (hg : GOkT w) :
    Calls Tryz.prog 3 #[.slice a n c, .agg #[.slice la ln lc, .int .i64 io, .int .i64 mv]] w fun e w' => e = .returned (.bool true) ∧ Below w.heap.size w w' := by
  obtain ⟨W0, hW0⟩ : ∃ W, W = w.alloc (.cells #[.slice la ln lc, .int .i64 io, .int .i64 mv] 25) := ⟨_, rfl⟩
  have b0 : Below w.heap.size w W0 := by rw [hW0]; exact bl_alloc (Below.refl _ _) _
  have A0 : BoxL w.heap.size [.slice la ln lc, .int .i64 io, .int .i64 mv] W0 := by rw [hW0]; exact BoxL.new w [.slice la ln lc, .int .i64 io, .int .i64 mv] _
  have HI := hidOf hI
  have HL := hidOf hL
  have HG := hidOf hg
  have HXw := hidOf hx
  have HIo := hidOf hio
  have HA := hidOf A0
  have HB := hidOf b0
  have HS := hidOf (szTopicS_any a n c xs 1048576 W0 (hI.keep b0) hn hm (by omega) (by omega))
  clear hI hg hL hx hio b0 A0
  go_enter Tryz.func3, Tryz.ntmps3
  go_upto_region 1 with fail
  rw [← hW0]
  clear hW0
  generalize hNM : w.heap.size = NM at HA
  have HNM := hidOf hNM
  clear hNM
  go_wp2_with fail
  refine (HS.out).mono ?_
  rintro e w1 ⟨⟨k, rfl, hk⟩, b1⟩
  clear HS
  replace HB := hidOf (bl_trans HB.out b1)
  replace HA := hidOf (HA.out.keep b1)
  clear b1
  rcases hk with hk | ⟨hk, hk2, hn1, hle⟩
  · go_wp2_with fail
    go_ret
    exact ⟨rfl, HB.out⟩
  have hk' : ¬ k < 0 := by omega
  have HLe := hidOf hle
  have HL2 := hidOf (show TLe xs 2097152 from fun x hx => (hle x hx).mono (by omega))
  have HN2 := hidOf (show n ≤ 2097152 by omega)
  have HN1 := hidOf hn1
  have HSm := hidOf (szMerge_any la ln lc io mv k w1 hln hk hk2)
  obtain ⟨p0, p1, p2⟩ := box3g HA.out
  clear hle hn1
  go_wp2_with fail
  refine (HSm.out).mono ?_
  rintro e w2 ⟨⟨k2, rfl, hkk⟩, b2⟩
  replace HB := hidOf (bl_trans HB.out b2)
  replace HA := hidOf (HA.out.keep b2)
  clear HSm b2 p0 p1 p2
  rcases hkk with hkk | ⟨hkk, _, hl1⟩
  · go_wp2_with fail
    go_ret
    exact ⟨rfl, HB.out⟩
  have hkk' : ¬ k2 < 0 := by omega
  have HLn1 := hidOf hl1
  have HLn2 := hidOf (show ln ≤ 2097152 by omega)
  have HTo := hidOf (fun (u : World) (hu : Below w.heap.size w u) => toTopicS_any a n c xs u (HI.out.keep hu) HN2.out HL2.out)
  have HMo := hidOf (fun (u : World) (hu : Below w.heap.size w u) => toMerge_any la ln lc ls io mv u (HL.out.keep hu) HLn2.out)
  obtain ⟨o, ho⟩ : ∃ o, okMg xs ls io mv = o := ⟨_, rfl⟩
  have HO := hidOf ho
  obtain ⟨p0, p1, p2⟩ := box3g HA.out
  clear hk hk2 hkk hl1 ho hn hm hln HA
  go_upto_region 8 with fail
  refine wp_region_noPanic ?_
  have hH0 : (fun u : World => u.cell? ⟨NM, 0, none⟩ = some (.slice la ln lc) ∧ u.cell? ⟨NM, 1, none⟩ = some (.int .i64 io) ∧ u.cell? ⟨NM, 2, none⟩ = some (.int .i64 mv) ∧ Below w.heap.size w u) w2.drew := ⟨cellG p0, cellG p1, cellG p2, bl_trans HB.out (Below.refl _ _).drew⟩
  refine wp_region_held_drew (S := fun u => u.cell? ⟨NM, 0, none⟩ = some (.slice la ln lc) ∧ u.cell? ⟨NM, 1, none⟩ = some (.int .i64 io) ∧ u.cell? ⟨NM, 2, none⟩ = some (.int .i64 mv) ∧ Below w.heap.size w u) (by kernel_rfl) hH0 (fun hHeld => ?_)
  refine wpAnyH_take (i := 0) (v := ?_) rfl (by kernel_rfl) (by kernel_rfl) (by kernel_rfl) (fun _ _ _ h => h) (Or.inl ⟨by rfl, ?_⟩) (by assumption) ?_
  case refine_2 => (intro w hSw; (try dsimp only at hSw); obtain ⟨s0, s1, s2, s3⟩ := hSw; go_simp; try with_reducible rfl)
  simp only [Act.put, List.getElem_toArray, List.getElem_cons_zero, List.setIfInBounds_toArray, List.set_cons_zero, List.set_cons_succ]
  refine wpAnyH_take (i := 2) (v := ?_) rfl (by kernel_rfl) (by kernel_rfl) (by kernel_rfl) (fun _ _ _ h => h) (Or.inl ⟨by rfl, ?_⟩) (by assumption) ?_
  case refine_2 => (intro w hSw; (try dsimp only at hSw); obtain ⟨s0, s1, s2, s3⟩ := hSw; go_simp; try with_reducible rfl)
  simp only [Act.put, zGA, zG0, zGC, zSA, zS0, zSC]
  refine wpAnyH_ready (rs := [1]) (by kernel_rfl) (by simp) ?_
  refine AllReadyH.cons rfl (fun K hK => ?_) AllReadyH.nil
  go_simp
  refine (HTo.out _ hHeld.2.2.2).mono ?_
  rintro e w3 ⟨ys, rfl, hT3, hs3, hr3, hb3⟩
  go_wp2_with fail
  have hH3 : (fun u : World => u.cell? ⟨NM, 0, none⟩ = some (.slice la ln lc) ∧ u.cell? ⟨NM, 1, none⟩ = some (.int .i64 io) ∧ u.cell? ⟨NM, 2, none⟩ = some (.int .i64 mv) ∧ Below w.heap.size w u) w3 := ⟨cellB hHeld.1 hb3, cellB hHeld.2.1 hb3, cellB hHeld.2.2.1 hb3, bl_trans hHeld.2.2.2 hb3⟩
  refine hK.out _ _ hH3 (fun hHeld => ?_)
  clear hK K
  refine wpAnyH_ready (rs := [3]) (by kernel_rfl) (by simp) ?_
  refine AllReadyH.cons rfl (fun K hK => ?_) AllReadyH.nil
  go_simp
  refine (HMo.out _ hH3.2.2.2).mono ?_
  rintro e w4 ⟨g4, rfl, hL4, hb4⟩
  go_wp2_with fail
  have hH4 : (fun u : World => u.cell? ⟨NM, 0, none⟩ = some (.slice la ln lc) ∧ u.cell? ⟨NM, 1, none⟩ = some (.int .i64 io) ∧ u.cell? ⟨NM, 2, none⟩ = some (.int .i64 mv) ∧ Below w.heap.size w u) w4 := ⟨cellB hH3.1 hb4, cellB hH3.2.1 hb4, cellB hH3.2.2.1 hb4, bl_trans hH3.2.2.2 hb4⟩
  have hT4 := hT3.keep hb4
  refine hK.out _ _ hH4 (fun hHeld => ?_)
  clear hK K
  have HSp := hidOf (specMergeOk_any _ n n ys _ ln ln ls io mv w4 hT4 (wf_to hs3 hr3 HLe.out hw) HN1.out hL4 HLn1.out)
  rw [okMg_tvs hs3, HO.out] at HSp
  refine wpAnyH_ready (rs := [4]) (by kernel_rfl) (by simp) ?_
  refine AllReadyH.cons rfl (fun K hK => ?_) AllReadyH.nil
  go_simp
  refine (HSp.out).mono ?_
  rintro e w5 ⟨rfl, hb5⟩
  go_wp2_with fail
  have hH5 : (fun u : World => u.cell? ⟨NM, 0, none⟩ = some (.slice la ln lc) ∧ u.cell? ⟨NM, 1, none⟩ = some (.int .i64 io) ∧ u.cell? ⟨NM, 2, none⟩ = some (.int .i64 mv) ∧ Below w.heap.size w u) w5 := ⟨cellB hH4.1 hb5, cellB hH4.2.1 hb5, cellB hH4.2.2.1 hb5, bl_trans hH4.2.2.2 hb5⟩
  refine hK.out _ _ hH5 (fun hHeld => ?_)
  clear hK K
  refine wpAnyH_take (i := 5) (v := ?_) rfl (by kernel_rfl) (by kernel_rfl) (by kernel_rfl) (fun _ _ _ h => h) (Or.inl ⟨by rfl, ?_⟩) (by assumption) ?_
  case refine_2 => (intro w hSw; (try dsimp only at hSw); obtain ⟨s0, s1, s2, s3⟩ := hSw; go_simp; try with_reducible rfl)
  simp only [Act.put, zGA, zG0, zGC, zSA, zS0, zSC]
  refine wpAnyH_done (by kernel_rfl) ?_ _
  refine NoPanic.normal ?_
  have HH5 := hidOf hH5
  clear hHeld hH0 hH3 hH4 hH5 hT3 hs3 hr3 hb3 hL4 hb4 hT4 hb5 HSp p0 p1 p2 HB
  go_wp2_with fail
  refine (HTo.out _ HH5.out.2.2.2).mono ?_
  rintro e w6 ⟨zs, rfl, hT6, hs6, hr6, hb6⟩
  have p0 := cellB HH5.out.1 hb6
  have p1 := cellB HH5.out.2.1 hb6
  have p2 := cellB HH5.out.2.2.1 hb6
  have HB6 := hidOf (bl_trans HH5.out.2.2.2 hb6)
  generalize hN6 : w5.heap.size = N6 at hT6 ⊢
  clear hN6 hb6 HH5
  go_wp2_with fail
  refine (HMo.out _ HB6.out).mono ?_
  rintro e w7 ⟨g7, rfl, hL7, hb7⟩
  have hT7 := hT6.keep hb7
  obtain ⟨W8, hW8⟩ : ∃ W, W = w7.alloc (.cells #[.slice (some ⟨g7, 0, none⟩) ln ln, .int .i64 io, .int .i64 mv] 33) := ⟨_, rfl⟩
  have b8 : Below w7.heap.size w7 W8 := by rw [hW8]; exact bl_alloc (Below.refl _ _) _
  have X8 : BoxL w7.heap.size [.slice (some ⟨g7, 0, none⟩) ln ln, .int .i64 io, .int .i64 mv] W8 := by rw [hW8]; exact BoxL.new w7 [.slice (some ⟨g7, 0, none⟩) ln ln, .int .i64 io, .int .i64 mv] _
  have q0 := cellB (cellB p0 hb7) b8
  have q1 := cellB (cellB p1 hb7) b8
  have q2 := cellB (cellB p2 hb7) b8
  have HB8 := hidOf (bl_trans (bl_trans HB6.out hb7) b8)
  have HT8 := hidOf (hT7.keep b8)
  have HL8 := hidOf (hL7.keep b8)
  have HS6 := hidOf hs6
  have HR6 := hidOf hr6
  clear p0 p1 p2 hb7 hT6 hT7 hL7 hs6 hr6 b8 HB6
  go_upto_region 11 with fail
  rw [← hW8]
  clear hW8
  generalize w7.heap.size = NX at X8 ⊢
  have HX8 := hidOf X8
  obtain ⟨x0, x1, x2⟩ := box3g X8
  have HIm := hidOf (implMergeOk_any _ n n zs _ ln ln ls io mv W8 HT8.out (wf_to HS6.out HR6.out HLe.out hw) HN1.out HL8.out HLn1.out HXw.out HIo.out (HG.out.keep HB8.out))
  rw [okMg_tvs HS6.out, HO.out] at HIm
  clear X8
  go_wp2_with fail
  refine (HIm.out).mono ?_
  rintro e w9 ⟨rfl, hb9⟩
  have HB9 := hidOf (bl_trans HB8.out hb9)
  have HT9 := hidOf (HT8.out.keep hb9)
  have HL9 := hidOf (HL8.out.keep hb9)
  have HX9 := hidOf (HX8.out.keep hb9)
  replace q0 := cellB q0 hb9
  replace q1 := cellB q1 hb9
  replace q2 := cellB q2 hb9
  have hoo : (o != o) = false := by simp
  clear hb9 HIm x0 x1 x2 HB8 HT8 HL8 HX8
  go_wp2_with fail
  refine (HTo.out _ HB9.out).mono ?_
  rintro e w10 ⟨us, rfl, hT10, hs10, hr10, hb10⟩
  have HB10 := hidOf (bl_trans HB9.out hb10)
  have HL10 := hidOf (HL9.out.keep hb10)
  have HX10 := hidOf (HX9.out.keep hb10)
  replace q0 := cellB q0 hb10
  replace q1 := cellB q1 hb10
  replace q2 := cellB q2 hb10
  have HEq := hidOf (eqTopicS_same _ _ n n n zs us w10 (HT9.out.keep hb10) hT10 (by rw [HS6.out, hs10]) HN2.out (ToT.le HR6.out HL2.out) (ToT.le hr10 HL2.out))
  clear hb10 hT10 hs10 hr10 HB9 HL9 HX9 HT9 hoo
  go_wp2_with fail
  refine (HEq.out).mono ?_
  rintro e w11 ⟨rfl, hb11⟩
  have HB11 := hidOf (bl_trans HB10.out hb11)
  have HL11 := hidOf (HL10.out.keep hb11)
  have p0 := cellB q0 hb11
  have p1 := cellB q1 hb11
  have p2 := cellB q2 hb11
  obtain ⟨x0, x1, x2⟩ := box3g (HX10.out.keep hb11)
  clear hb11 HEq q0 q1 q2 HB10 HL10 HX10
  go_upto_region 16 with fail
  refine wp_region_noPanic ?_
  have hH0 : (fun u : World => (u.cell? ⟨NM, 0, none⟩ = some (.slice la ln lc) ∧ u.cell? ⟨NM, 1, none⟩ = some (.int .i64 io) ∧ u.cell? ⟨NM, 2, none⟩ = some (.int .i64 mv) ∧ Below w.heap.size w u) ∧ (u.cell? ⟨NX, 0, none⟩ = some (.slice (some ⟨g7, 0, none⟩) ln ln) ∧ u.cell? ⟨NX, 1, none⟩ = some (.int .i64 io) ∧ u.cell? ⟨NX, 2, none⟩ = some (.int .i64 mv))) w11.drew := ⟨⟨cellG p0, cellG p1, cellG p2, bl_trans HB11.out (Below.refl _ _).drew⟩, cellG x0, cellG x1, cellG x2⟩
  have hL0 := HL11.out.keep (Below.refl w11.heap.size w11).drew
  refine wp_region_held_drew (S := fun u => (u.cell? ⟨NM, 0, none⟩ = some (.slice la ln lc) ∧ u.cell? ⟨NM, 1, none⟩ = some (.int .i64 io) ∧ u.cell? ⟨NM, 2, none⟩ = some (.int .i64 mv) ∧ Below w.heap.size w u) ∧ (u.cell? ⟨NX, 0, none⟩ = some (.slice (some ⟨g7, 0, none⟩) ln ln) ∧ u.cell? ⟨NX, 1, none⟩ = some (.int .i64 io) ∧ u.cell? ⟨NX, 2, none⟩ = some (.int .i64 mv))) (by kernel_rfl) hH0 (fun hHeld => ?_)
  refine wpAnyH_take (i := 0) (v := ?_) rfl (by kernel_rfl) (by kernel_rfl) (by kernel_rfl) (fun _ _ _ h => h) (Or.inl ⟨by rfl, ?_⟩) (by assumption) ?_
  case refine_2 => (intro w hSw; (try dsimp only at hSw); obtain ⟨⟨s0, s1, s2, s3⟩, s4, s5, s6⟩ := hSw; go_simp; try with_reducible rfl)
  simp only [Act.put, List.getElem_toArray, List.getElem_cons_zero, List.setIfInBounds_toArray, List.set_cons_zero, List.set_cons_succ]
  refine wpAnyH_take (i := 1) (v := ?_) rfl (by kernel_rfl) (by kernel_rfl) (by kernel_rfl) (fun _ _ _ h => h) (Or.inl ⟨by rfl, ?_⟩) (by assumption) ?_
  case refine_2 => (intro w hSw; (try dsimp only at hSw); obtain ⟨⟨s0, s1, s2, s3⟩, s4, s5, s6⟩ := hSw; go_simp; try with_reducible rfl)
  simp only [Act.put, zGA, zG0, zGC, zSA, zS0, zSC]
  refine wpAnyH_ready (rs := [2]) (by kernel_rfl) (by simp) ?_
  refine AllReadyH.cons rfl (fun K hK => ?_) AllReadyH.nil
  go_simp
  refine (HMo.out _ hHeld.1.2.2.2).mono ?_
  rintro e w12 ⟨g12, rfl, hL12, hb12⟩
  go_wp2_with fail
  have hH12 : (fun u : World => (u.cell? ⟨NM, 0, none⟩ = some (.slice la ln lc) ∧ u.cell? ⟨NM, 1, none⟩ = some (.int .i64 io) ∧ u.cell? ⟨NM, 2, none⟩ = some (.int .i64 mv) ∧ Below w.heap.size w u) ∧ (u.cell? ⟨NX, 0, none⟩ = some (.slice (some ⟨g7, 0, none⟩) ln ln) ∧ u.cell? ⟨NX, 1, none⟩ = some (.int .i64 io) ∧ u.cell? ⟨NX, 2, none⟩ = some (.int .i64 mv))) w12 := ⟨⟨cellB hHeld.1.1 hb12, cellB hHeld.1.2.1 hb12, cellB hHeld.1.2.2.1 hb12, bl_trans hHeld.1.2.2.2 hb12⟩, cellB hHeld.2.1 hb12, cellB hHeld.2.2.1 hb12, cellB hHeld.2.2.2 hb12⟩
  have HEq2 := hidOf (eqMerge_same _ _ ln ln ln ls io mv w12 (hL0.keep hb12) hL12 HLn2.out)
  refine hK.out _ _ hH12 (fun hHeld => ?_)
  clear hK K
  refine wpAnyH_ready (rs := [3]) (by kernel_rfl) (by simp) ?_
  refine AllReadyH.cons rfl (fun K hK => ?_) AllReadyH.nil
  go_simp
  refine (HEq2.out).mono ?_
  rintro e w13 ⟨rfl, hb13⟩
  go_wp2_with fail
  have hH13 : (fun u : World => (u.cell? ⟨NM, 0, none⟩ = some (.slice la ln lc) ∧ u.cell? ⟨NM, 1, none⟩ = some (.int .i64 io) ∧ u.cell? ⟨NM, 2, none⟩ = some (.int .i64 mv) ∧ Below w.heap.size w u) ∧ (u.cell? ⟨NX, 0, none⟩ = some (.slice (some ⟨g7, 0, none⟩) ln ln) ∧ u.cell? ⟨NX, 1, none⟩ = some (.int .i64 io) ∧ u.cell? ⟨NX, 2, none⟩ = some (.int .i64 mv))) w13 := ⟨⟨cellB hH12.1.1 hb13, cellB hH12.1.2.1 hb13, cellB hH12.1.2.2.1 hb13, bl_trans hH12.1.2.2.2 hb13⟩, cellB hH12.2.1 hb13, cellB hH12.2.2.1 hb13, cellB hH12.2.2.2 hb13⟩
  refine hK.out _ _ hH13 (fun hHeld => ?_)
  clear hK K
  refine wpAnyH_take (i := 4) (v := ?_) rfl (by kernel_rfl) (by kernel_rfl) (by kernel_rfl) (fun _ _ _ h => h) (Or.inl ⟨by rfl, ?_⟩) (by assumption) ?_
  case refine_2 => (intro w hSw; (try dsimp only at hSw); obtain ⟨⟨s0, s1, s2, s3⟩, s4, s5, s6⟩ := hSw; go_simp; try with_reducible rfl)
  simp only [Act.put, zGA, zG0, zGC, zSA, zS0, zSC]
  refine wpAnyH_done (by kernel_rfl) ?_ _
  refine NoPanic.normal ?_
  have HB13 := hidOf hH13.1.2.2.2
  clear hHeld hH0 hL0 hH12 hL12 hb12 hb13 hH13 HEq2 p0 p1 p2 x0 x1 x2
  go_wp2_with fail
  go_ret
  exact ⟨rfl, HB13.out⟩
end Go.Proofs.YtffpecdjfcgadaaGreatDoor
