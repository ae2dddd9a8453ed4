/-
  The specification's draws: a ring that a drawn script of calls leaves 
-/
import Derived.Test.YtdboaoejlkkoeaaGreatZPo30
import Derived.Test.YtdboaoejlkkoeaaGreatZPo31
import Derived.Test.YtdboaoejlkkoeaaGreatZPo32
import Derived.Test.YtdboaoejlkkoeaaGreatZPo34
import Derived.Test.YtdboaoejlkkoeaaGreatZPo36
namespace Go.Proofs.YtdboaoejlkkoeaaGreat
open Go.RowKit Go.Maps Pl Il Dr
theorem tm_row {B : Nat} {w : World} {a : Option Addr} {n c : Nat} {ts : List Tm} (h : w.ownsRow B 132 3 (.slice a n c) n (qflat ts)) (hs : ∀ p, p ∈ ts → p.2.2.size ≤ maxLen) : TmAt w a n ts := by
  obtain ⟨a0, c0, e0, _, hit⟩ := ownF_of h ts rfl hs
  cases e0
  exact hit.tm
abbrev M00 : Rm := ⟨none, 0, 0, none, 0, 0, [], none, 0, 0, none, 0, 0⟩
def v00 (k : Int) : Rv := ⟨k, 0, [], 0, [], [], [], false⟩
theorem ok_v00 {k : Int} (h0 : 1 ≤ k) (h1 : k ≤ 16) : okR restR (v00 k) = true := by
  rw [okR_iff]
  refine ⟨⟨⟨h0, h1⟩, ⟨Int.le_refl _, by show (0 : Int) ≤ 1000000000; omega⟩, ⟨Int.le_refl _, by show (0 : Int) ≤ 1000000000; omega⟩, by show (0 : Nat) ≤ 12; omega, fun s hs => (by cases hs), List.Pairwise.nil, fun m hm => (by cases hm), List.nodup_nil, fun y hy => (by cases hy), fun s hs => (by cases hs), fun h => (by cases h)⟩, ?_⟩
  have := oldR_bd (v := v00 k) (Int.le_refl _) h0
  show ((0 : Nat) : Int) = 0 - oldR (v00 k)
  have e : (v00 k).se = 0 := rfl
  omega
theorem row_00 {B : Nat} {w : World} (k : Int) : RRow B w M00 (v00 k) :=
  ⟨⟨rfl, .inl ⟨rfl, rfl⟩⟩, fun p hp => (by cases hp), ⟨rfl, .inl ⟨rfl, rfl⟩⟩, fun x hx => (by cases hx), fun x hx => (by cases hx), rfl, ⟨rfl, .inl ⟨rfl, rfl⟩⟩, ⟨rfl, .inl ⟨rfl, rfl⟩⟩, by simp [Apt, blkR, Value.ownBlock]⟩
def RingD (c : Nat) (a : Option Addr) (len cap : Nat) (w : World) (e : Ending) (w' : World) : Prop := ∃ (M : Rm) (v : Rv), e = .returned (.agg #[.int .i64 v.cp, .int .i64 v.se, .slice M.ia M.i M.ic, .int .i64 v.nx, .slice M.sa M.s M.sc, .slice M.la M.l M.lc, .slice M.ga M.g M.gc, .bool v.cl]) ∧ RRow w.heap.size w' M v ∧ okR restR v = true ∧ Drawn c a len cap w w'
set_option maxRecDepth 100000 in
set_option maxHeartbeats 16000000 in
theorem l9Ring_any (a : Option Addr) (len cap : Nat) (c most : Nat) (w : World) (hC : Cur c a len cap w) (hmost : most ≤ 100) (hG : GOk w) (hgc : 0 < c) :
  Calls Tryz.prog 136 #[.pointer (some ⟨c, 0, none⟩), .int .i64 (most : Int)] w fun e w' => RingD c a len cap w e w' := by
 have hlt := hC.lt
 obtain ⟨W0, hW0⟩ : ∃ W, W = w.alloc (.cells #[.int .i64 0, .int .i64 0, .slice none 0 0, .int .i64 0, .slice none 0 0, .slice none 0 0, .slice none 0 0, .bool false] 28) := ⟨_, rfl⟩
 have s0 : W0.heap.size = w.heap.size + 1 := by rw [hW0]; simp
 have b0 : Below w.heap.size w W0 := by rw [hW0]; exact bl_alloc (Below.refl _ _) _
 have r0 : BoxL w.heap.size zR W0 := by rw [hW0]; exact BoxL.new w zR _
 have D0 := drawn_keepR (Drawn.start hC) b0
 have G0 := hG.keep b0
 have HC := hidOf hC
 clear hC hG b0
 go_enter Tryz.func136, Tryz.ntmps136
 go_wp2_with fail
 rw [← hW0]
 clear hW0
 refine (below_any a len cap c _ _ D0.cur (by omega) (by omega)).mono ?_
 rintro e w1 ⟨x, rfl, x0, x1, hd1⟩
 have r1 := r0.dr hd1 (by omega)
 have D1 := D0.trans hd1
 have G1 := G0.dr hd1 hgc
 have hs1 := hd1.ex.size
 clear r0 D0 G0 hd1
 have hwr : IntKind.i64.wrap (1 + x) = 1 + x := by rw [IntKind.wrap_i64]; omega
 go_wp2_with fail
 refine (specNewRing_any _ _).mono ?_
 rintro e w2 ⟨rfl, hb2⟩
 have hnc : newC (1 + x) = 1 + x := by unfold newC; rw [if_pos (by omega)]
 generalize newK (1 + x) = nk
 rw [hnc]
 have hV0 : RKv c a len cap w w2.heap.size (w2.heap.size + 1) M00 (v00 (1 + x)) (w2.alloc (.cells (rC M00 (v00 (1 + x))).toArray 28)) := by
  have hs2 := hb2.size
  have ba := bl_alloc (Below.refl w2.heap.size w2) (.cells (rC M00 (v00 (1 + x))).toArray 28)
  exact ⟨drawn_keepR (drawn_keepR D1 hb2) ba, BoxL.new w2 _ _, row_00 _, by simp [blkR, Value.ownBlock], fun q hq => by simp [blkR, Value.ownBlock] at hq, by omega, HC.out, by simp, by omega, (G1.keep hb2).keep ba, hgc, (r1.keep hb2).keep ba⟩
 have HV0 := hidOf hV0
 have HOk0 := hidOf (ok_v00 (k := 1 + x) (by omega) (by omega))
 clear hV0 r1 D1 G1 hs1 hb2 hnc s0
 generalize hk : 1 + x = k at HV0 HOk0 ⊢
 clear hk hwr x0 x1
 go_wp2_with fail
 generalize hW3 : w2.alloc (.cells #[.int .i64 k, .int .i64 0, .slice none 0 0, .int .i64 0, .slice none 0 0, .slice none 0 0, .slice none 0 0, .bool false] 28) = W3
 rw [show w2.alloc (.cells (rC M00 (v00 k)).toArray 28) = W3 from hW3] at HV0
 clear hW3
 generalize w2.heap.size = N at HV0 ⊢
 go_loopw [7] (fun i wr => ∃ (j R : Nat) (M : Rm) (v : Rv), j ≤ most ∧ i = .int .i64 j ∧ okR restR v = true ∧ RKv c a len cap w N R M v wr) (fun i _ => most - (intOf i).toNat)
 case atStart => exact ⟨0, _, _, _, Nat.zero_le _, rfl, HOk0.out, HV0.out⟩
 case round =>
  rename_i wr
  obtain ⟨j, R, M, v, hj, rfl, hok, hV⟩ := hrel
  clear HV0 HOk0
  have HOk := hidOf hok
  have hsl := (ok_le hok hV.row.own.rin).s
  clear hok
  by_cases hjm : j < most
  ·have hji : (j : Int) < (most : Int) := by omega
   have HVo := hidOf hV.up
   clear hV
   obtain ⟨p0, p1, p2, p3, p4, p5, p6, p7⟩ := box8 HVo.out.box
   go_upto_if 41 with fail
   go_cut [8] from 33 to 120 (fun s8 wx => ∃ z : Int, s8 = .int .i64 z ∧ (Lit.int .i64 z).wf = true ∧ RKv c a len cap w N wr.heap.size M v wx)
   case first =>
    by_cases hs : M.s = 0
    ·have hsp : ¬ (0 : Int) < (M.s : Int) := by omega
     go_wp2_with fail
     go_meet
     exact ⟨_, rfl, by decide, HVo.out⟩
    ·have hS := HVo.out.s
     have hcr := hS.kv.dr.cur.lt
     have hsp : (0 : Int) < (M.s : Int) := by omega
     obtain ⟨ia, i, ic, sa, s, sc, xs, la, l, lc, ga, g, gc⟩ := M
     simp only at hsl hs hsp hS p0 p1 p2 p3 p4 p5 p6 p7
     have hsrow := hS.rin.sb.row
     simp only at hsrow
     rcases hsrow with h0 | ⟨gb, go, hga, _, _⟩
     ·exact absurd h0 hs
     subst hga
     have hgc : ∀ u, RKS c a len cap w N wr.heap.size ⟨ia, i, ic, some ⟨gb, go, none⟩, s, sc, xs, la, l, lc, ga, g, gc⟩ v u → ∀ zn : Nat, zn < s → u.cell? ⟨gb, go + zn * 7, none⟩ = some (.int .i64 (sg xs zn).s.id) := fun u hu zn hzn => by
      rcases hu.rin.sb.row with h0 | ⟨b2, o2, e2, _, hc2⟩
      ·exact absurd h0 hs
      ·cases e2; exact (hc2 zn hzn).c0
     have hidw : ∀ zn : Nat, zn < s → (Lit.int .i64 (sg xs zn).s.id).wf = true := fun zn hzn => by
      have hsv := hS.rin.sv
      have hlen := hS.rin.sb.len
      simp only at hsv hlen
      refine ((ok_wf HOk.out).sb _ ?_).id
      rw [← hsv]
      exact List.mem_map.2 ⟨_, sg_mem (by omega), rfl⟩
     have HB := hidOf (fun (z : Int) (u : World) (z0 : 0 < z) (z1 : z ≤ 256) (hu : Cur c a len cap u) => below_any a len cap c z u hu z0 z1)
     clear HVo
     go_wp2_with fail
     refine wp_region_noPanic ?_
     refine wp_region_held_drew (S := fun w' => RKS c a len cap w N wr.heap.size ⟨ia, i, ic, some ⟨gb, go, none⟩, s, sc, xs, la, l, lc, ga, g, gc⟩ v w') (by kernel_rfl) hS.drew (fun hHeld => ?_)
     refine tK 0 ?_ rfl (by kernel_rfl) (by rfl) ?_ (by assumption) (fun _ _ _ h => h) ?_
     case refine_2 => (intro w hSw; (try dsimp only at hSw); go_simp; try with_reducible rfl)
     simp only [Act.put, List.getElem_toArray, List.getElem_cons_zero, List.setIfInBounds_toArray, List.set_cons_zero, List.set_cons_succ]
     refine tR 1 ?_
     refine tR 2 ?_
     refine tR 3 ?_
     refine tR 4 ?_
     refine tR 5 ?_
     refine tW 6 (fun K hK => ?_)
     go_simp
     refine (HB.out _ _ (by omega) (by omega) hHeld.curs).mono ?_
     rintro e w5 ⟨z, rfl, z0, z1, hd5⟩
     obtain ⟨zn, rfl⟩ : ∃ zn : Nat, z = zn := ⟨z.toNat, by omega⟩
     go_wp2_with fail
     have hS1 := RKS.draw hHeld hd5
     refine hK.out _ _ hS1 (fun hHeld => ?_)
     clear hK K
     refine tR 7 ?_
     refine tR 8 ?_
     refine tK 9 ?_ rfl (by kernel_rfl) (by rfl) ?_ (by assumption) (fun _ _ _ h => h) ?_
     case refine_2 => (intro w hSw; have hcg := hgc w hSw zn (by omega); (try dsimp only at hSw); go_simp; try with_reducible rfl)
     simp only [Act.put, zGA, zG0, zGC, zSA, zS0, zSC]
     refine tR 10 ?_
     refine wpAnyH_done (by kernel_rfl) ?_ _
     refine NoPanic.normal ?_
     go_wp2_with fail
     go_meet
     exact ⟨_, rfl, hidw zn (by omega), hS1.kv⟩
   case rest =>
    obtain ⟨z, rfl, hz, hVz⟩ := hcut
    have HVz := hidOf hVz
    clear hVz HVo p0 p1 p2 p3 p4 p5 p6 p7
    go_wp2_with fail
    refine (below_any a len cap c _ _ HVz.out.dr.cur (by omega) (by omega)).mono ?_
    rintro e w2 ⟨q, rfl, q0, q1, hd2⟩
    have HV := hidOf (HVz.out.draw hd2).up
    clear hd2 HVz
    by_cases hq3 : q < 3
    ·go_upto_if 63 with fail
     go_cut [63] from 64 to 66 (fun s63 wx => s63 = .bool true ∧ wx = w2)
     case first =>
      obtain rfl | rfl | rfl : q = 0 ∨ q = 1 ∨ q = 2 := by omega
      ·go_wp2_with fail
       go_meet
       exact ⟨rfl, rfl⟩
      ·go_wp2_with fail
       go_meet
       exact ⟨rfl, rfl⟩
      ·go_wp2_with fail
       go_meet
       exact ⟨rfl, rfl⟩
     case rest =>
      obtain ⟨rfl, hwc⟩ := hcut
      obtain rfl : w2 = wc := hwc.symm
      have hS := HV.out.s
      have hcr := hS.kv.dr.cur.lt
      have HSend := hidOf (fun (k n : Int) (s : ByteArray) (u : World) (hs : s.size ≤ 40) (hu : RKS c a len cap w N w2.heap.size M v u) => specSend_anyS M v (k, n, s) u hu.rin ((ok_le HOk.out hu.rin).mono (by omega)) hu.kv.row.cap (ok_wf HOk.out) (small40 hs) hu.kv.gok)
      have HMsg := hidOf (fun (u : World) (hu : Cur c a len cap u) => msg_any a len cap c u hu)
      clear HV
      go_upto_region 15 with fail
      go_cut [9, 10, 11] from 33 to 120 (fun s0 _ _ wx => ∃ (P : Nat) (M7 : Rm) (y : Rv), s0 = .pointer (some ⟨P, 0, none⟩) ∧ okR restR y = true ∧ RNx c a len cap w N P M v M7 y wx)
      case first =>
       refine wp_region_noPanic ?_
       refine wp_region_held_drew (S := fun w' => RKS c a len cap w N w2.heap.size M v w') (by kernel_rfl) hS.drew (fun hHeld => ?_)
       refine tK 0 ?_ rfl (by kernel_rfl) (by rfl) ?_ (by assumption) (fun _ _ _ h => h) ?_
       case refine_2 => (intro w hSw; (try dsimp only at hSw); go_simp; try with_reducible rfl)
       simp only [Act.put, List.getElem_toArray, List.getElem_cons_zero, List.setIfInBounds_toArray, List.set_cons_zero, List.set_cons_succ]
       refine tR 1 ?_
       refine wpAnyH_ready (rs := [2, 8]) (by kernel_rfl) (by simp) ?_
       refine AllReadyH.cons rfl (fun K hK => ?_) (AllReadyH.cons rfl (fun K hK => ?_) AllReadyH.nil)
       ·go_simp
        have hz1 := hHeld.kv.le
        refine (HMsg.out _ hHeld.curs).mono ?_
        rintro e v1 ⟨k, n, s, rfl, hs, hd1⟩
        go_wp2_with fail
        have hS1 := RKS.draw hHeld hd1
        refine hK.out _ _ hS1 (fun hHeld => ?_)
        clear hK K
        refine wpAnyH_ready (rs := [3, 8]) (by kernel_rfl) (by simp) ?_
        refine AllReadyH.cons rfl (fun K hK => ?_) (AllReadyH.cons rfl (fun K hK => ?_) AllReadyH.nil)
        ·go_simp
         have hz2 := hHeld.kv.le
         refine (HSend.out k n s _ hs hHeld).mono ?_
         rintro e v2 ⟨M7, ta, tn, tc, rfl, row7, _, _, _, _, hb2⟩
         have hk7 := ok_snd HOk.out (k, n, s)
         generalize snR v (k, n, s) = y at row7 hk7 ⊢
         generalize snT v (k, n, s) = td
         generalize snC v (k, n, s) = cd
         go_wp2_with fail
         have hS2 := RKS.keep hHeld hb2
         refine hK.out _ _ hS2 (fun hHeld => ?_)
         clear hK K
         refine tR 4 ?_
         refine tR 5 ?_
         refine tR 6 ?_
         refine tR 7 ?_
         refine tW 8 (fun K hK => ?_)
         go_simp
         refine hK.out _ _ (RKS.alloc hS2 _) (fun hHeld => ?_)
         clear hK K
         refine tW 9 (fun K hK => ?_)
         go_simp
         refine hK.out _ _ (RKS.alloc hS2 _) (fun hHeld => ?_)
         clear hK K
         refine tR 10 ?_
         refine tR 11 ?_
         refine wpAnyH_done (by kernel_rfl) ?_ _
         refine NoPanic.normal ?_
         go_wp2_with fail
         go_meet
         exact ⟨_, _, _, rfl, hk7, RNx.ofAlloc hS2 row7 (by omega) _⟩
        ·go_simp
         have Z1 := BoxL.new v1 zR 28
         have hzz1 := (RKS.kv hS1).le
         refine hK.out _ _ (RKS.alloc hS1 _) (fun hHeld => ?_)
         clear hK K
         refine tW 3 (fun K hK => ?_)
         go_simp
         have hz2 := hHeld.kv.le
         have hzl2 := Z1.lt
         refine (HSend.out k n s _ hs hHeld).mono ?_
         rintro e v2 ⟨M7, ta, tn, tc, rfl, row7, _, _, _, _, hb2⟩
         have hk7 := ok_snd HOk.out (k, n, s)
         generalize snR v (k, n, s) = y at row7 hk7 ⊢
         generalize snT v (k, n, s) = td
         generalize snC v (k, n, s) = cd
         go_wp2_with fail
         have hS2 := RKS.keep hHeld hb2
         have Z2 := Z1.keep hb2
         refine hK.out _ _ hS2 (fun hHeld => ?_)
         clear hK K
         refine tR 4 ?_
         refine tR 5 ?_
         refine tR 6 ?_
         refine tR 7 ?_
         obtain ⟨k0, k1, k2, k3, k4, k5, k6, k7⟩ := box8 Z2
         have kf := Z2.fr
         refine tW 9 (fun K hK => ?_)
         go_simp
         refine hK.out _ _ (RKS.st hS2 (by omega) M7 y) (fun hHeld => ?_)
         clear hK K
         refine tR 10 ?_
         refine tR 11 ?_
         refine wpAnyH_done (by kernel_rfl) ?_ _
         refine NoPanic.normal ?_
         go_wp2_with fail
         go_meet
         exact ⟨_, _, _, rfl, hk7, RNx.ofStore hS2 Z2 rfl (by omega) row7 (by omega)⟩
       ·go_simp
        have Z0 := (BoxL.new w2 zR 28).keep (Below.refl _ _).drew
        refine hK.out _ _ (RKS.drew (RKS.alloc hS _)) (fun hHeld => ?_)
        clear hK K
        refine tW 2 (fun K hK => ?_)
        go_simp
        have hz1 := hHeld.kv.le
        have hzl1 := Z0.lt
        refine (HMsg.out _ hHeld.curs).mono ?_
        rintro e v1 ⟨k, n, s, rfl, hs, hd1⟩
        go_wp2_with fail
        have hS1 := RKS.draw hHeld hd1
        have Z1 := Z0.dr hd1 (by omega)
        refine hK.out _ _ hS1 (fun hHeld => ?_)
        clear hK K
        refine tW 3 (fun K hK => ?_)
        go_simp
        have hz2 := hHeld.kv.le
        have hzl2 := Z1.lt
        refine (HSend.out k n s _ hs hHeld).mono ?_
        rintro e v2 ⟨M7, ta, tn, tc, rfl, row7, _, _, _, _, hb2⟩
        have hk7 := ok_snd HOk.out (k, n, s)
        generalize snR v (k, n, s) = y at row7 hk7 ⊢
        generalize snT v (k, n, s) = td
        generalize snC v (k, n, s) = cd
        go_wp2_with fail
        have hS2 := RKS.keep hHeld hb2
        have Z2 := Z1.keep hb2
        refine hK.out _ _ hS2 (fun hHeld => ?_)
        clear hK K
        refine tR 4 ?_
        refine tR 5 ?_
        refine tR 6 ?_
        refine tR 7 ?_
        obtain ⟨k0, k1, k2, k3, k4, k5, k6, k7⟩ := box8 Z2
        have kf := Z2.fr
        refine tW 9 (fun K hK => ?_)
        go_simp
        refine hK.out _ _ (RKS.st hS2 (by omega) M7 y) (fun hHeld => ?_)
        clear hK K
        refine tR 10 ?_
        refine tR 11 ?_
        refine wpAnyH_done (by kernel_rfl) ?_ _
        refine NoPanic.normal ?_
        go_wp2_with fail
        go_meet
        exact ⟨_, _, _, rfl, hk7, RNx.ofStore hS2 Z2 rfl (by omega) row7 (by omega)⟩
      case rest =>
       obtain ⟨P, M7, y, rfl, hk7, hX⟩ := hcut
       obtain ⟨n0, n1, n2, n3, n4, n5, n6, n7⟩ := box8 hX.nxt
       obtain ⟨o0, o1, o2, o3, o4, o5, o6, o7⟩ := box8 hX.box
       have of := hX.box.fr
       have HP := hidOf hX.put
       have HK7 := hidOf hk7
       clear hX hk7 HSend HMsg hS
       go_wp2
       go_roundw
       case rel => exact ⟨j + 1, _, _, _, by omega, by go_num, HK7.out, HP.out⟩
       case measure => simp [intOf]; omega
    have eq0 : (q == 0) = false := by simp; omega
    have eq1 : (q == 1) = false := by simp; omega
    have eq2 : (q == 2) = false := by simp; omega
    by_cases hq3 : q = 3
    ·subst hq3
     have hS := HV.out.s
     have hcr := hS.kv.dr.cur.lt
     have HSbs := hidOf (fun (a2 : Option Addr) (n2 c2 : Nat) (ts : List Tm) (b : Bool) (u : World) (ht : TmAt u a2 n2 ts) (hn : n2 ≤ 12) (hu : RKS c a len cap w N w2.heap.size M v u) => specSbs_anyS M v a2 n2 c2 ts b u hu.rin ((ok_le HOk.out hu.rin).mono (by omega)) hu.kv.row.cap (ok_wf HOk.out) ht (by omega))
     have HFil := hidOf (fun (u : World) (hu : Cur c a len cap u) => l8Filter2_any a len cap c u hu)
     have HOn := hidOf (fun (u : World) (hu : Cur c a len cap u) => once_any a len cap c 2 u hu (by omega) (by omega))
     clear HV
     go_upto_region 18 with fail
     go_cut [12, 13, 14] from 33 to 120 (fun s0 _ _ wx => ∃ (P : Nat) (M7 : Rm) (y : Rv), s0 = .pointer (some ⟨P, 0, none⟩) ∧ okR restR y = true ∧ RNx c a len cap w N P M v M7 y wx)
     case first =>
      refine wp_region_noPanic ?_
      refine wp_region_held_drew (S := fun w' => RKS c a len cap w N w2.heap.size M v w') (by kernel_rfl) hS.drew (fun hHeld => ?_)
      refine tK 0 ?_ rfl (by kernel_rfl) (by rfl) ?_ (by assumption) (fun _ _ _ h => h) ?_
      case refine_2 => (intro w hSw; (try dsimp only at hSw); go_simp; try with_reducible rfl)
      simp only [Act.put, List.getElem_toArray, List.getElem_cons_zero, List.setIfInBounds_toArray, List.set_cons_zero, List.set_cons_succ]
      refine tR 1 ?_
      refine tR 3 ?_
      refine wpAnyH_ready (rs := [2, 10]) (by kernel_rfl) (by simp) ?_
      refine AllReadyH.cons rfl (fun K hK => ?_) (AllReadyH.cons rfl (fun K hK => ?_) AllReadyH.nil)
      ·go_simp
       have hz1 := hHeld.kv.le
       have hcu0 := hHeld.curs.lt
       refine (HFil.out _ hHeld.curs).mono ?_
       rintro e v1 ⟨a2, n2, c2, ts, rfl, hn2, hF1⟩
       have hd1 := hF1.D
       have hr1 := hF1.row
       have hsh := hF1.short
       clear hF1
       go_wp2_with fail
       have hS1 := RKS.draw hHeld hd1
       refine hK.out _ _ hS1 (fun hHeld => ?_)
       clear hK K
       refine wpAnyH_ready (rs := [4, 10]) (by kernel_rfl) (by simp) ?_
       refine AllReadyH.cons rfl (fun K hK => ?_) (AllReadyH.cons rfl (fun K hK => ?_) AllReadyH.nil)
       ·go_simp
        have hz2 := hHeld.kv.le
        refine (HOn.out _ hHeld.curs).mono ?_
        rintro e v2 ⟨b, rfl, hd2⟩
        have hr2 := rowF_ex hr1 hd2.ex (by omega)
        go_wp2_with fail
        have hS2 := RKS.draw hHeld hd2
        refine hK.out _ _ hS2 (fun hHeld => ?_)
        clear hK K
        refine wpAnyH_ready (rs := [5, 10]) (by kernel_rfl) (by simp) ?_
        refine AllReadyH.cons rfl (fun K hK => ?_) (AllReadyH.cons rfl (fun K hK => ?_) AllReadyH.nil)
        ·go_simp
         have hz3 := hHeld.kv.le
         refine (HSbs.out a2 n2 c2 ts b _ (tm_row hr2 hsh) hn2 hHeld).mono ?_
         rintro e v3 ⟨M7, rfl, row7, _, hb3⟩
         have hk7 := ok_sbs ts b HOk.out
         generalize sbsR v ts b = y at row7 hk7 ⊢
         generalize sbsI v ts = td
         generalize sbsC v ts = cd
         go_wp2_with fail
         have hS3 := RKS.keep hHeld hb3
         refine hK.out _ _ hS3 (fun hHeld => ?_)
         clear hK K
         refine tR 6 ?_
         refine tR 7 ?_
         refine tR 8 ?_
         refine tR 9 ?_
         refine tW 10 (fun K hK => ?_)
         go_simp
         refine hK.out _ _ (RKS.alloc hS3 _) (fun hHeld => ?_)
         clear hK K
         refine tW 11 (fun K hK => ?_)
         go_simp
         refine hK.out _ _ (RKS.alloc hS3 _) (fun hHeld => ?_)
         clear hK K
         refine tR 12 ?_
         refine tR 13 ?_
         refine wpAnyH_done (by kernel_rfl) ?_ _
         refine NoPanic.normal ?_
         go_wp2_with fail
         go_meet
         exact ⟨_, _, _, rfl, hk7, RNx.ofAlloc hS3 row7 (by omega) _⟩
        ·go_simp
         have Z2 := BoxL.new v2 zR 28
         have hzz2 := (RKS.kv hS2).le
         refine hK.out _ _ (RKS.alloc hS2 _) (fun hHeld => ?_)
         clear hK K
         have hr2 := ownsRow_keep hr2 (bl_alloc (Below.refl v2.heap.size v2) (.cells zR.toArray 28))
         refine tW 5 (fun K hK => ?_)
         go_simp
         have hz3 := hHeld.kv.le
         have hzl3 := Z2.lt
         refine (HSbs.out a2 n2 c2 ts b _ (tm_row hr2 hsh) hn2 hHeld).mono ?_
         rintro e v3 ⟨M7, rfl, row7, _, hb3⟩
         have hk7 := ok_sbs ts b HOk.out
         generalize sbsR v ts b = y at row7 hk7 ⊢
         generalize sbsI v ts = td
         generalize sbsC v ts = cd
         go_wp2_with fail
         have hS3 := RKS.keep hHeld hb3
         have Z3 := Z2.keep hb3
         refine hK.out _ _ hS3 (fun hHeld => ?_)
         clear hK K
         refine tR 6 ?_
         refine tR 7 ?_
         refine tR 8 ?_
         refine tR 9 ?_
         obtain ⟨k0, k1, k2, k3, k4, k5, k6, k7⟩ := box8 Z3
         have kf := Z3.fr
         refine tW 11 (fun K hK => ?_)
         go_simp
         refine hK.out _ _ (RKS.st hS3 (by omega) M7 y) (fun hHeld => ?_)
         clear hK K
         refine tR 12 ?_
         refine tR 13 ?_
         refine wpAnyH_done (by kernel_rfl) ?_ _
         refine NoPanic.normal ?_
         go_wp2_with fail
         go_meet
         exact ⟨_, _, _, rfl, hk7, RNx.ofStore hS3 Z3 rfl (by omega) row7 (by omega)⟩
       ·go_simp
        have Z1 := BoxL.new v1 zR 28
        have hzz1 := (RKS.kv hS1).le
        refine hK.out _ _ (RKS.alloc hS1 _) (fun hHeld => ?_)
        clear hK K
        have hr1 := ownsRow_keep hr1 (bl_alloc (Below.refl v1.heap.size v1) (.cells zR.toArray 28))
        refine tW 4 (fun K hK => ?_)
        go_simp
        have hz2 := hHeld.kv.le
        have hzl2 := Z1.lt
        refine (HOn.out _ hHeld.curs).mono ?_
        rintro e v2 ⟨b, rfl, hd2⟩
        have hr2 := rowF_ex hr1 hd2.ex (by omega)
        go_wp2_with fail
        have hS2 := RKS.draw hHeld hd2
        have Z2 := Z1.dr hd2 (by omega)
        refine hK.out _ _ hS2 (fun hHeld => ?_)
        clear hK K
        refine tW 5 (fun K hK => ?_)
        go_simp
        have hz3 := hHeld.kv.le
        have hzl3 := Z2.lt
        refine (HSbs.out a2 n2 c2 ts b _ (tm_row hr2 hsh) hn2 hHeld).mono ?_
        rintro e v3 ⟨M7, rfl, row7, _, hb3⟩
        have hk7 := ok_sbs ts b HOk.out
        generalize sbsR v ts b = y at row7 hk7 ⊢
        generalize sbsI v ts = td
        generalize sbsC v ts = cd
        go_wp2_with fail
        have hS3 := RKS.keep hHeld hb3
        have Z3 := Z2.keep hb3
        refine hK.out _ _ hS3 (fun hHeld => ?_)
        clear hK K
        refine tR 6 ?_
        refine tR 7 ?_
        refine tR 8 ?_
        refine tR 9 ?_
        obtain ⟨k0, k1, k2, k3, k4, k5, k6, k7⟩ := box8 Z3
        have kf := Z3.fr
        refine tW 11 (fun K hK => ?_)
        go_simp
        refine hK.out _ _ (RKS.st hS3 (by omega) M7 y) (fun hHeld => ?_)
        clear hK K
        refine tR 12 ?_
        refine tR 13 ?_
        refine wpAnyH_done (by kernel_rfl) ?_ _
        refine NoPanic.normal ?_
        go_wp2_with fail
        go_meet
        exact ⟨_, _, _, rfl, hk7, RNx.ofStore hS3 Z3 rfl (by omega) row7 (by omega)⟩
      ·go_simp
       have Z0 := (BoxL.new w2 zR 28).keep (Below.refl _ _).drew
       refine hK.out _ _ (RKS.drew (RKS.alloc hS _)) (fun hHeld => ?_)
       clear hK K
       refine tW 2 (fun K hK => ?_)
       go_simp
       have hz1 := hHeld.kv.le
       have hzl1 := Z0.lt
       have hcu0 := hHeld.curs.lt
       refine (HFil.out _ hHeld.curs).mono ?_
       rintro e v1 ⟨a2, n2, c2, ts, rfl, hn2, hF1⟩
       have hd1 := hF1.D
       have hr1 := hF1.row
       have hsh := hF1.short
       clear hF1
       go_wp2_with fail
       have hS1 := RKS.draw hHeld hd1
       have Z1 := Z0.dr hd1 (by omega)
       refine hK.out _ _ hS1 (fun hHeld => ?_)
       clear hK K
       refine tW 4 (fun K hK => ?_)
       go_simp
       have hz2 := hHeld.kv.le
       have hzl2 := Z1.lt
       refine (HOn.out _ hHeld.curs).mono ?_
       rintro e v2 ⟨b, rfl, hd2⟩
       have hr2 := rowF_ex hr1 hd2.ex (by omega)
       go_wp2_with fail
       have hS2 := RKS.draw hHeld hd2
       have Z2 := Z1.dr hd2 (by omega)
       refine hK.out _ _ hS2 (fun hHeld => ?_)
       clear hK K
       refine tW 5 (fun K hK => ?_)
       go_simp
       have hz3 := hHeld.kv.le
       have hzl3 := Z2.lt
       refine (HSbs.out a2 n2 c2 ts b _ (tm_row hr2 hsh) hn2 hHeld).mono ?_
       rintro e v3 ⟨M7, rfl, row7, _, hb3⟩
       have hk7 := ok_sbs ts b HOk.out
       generalize sbsR v ts b = y at row7 hk7 ⊢
       generalize sbsI v ts = td
       generalize sbsC v ts = cd
       go_wp2_with fail
       have hS3 := RKS.keep hHeld hb3
       have Z3 := Z2.keep hb3
       refine hK.out _ _ hS3 (fun hHeld => ?_)
       clear hK K
       refine tR 6 ?_
       refine tR 7 ?_
       refine tR 8 ?_
       refine tR 9 ?_
       obtain ⟨k0, k1, k2, k3, k4, k5, k6, k7⟩ := box8 Z3
       have kf := Z3.fr
       refine tW 11 (fun K hK => ?_)
       go_simp
       refine hK.out _ _ (RKS.st hS3 (by omega) M7 y) (fun hHeld => ?_)
       clear hK K
       refine tR 12 ?_
       refine tR 13 ?_
       refine wpAnyH_done (by kernel_rfl) ?_ _
       refine NoPanic.normal ?_
       go_wp2_with fail
       go_meet
       exact ⟨_, _, _, rfl, hk7, RNx.ofStore hS3 Z3 rfl (by omega) row7 (by omega)⟩
     case rest =>
      obtain ⟨P, M7, y, rfl, hk7, hX⟩ := hcut
      obtain ⟨n0, n1, n2, n3, n4, n5, n6, n7⟩ := box8 hX.nxt
      obtain ⟨o0, o1, o2, o3, o4, o5, o6, o7⟩ := box8 hX.box
      have of := hX.box.fr
      have HP := hidOf hX.put
      have HK7 := hidOf hk7
      clear hX hk7 HSbs HFil HOn hS
      go_wp2
      go_roundw
      case rel => exact ⟨j + 1, _, _, _, by omega, by go_num, HK7.out, HP.out⟩
      case measure => simp [intOf]; omega
    have eq3 : (q == 3) = false := by simp [hq3]
    by_cases hq4 : q = 4
    ·subst hq4
     have hS := HV.out.s
     have hIn := hS.rin
     have HC := hidOf (specReceive_anyS M v z _ hIn ((ok_le HOk.out hIn).mono (by omega)) hS.kv.row.cap (ok_wf HOk.out) hz hS.kv.gok)
     clear hS hIn
     obtain ⟨p0, p1, p2, p3, p4, p5, p6, p7⟩ := box8 HV.out.box
     go_wp2_with fail
     refine HC.out.mono ?_
     rintro e w5 ⟨M7, rfl, row7, _, hb7⟩
     have hk7 := ok_rec HOk.out z
     generalize recG v z = y at row7 hk7 ⊢
     generalize recT v z = td
     generalize recC v z = cd
     go_upto_region 23 with fail
     have hX5 := HV.out.keep hb7
     generalize hW6 : w5.alloc (.cells #[.int .i64 y.cp, .int .i64 y.se, .slice M7.ia M7.i M7.ic, .int .i64 y.nx, .slice M7.sa M7.s M7.sc, .slice M7.la M7.l M7.lc, .slice M7.ga M7.g M7.gc, .bool y.cl] 28) = W6
     have hX6 := RNx.ofAlloc (hX5.s) row7 (Nat.le_refl _) 28
     rw [show w5.alloc (.cells (rC M7 y).toArray 28) = W6 from hW6] at hX6
     have hX := hX6.keep (bl_alloc (Below.refl _ _) (.cells #[.int .i64 td.kd, .int .i64 td.ms.1, .int .i64 td.ms.2.1, .string td.ms.2.2, .int .i64 td.ix, .int .i64 td.n] 53))
     generalize hW7 : W6.alloc (.cells #[.int .i64 td.kd, .int .i64 td.ms.1, .int .i64 td.ms.2.1, .string td.ms.2.2, .int .i64 td.ix, .int .i64 td.n] 53) = W7 at hX ⊢
     clear hW6 hW7 hX6 hX5
     obtain ⟨n0, n1, n2, n3, n4, n5, n6, n7⟩ := box8 hX.nxt
     obtain ⟨o0, o1, o2, o3, o4, o5, o6, o7⟩ := box8 hX.box
     have of := hX.box.fr
     have HP := hidOf hX.put
     have HK7 := hidOf hk7
     clear hX hk7 row7 hb7 p0 p1 p2 p3 p4 p5 p6 p7 HV HC
     go_wp2
     go_roundw
     case rel => exact ⟨j + 1, _, _, _, by omega, by go_num, HK7.out, HP.out⟩
     case measure => simp [intOf]; omega
    have eq4 : (q == 4) = false := by simp [hq4]
    by_cases hq5 : q = 5
    ·subst hq5
     have hS := HV.out.s
     have hIn := hS.rin
     have HC := hidOf (specReceive_anyS M v z _ hIn ((ok_le HOk.out hIn).mono (by omega)) hS.kv.row.cap (ok_wf HOk.out) hz hS.kv.gok)
     clear hS hIn
     obtain ⟨p0, p1, p2, p3, p4, p5, p6, p7⟩ := box8 HV.out.box
     go_wp2_with fail
     refine HC.out.mono ?_
     rintro e w5 ⟨M7, rfl, row7, _, hb7⟩
     have hk7 := ok_rec HOk.out z
     generalize recG v z = y at row7 hk7 ⊢
     generalize recT v z = td
     generalize recC v z = cd
     go_upto_region 23 with fail
     have hX5 := HV.out.keep hb7
     generalize hW6 : w5.alloc (.cells #[.int .i64 y.cp, .int .i64 y.se, .slice M7.ia M7.i M7.ic, .int .i64 y.nx, .slice M7.sa M7.s M7.sc, .slice M7.la M7.l M7.lc, .slice M7.ga M7.g M7.gc, .bool y.cl] 28) = W6
     have hX6 := RNx.ofAlloc (hX5.s) row7 (Nat.le_refl _) 28
     rw [show w5.alloc (.cells (rC M7 y).toArray 28) = W6 from hW6] at hX6
     have hX := hX6.keep (bl_alloc (Below.refl _ _) (.cells #[.int .i64 td.kd, .int .i64 td.ms.1, .int .i64 td.ms.2.1, .string td.ms.2.2, .int .i64 td.ix, .int .i64 td.n] 53))
     generalize hW7 : W6.alloc (.cells #[.int .i64 td.kd, .int .i64 td.ms.1, .int .i64 td.ms.2.1, .string td.ms.2.2, .int .i64 td.ix, .int .i64 td.n] 53) = W7 at hX ⊢
     clear hW6 hW7 hX6 hX5
     obtain ⟨n0, n1, n2, n3, n4, n5, n6, n7⟩ := box8 hX.nxt
     obtain ⟨o0, o1, o2, o3, o4, o5, o6, o7⟩ := box8 hX.box
     have of := hX.box.fr
     have HP := hidOf hX.put
     have HK7 := hidOf hk7
     clear hX hk7 row7 hb7 p0 p1 p2 p3 p4 p5 p6 p7 HV HC
     go_wp2
     go_roundw
     case rel => exact ⟨j + 1, _, _, _, by omega, by go_num, HK7.out, HP.out⟩
     case measure => simp [intOf]; omega
    have eq5 : (q == 5) = false := by simp [hq5]
    by_cases hq6 : q = 6
    ·subst hq6
     have hS := HV.out.s
     have hIn := hS.rin
     have HC := hidOf (specProceed_anyS M v z _ hIn ((ok_le HOk.out hIn).mono (by omega)) hS.kv.row.cap (ok_wf HOk.out) hz hS.kv.gok)
     clear hS hIn
     obtain ⟨p0, p1, p2, p3, p4, p5, p6, p7⟩ := box8 HV.out.box
     go_wp2_with fail
     refine HC.out.mono ?_
     rintro e w5 ⟨M7, rfl, row7, _, hb7⟩
     have hk7 := ok_pro HOk.out z
     generalize proG v z = y at row7 hk7 ⊢
     generalize proT v z = td
     generalize proC v z = cd
     go_upto_region 26 with fail
     have hX5 := HV.out.keep hb7
     generalize hW6 : w5.alloc (.cells #[.int .i64 y.cp, .int .i64 y.se, .slice M7.ia M7.i M7.ic, .int .i64 y.nx, .slice M7.sa M7.s M7.sc, .slice M7.la M7.l M7.lc, .slice M7.ga M7.g M7.gc, .bool y.cl] 28) = W6
     have hX6 := RNx.ofAlloc (hX5.s) row7 (Nat.le_refl _) 28
     rw [show w5.alloc (.cells (rC M7 y).toArray 28) = W6 from hW6] at hX6
     have hX := hX6.keep (bl_alloc (Below.refl _ _) (.cells #[.int .i64 td.kd, .int .i64 td.ms.1, .int .i64 td.ms.2.1, .string td.ms.2.2, .int .i64 td.ix, .int .i64 td.n] 53))
     generalize hW7 : W6.alloc (.cells #[.int .i64 td.kd, .int .i64 td.ms.1, .int .i64 td.ms.2.1, .string td.ms.2.2, .int .i64 td.ix, .int .i64 td.n] 53) = W7 at hX ⊢
     clear hW6 hW7 hX6 hX5
     obtain ⟨n0, n1, n2, n3, n4, n5, n6, n7⟩ := box8 hX.nxt
     obtain ⟨o0, o1, o2, o3, o4, o5, o6, o7⟩ := box8 hX.box
     have of := hX.box.fr
     have HP := hidOf hX.put
     have HK7 := hidOf hk7
     clear hX hk7 row7 hb7 p0 p1 p2 p3 p4 p5 p6 p7 HV HC
     go_wp2
     go_roundw
     case rel => exact ⟨j + 1, _, _, _, by omega, by go_num, HK7.out, HP.out⟩
     case measure => simp [intOf]; omega
    have eq6 : (q == 6) = false := by simp [hq6]
    by_cases hq7 : q = 7
    ·subst hq7
     go_wp2_with fail
     refine (once_any a len cap c 4 _ HV.out.dr.cur (by omega) (by omega)).mono ?_
     rintro e w3 ⟨b, rfl, hd3⟩
     have HV3 := hidOf (HV.out.draw hd3).up
     clear hd3 HV
     cases b
     ·go_wp2
      go_roundw
      case rel => exact ⟨j + 1, _, _, _, by omega, by go_num, HOk.out, HV3.out⟩
      case measure => simp [intOf]; omega
     ·have hS := HV3.out.s
      have hIn := hS.rin
      have HC := hidOf (specUns_anyS M v z _ hIn ((ok_le HOk.out hIn).mono (by omega)) hS.kv.row.cap (ok_wf HOk.out) hz)
      clear hS hIn
      obtain ⟨p0, p1, p2, p3, p4, p5, p6, p7⟩ := box8 HV3.out.box
      go_wp2_with fail
      refine HC.out.mono ?_
      rintro e w5 ⟨M7, rfl, row7, _, hb7⟩
      have hk7 := ok_uns HOk.out z
      generalize unsR v z = y at row7 hk7 ⊢
      generalize unsC v z = cd
      go_upto_region 30 with fail
      have hX := RNx.ofAlloc ((HV3.out.keep hb7).s) row7 (Nat.le_refl _) 28
      generalize hW7 : w5.alloc (.cells #[.int .i64 y.cp, .int .i64 y.se, .slice M7.ia M7.i M7.ic, .int .i64 y.nx, .slice M7.sa M7.s M7.sc, .slice M7.la M7.l M7.lc, .slice M7.ga M7.g M7.gc, .bool y.cl] 28) = W7
      rw [show w5.alloc (.cells (rC M7 y).toArray 28) = W7 from hW7] at hX
      clear hW7
      obtain ⟨n0, n1, n2, n3, n4, n5, n6, n7⟩ := box8 hX.nxt
      obtain ⟨o0, o1, o2, o3, o4, o5, o6, o7⟩ := box8 hX.box
      have of := hX.box.fr
      have HP := hidOf hX.put
      have HK7 := hidOf hk7
      clear hX hk7 row7 hb7 p0 p1 p2 p3 p4 p5 p6 p7 HV3 HC
      go_wp2
      go_roundw
      case rel => exact ⟨j + 1, _, _, _, by omega, by go_num, HK7.out, HP.out⟩
      case measure => simp [intOf]; omega
    have eq7 : (q == 7) = false := by simp [hq7]
    go_wp2_with fail
    refine (once_any a len cap c 8 _ HV.out.dr.cur (by omega) (by omega)).mono ?_
    rintro e w3 ⟨b, rfl, hd3⟩
    have HV3 := hidOf (HV.out.draw hd3).up
    clear hd3 HV
    cases b
    ·go_wp2
     go_roundw
     case rel => exact ⟨j + 1, _, _, _, by omega, by go_num, HOk.out, HV3.out⟩
     case measure => simp [intOf]; omega
    ·have hS := HV3.out.s
     have hIn := hS.rin
     have HC := hidOf (specClose_anyS M v _ hIn ((ok_le HOk.out hIn).mono (by omega)) hS.kv.row.cap (ok_wf HOk.out))
     clear hS hIn
     obtain ⟨p0, p1, p2, p3, p4, p5, p6, p7⟩ := box8 HV3.out.box
     go_wp2_with fail
     refine HC.out.mono ?_
     rintro e w5 ⟨M7, ta, tn, tc, rfl, row7, _, _, _, _, hb7⟩
     have hk7 := ok_clo HOk.out
     generalize cloR v = y at row7 hk7 ⊢
     generalize cloT v = td
     generalize cloC v = cd
     go_upto_region 11 with fail
     have hX := RNx.ofAlloc ((HV3.out.keep hb7).s) row7 (Nat.le_refl _) 28
     generalize hW7 : w5.alloc (.cells #[.int .i64 y.cp, .int .i64 y.se, .slice M7.ia M7.i M7.ic, .int .i64 y.nx, .slice M7.sa M7.s M7.sc, .slice M7.la M7.l M7.lc, .slice M7.ga M7.g M7.gc, .bool y.cl] 28) = W7
     rw [show w5.alloc (.cells (rC M7 y).toArray 28) = W7 from hW7] at hX
     clear hW7
     obtain ⟨n0, n1, n2, n3, n4, n5, n6, n7⟩ := box8 hX.nxt
     obtain ⟨o0, o1, o2, o3, o4, o5, o6, o7⟩ := box8 hX.box
     have of := hX.box.fr
     have HP := hidOf hX.put
     have HK7 := hidOf hk7
     clear hX hk7 row7 hb7 p0 p1 p2 p3 p4 p5 p6 p7 HV3 HC
     go_wp2
     go_roundw
     case rel => exact ⟨j + 1, _, _, _, by omega, by go_num, HK7.out, HP.out⟩
     case measure => simp [intOf]; omega
  ·have hji : ¬ (j : Int) < (most : Int) := by omega
   obtain ⟨p0, p1, p2, p3, p4, p5, p6, p7⟩ := box8 hV.box
   obtain ⟨t0, t1, t2, t3, t4, t5, t6, t7⟩ := box8 hV.res
   have rf := hV.res.fr
   have HRow := hidOf (show RRow w.heap.size (stR wr w.heap.size M v) M v ∧ Drawn c a len cap w (stR wr w.heap.size M v) from ⟨(hV.row.grown (stR_grown wr w.heap.size M v) (hV.row.out (by omega))).mono (by omega), hV.dr.grown hV.cur (stR_grown wr w.heap.size M v) (Nat.le_refl _)⟩)
   have HV := hidOf hV
   clear hV
   go_wp2_with fail
   exact bodyPost_ret (v := .agg #[.int .i64 v.cp, .int .i64 v.se, .slice M.ia M.i M.ic, .int .i64 v.nx, .slice M.sa M.s M.sc, .slice M.la M.l M.lc, .slice M.ga M.g M.gc, .bool v.cl]) (by simp [results, Tryz.results136, go_sem, t0, t1, t2, t3, t4, t5, t6, t7]) rfl ⟨M, v, rfl, HRow.out.1, HOk.out, HRow.out.2⟩
end Go.Proofs.YtdboaoejlkkoeaaGreat
