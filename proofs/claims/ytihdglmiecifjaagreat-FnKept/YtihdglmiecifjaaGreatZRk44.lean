/-
  Walk of the law on what a ring keeps: one subscriber after another lea
-/
import Derived.Test.YtihdglmiecifjaaGreatZRk24
import Derived.Test.YtihdglmiecifjaaGreatZRk43
namespace Go.Proofs.YtihdglmiecifjaaGreat
open Go.RowKit Go.Maps Pl Il Dr
def subLen (N : Nat) (w : World) : Nat := match w.cell? ⟨N, 4, none⟩ with | some (.slice _ n _) => n | _ => 0
theorem subLen_eq {N : Nat} {w : World} {a : Option Addr} {n c : Nat} (h : w.cell? ⟨N, 4, none⟩ = some (.slice a n c)) : subLen N w = n := by unfold subLen; rw [h]
/-- A ring's variable in block N, its lists behind it. -/
structure RVs (w : World) (N : Nat) (M : Rm) (v : Rv) (u : World) : Prop where
  box : BoxL N (rC M v) u
  rin : RIn u M v
  cap : RCap M
  bel : Below w.heap.size w u
  ge : w.heap.size ≤ N
theorem RVs.keep {w : World} {N : Nat} {M : Rm} {v : Rv} {u u' : World} (h : RVs w N M v u) (hb : Below u.heap.size u u') : RVs w N M v u' := ⟨h.box.keep hb, h.rin.keep hb, h.cap, bl_trans h.bel hb, h.ge⟩
/-- A ring that a call has made is stored over it. -/
theorem RVs.put {w : World} {N B : Nat} {M M' : Rm} {v v' : Rv} {u : World} (h : RVs w N M v u) (ho : ROwn B u M' v') (hB : N < B) : RVs w N M' v' (stR u N M' v') := by
  refine ⟨by rw [stR_eq]; exact h.box.setAll (us := rC M' v') rfl, ?_, ho.cap, by rw [stR_eq]; exact setL_below h.ge h.bel, h.ge⟩
  have h0 := ho.mono (B' := N + 1) (by omega)
  exact ((((((((h0.far N 0 (by omega) _).far N 1 (by omega) _).far N 2 (by omega) _).far N 3 (by omega) _).far N 4 (by omega) _).far N 5 (by omega) _).far N 6 (by omega) _).far N 7 (by omega) _).rin
abbrev RVc (w : World) (N : Nat) (M : Rm) (v : Rv) (u : World) : Prop := u.cell? ⟨N, 0, none⟩ = some (.int .i64 v.cp) ∧ u.cell? ⟨N, 1, none⟩ = some (.int .i64 v.se) ∧ u.cell? ⟨N, 2, none⟩ = some (.slice M.ia M.i M.ic) ∧ u.cell? ⟨N, 3, none⟩ = some (.int .i64 v.nx) ∧ u.cell? ⟨N, 4, none⟩ = some (.slice M.sa M.s M.sc) ∧ u.cell? ⟨N, 5, none⟩ = some (.slice M.la M.l M.lc) ∧ u.cell? ⟨N, 6, none⟩ = some (.slice M.ga M.g M.gc) ∧ u.cell? ⟨N, 7, none⟩ = some (.bool v.cl) ∧ RVs w N M v u
theorem RVs.s {w : World} {N : Nat} {M : Rm} {v : Rv} {u : World} (h : RVs w N M v u) : RVc w N M v u := by
  obtain ⟨p0, p1, p2, p3, p4, p5, p6, p7⟩ := box8 h.box
  exact ⟨p0, p1, p2, p3, p4, p5, p6, p7, h⟩
theorem RVc.vs {w : World} {N : Nat} {M : Rm} {v : Rv} {u : World} (h : RVc w N M v u) : RVs w N M v u := h.2.2.2.2.2.2.2.2
theorem RVc.keep {w : World} {N : Nat} {M : Rm} {v : Rv} {u u' : World} (h : RVc w N M v u) (hb : Below u.heap.size u u') : RVc w N M v u' := (h.vs.keep hb).s
set_option maxRecDepth 100000 in
set_option maxHeartbeats 16000000 in
theorem fnKept_of (a : Option Addr) (len cap : Nat) (w : World) (hB : len ≤ 1048576 → Bytes w.heap.size w a len cap) (hG : GOk w) :
  Calls Tryz.prog 6 #[.slice a len cap] w fun e w' => e = .returned (.bool true) ∧ Below w.heap.size w w' := by
 have HBy := hidOf hB
 have HG := hidOf hG
 clear hB hG
 go_enter Tryz.func6, Tryz.ntmps6
 go_wp2_with fail
 refine (big_any a len cap _).mono ?_
 rintro e w0 ⟨rfl, hw0⟩
 obtain rfl : w = w0 := hw0.symm
 by_cases hbig : 1048576 < len
 ·have hb' : decide (1048576 < len) = true := by simp [hbig]
  rw [hb']
  go_wp2
  go_ret
  exact ⟨rfl, Below.refl _ _⟩
 have hb' : decide (1048576 < len) = false := by simp [hbig]
 rw [hb']
 have HBs := hidOf (HBy.out (by omega))
 clear hbig hb' HBy
 go_wp2_with fail
 refine (drawUns_any a len cap _ HBs.out HG.out).mono ?_
 rintro e w1 ⟨M, v, z, rfl, hrow, hle, hwf, hz, hb1⟩
 have HIn1 := hidOf hrow.own.rin
 have HCap := hidOf hrow.cap
 have HLe := hidOf (hle.mono (k' := 1048576) (by omega))
 have HWf := hidOf hwf
 have HZ := hidOf hz
 have HB1 := hidOf hb1
 clear hrow hle hwf hz hb1 HBs
 go_upto_region 4 with fail
 obtain ⟨W2, hW2⟩ : ∃ W, w1.alloc (.cells #[.int .i64 v.cp, .int .i64 v.se, .slice M.ia M.i M.ic, .int .i64 v.nx, .slice M.sa M.s M.sc, .slice M.la M.l M.lc, .slice M.ga M.g M.gc, .bool v.cl] 28) = W := ⟨_, rfl⟩
 have x2 : BoxL w1.heap.size (rC M v) W2 := by rw [← hW2]; exact BoxL.new w1 (rC M v) _
 have b2 : Below w1.heap.size w1 W2 := by rw [← hW2]; exact bl_alloc (Below.refl _ _) _
 rw [hW2]
 have HIn2 := hidOf (HIn1.out.keep b2)
 have HB2 := hidOf (bl_trans HB1.out b2)
 generalize w1.heap.size = N at x2 ⊢
 have HX2 := hidOf x2
 obtain ⟨p0, p1, p2, p3, p4, p5, p6, p7⟩ := box8 x2
 clear hW2 x2 b2 HIn1 HB1
 go_wp2_with fail
 refine (implUns_any M v z _ HIn2.out HLe.out HCap.out HWf.out HZ.out).mono ?_
 rintro e w3 ⟨M3, rfl, ho3, hl3, hb3⟩
 have HX3 := hidOf (HX2.out.keep hb3)
 have HIn3 := hidOf (HIn2.out.keep hb3)
 have HB3 := hidOf (bl_trans HB2.out hb3)
 have HNlt := hidOf (show N < w3.heap.size from HX3.out.lt)
 have HY : Hid (ROwn W2.heap.size w3 M3 (unsR v z)) := hidOf ho3
 have HSe := hidOf (uns_se v z)
 have HOkU := hidOf (fun h : okR restR v = true => ok_uns h z)
 have HKd := hidOf (fun h : ¬ okR restR v = true => show unsC v z = 1 by unfold unsC; rw [if_neg h])
 have HSp := hidOf (fun (M : Rm) (u : World) (hI : RIn u M v) (hl : RLe M 1048576) (hc : RCap M) => show Calls Tryz.prog 41 #[.agg #[.int .i64 v.cp, .int .i64 v.se, .slice M.ia M.i M.ic, .int .i64 v.nx, .slice M.sa M.s M.sc, .slice M.la M.l M.lc, .slice M.ga M.g M.gc, .bool v.cl], .int .i64 z] u fun e w' => RgP u (unsR v z) (unsC v z) e w' from specUns_any M v z u hI hl hc HWf.out HZ.out)
 generalize unsR v z = y at HY HSe HOkU HSp ⊢
 generalize unsC v z = cd at HKd HSp ⊢
 have HL3 := hidOf hl3
 clear ho3 hl3 hb3 p0 p1 p2 p3 p4 p5 p6 p7
 go_upto_region 5 with fail
 obtain ⟨W4, hW4⟩ : ∃ W, w3.alloc (.cells #[.int .i64 y.cp, .int .i64 y.se, .slice M3.ia M3.i M3.ic, .int .i64 y.nx, .slice M3.sa M3.s M3.sc, .slice M3.la M3.l M3.lc, .slice M3.ga M3.g M3.gc, .bool y.cl] 28) = W := ⟨_, rfl⟩
 have x4 : BoxL w3.heap.size (rC M3 y) W4 := by rw [← hW4]; exact BoxL.new w3 (rC M3 y) _
 have b4 : Below w3.heap.size w3 W4 := by rw [← hW4]; exact bl_alloc (Below.refl _ _) _
 rw [hW4]
 have HV4 := hidOf (show RVs w w3.heap.size M3 y W4 from ⟨x4, HY.out.rin.keep b4, HY.out.cap, bl_trans HB3.out b4, HB3.out.size⟩)
 have HX4 := hidOf (HX3.out.keep b4)
 have HIn4 := hidOf (HIn3.out.keep b4)
 generalize w3.heap.size = N4 at x4 HV4 HNlt ⊢
 obtain ⟨p0, p1, p2, p3, p4, p5, p6, p7⟩ := box8 HX4.out
 clear hW4 x4 b4 HX3 HIn3 HY HB3 HX2 HIn2 HB2
 go_wp2_with fail
 refine (HSp.out M _ HIn4.out HLe.out HCap.out).mono ?_
 rintro e w5 ⟨M5, rfl, ho5, hl5, hb5⟩
 have HV5 := hidOf (HV4.out.keep hb5)
 have HX5 := hidOf (HX4.out.keep hb5)
 have HIn5 := hidOf (HIn4.out.keep hb5)
 have HO5 := hidOf ho5.rin
 have HL5 := hidOf hl5
 clear ho5 hl5 hb5 HV4 HX4 HIn4 p0 p1 p2 p3 p4 p5 p6 p7
 go_upto_region 6 with fail
 obtain ⟨W6, hW6⟩ : ∃ W, w5.alloc (.cells #[.int .i64 y.cp, .int .i64 y.se, .slice M5.ia M5.i M5.ic, .int .i64 y.nx, .slice M5.sa M5.s M5.sc, .slice M5.la M5.l M5.lc, .slice M5.ga M5.g M5.gc, .bool y.cl] 28) = W := ⟨_, rfl⟩
 have x6 : BoxL w5.heap.size (rC M5 y) W6 := by rw [← hW6]; exact BoxL.new w5 (rC M5 y) _
 have b6 : Below w5.heap.size w5 W6 := by rw [← hW6]; exact bl_alloc (Below.refl _ _) _
 rw [hW6]
 have HV6 := hidOf (HV5.out.keep b6)
 have HX6 := hidOf (HX5.out.keep b6)
 have HIn6 := hidOf (HIn5.out.keep b6)
 have HO6 := hidOf (HO5.out.keep b6)
 obtain ⟨q0, q1, q2, q3, q4, q5, q6, q7⟩ := box8 x6
 obtain ⟨r0, r1, r2, r3, r4, r5, r6, r7⟩ := box8 HV6.out.box
 have hcc : (cd != cd) = false := by simp
 clear hW6 x6 b6 HV5 HX5 HIn5 HO5
 go_wp2_with fail
 refine (ringSame_any M3 M5 y _ HV6.out.rin HO6.out HL3.out HL5.out).mono ?_
 rintro e w7 ⟨rfl, hb7⟩
 have HV7 := hidOf (HV6.out.keep hb7)
 have HX7 := hidOf (HX6.out.keep hb7)
 have HIn7 := hidOf (HIn6.out.keep hb7)
 obtain ⟨p0, p1, p2, p3, p4, p5, p6, p7⟩ := box8 HX7.out
 clear hb7 HV6 HX6 HIn6 HO6 q0 q1 q2 q3 q4 q5 q6 q7 r0 r1 r2 r3 r4 r5 r6 r7 hcc
 go_wp2_with fail
 refine (specRingOk_one M v _ HIn7.out (HLe.out.mono (by omega))).mono ?_
 rintro e w8 ⟨rfl, hb8⟩
 have HV8 := hidOf (HV7.out.keep hb8)
 have HX8 := hidOf (HX7.out.keep hb8)
 clear hb8 HV7 HX7 HIn7 p0 p1 p2 p3 p4 p5 p6 p7
 cases hok : okR restR v
 ·have hcd : cd = 1 := HKd.out (by rw [hok]; simp)
  subst hcd
  go_wp2
  go_ret
  exact ⟨rfl, HV8.out.bel⟩
 have HOk := hidOf (HOkU.out hok)
 clear hok HOkU HKd
 go_wp2_with fail
 go_loopw [] (fun wr => ∃ (My : Rm) (x : Rv), okR restR x = true ∧ x.se = v.se ∧ RVs w N4 My x wr ∧ BoxL N (rC M v) wr) (fun wr => subLen N4 wr)
 case atStart => exact ⟨M3, y, HOk.out, HSe.out, HV8.out, HX8.out⟩
 case round =>
  rename_i wr
  obtain ⟨My, x, hok, hse, hV, hX⟩ := hrel
  clear HOk HSe HV8 HX8
  have HOk := hidOf hok
  have HSe := hidOf hse
  have HV := hidOf hV
  have HX := hidOf hX
  have hlen : My.xs.length = My.s := hV.rin.sb.len
  have hsv := hV.rin.sv
  have hxl : x.sb.length = My.s := by rw [← hsv]; simp [svs, hlen]
  have HIl := hidOf hV.rin.it.len
  have HLl := hidOf hV.rin.ln.len
  have HGl := hidOf hV.rin.gs.len
  obtain ⟨p0, p1, p2, p3, p4, p5, p6, p7⟩ := box8 hV.box
  by_cases hs : My.s = 0
  ·have hsp : ¬ (0 : Int) < (My.s : Int) := by omega
   obtain ⟨e1, e2, e3⟩ := ok_none hok (List.length_eq_zero_iff.1 (by omega))
   have hi0 : ((My.i : Int) == 0) = true := by have := HIl.out; rw [e1] at this; simp only [List.length_nil] at this; simp; omega
   have hl0 : ((My.l : Int) == 0) = true := by have := HLl.out; rw [e2] at this; simp only [List.length_nil] at this; simp; omega
   have hg0 : ((My.g : Int) == 0) = true := by have := HGl.out; rw [e3] at this; simp only [List.length_nil] at this; simp; omega
   have hss : (x.se == v.se) = true := by simp [hse]
   have o1 := hX.cs 1 (by simp)
   simp only [List.getElem_cons_succ, List.getElem_cons_zero] at o1
   clear hok hse hV hX hsv hlen hxl e1 e2 e3 HIl HLl HGl hs
   go_wp2
   go_ret
   exact ⟨rfl, HV.out.bel⟩
  ·have hsp : (0 : Int) < (My.s : Int) := by omega
   obtain ⟨f1, f2, f3, f4, f5⟩ := uns_first hok (by omega)
   have hrow := hV.rin.sb.row
   obtain hr0 | ⟨gb, go, hga, hgl, hcell⟩ := hrow
   ·exact absurd hr0 hs
   have hid : x.sb.getD 0 Sb0 = (sg My.xs 0).s := by rw [← hsv]; exact sg_svs2 (by omega)
   rw [hid] at f1 f2 f3 f4 f5
   have hc0 := (hcell 0 (by omega)).c0
   rw [hga] at p4
   simp only [Nat.zero_mul, Nat.add_zero] at hc0
   have hidw : (Lit.int .i64 (sg My.xs 0).s.id).wf = true := by
    refine ((ok_wf hok).sb _ ?_).id
    rw [← hsv]
    exact List.mem_map.2 ⟨_, sg_mem (by omega), rfl⟩
   have hlx := ok_le hok hV.rin
   have HUn := hidOf (fun (u : World) (hu : RVs w N4 My x u) => show Calls Tryz.prog 40 #[.agg #[.int .i64 x.cp, .int .i64 x.se, .slice My.ia My.i My.ic, .int .i64 x.nx, .slice My.sa My.s My.sc, .slice My.la My.l My.lc, .slice My.ga My.g My.gc, .bool x.cl], .int .i64 (sg My.xs 0).s.id] u fun e w' => RgP u (unsR x (sg My.xs 0).s.id) 0 e w' by
    have h := implUns_any My x (sg My.xs 0).s.id u hu.rin (hlx.mono (by omega)) hu.cap (ok_wf hok) hidw
    rw [f1] at h
    exact h)
   have HF2 := hidOf f2
   have HF3 := hidOf (show (unsR x (sg My.xs 0).s.id).sb.length + 1 = My.s by omega)
   have HF4 := hidOf f4
   have HF5 := hidOf (f5.trans hse)
   obtain ⟨id0, hid0⟩ : ∃ i, (sg My.xs 0).s.id = i := ⟨_, rfl⟩
   rw [hid0] at hc0 HUn HF2 HF3 HF4 HF5
   generalize unsR x id0 = x7 at HUn HF2 HF3 HF4 HF5
   obtain ⟨yia, yi, yic, ysa, ys, ysc, yxs, yla, yl, ylc, yga, yg, ygc⟩ := My
   simp only at hga
   subst hga
   simp only at p2 p4 p5 p6 hs hsp hcell HF3 HIl HUn hgl
   have hcel : ∀ u, RVs w N4 ⟨yia, yi, yic, some ⟨gb, go, none⟩, ys, ysc, yxs, yla, yl, ylc, yga, yg, ygc⟩ x u → u.cell? ⟨gb, go, none⟩ = some (.int .i64 id0) := fun u hu => by
    rcases hu.rin.sb.row with h0 | ⟨b2, o2, e2, _, hc2⟩
    ·exact absurd h0 hs
    ·cases e2
     have h := (hc2 0 (by simp only; omega)).c0
     simp only [Nat.zero_mul, Nat.add_zero] at h
     rw [← hid0]
     exact h
   have hS : (fun u => u.cell? ⟨gb, go, none⟩ = some (.int .i64 id0) ∧ RVc w N4 ⟨yia, yi, yic, some ⟨gb, go, none⟩, ys, ysc, yxs, yla, yl, ylc, yga, yg, ygc⟩ x u) wr := ⟨hc0, hV.s⟩
   have hSd : (fun u => u.cell? ⟨gb, go, none⟩ = some (.int .i64 id0) ∧ RVc w N4 ⟨yia, yi, yic, some ⟨gb, go, none⟩, ys, ysc, yxs, yla, yl, ylc, yga, yg, ygc⟩ x u) wr.drew := ⟨by simpa using hc0, (hV.keep (Below.refl _ _).drew).s⟩
   clear hok hse hX hsv hlen hxl hid hidw hlx f1 f2 f3 f4 f5 hid0 hcell
   go_upto_region 11 with fail
   go_cut [9, 10] from 44 to 78 (fun s9 s10 wx => ∃ (P : Nat) (M7 : Rm), s9 = .pointer (some ⟨P, 0, none⟩) ∧ s10 = .int .i64 0 ∧ RVs w N4 ⟨yia, yi, yic, some ⟨gb, go, none⟩, ys, ysc, yxs, yla, yl, ylc, yga, yg, ygc⟩ x wx ∧ BoxL N (rC M v) wx ∧ BoxL P (rC M7 x7) wx ∧ (∃ B, N4 < B ∧ ROwn B wx M7 x7) ∧ P ≠ N4)
   case first =>
    refine wp_region_noPanic ?_
    refine wp_region_held_drew (S := (fun u => u.cell? ⟨gb, go, none⟩ = some (.int .i64 id0) ∧ RVc w N4 ⟨yia, yi, yic, some ⟨gb, go, none⟩, ys, ysc, yxs, yla, yl, ylc, yga, yg, ygc⟩ x u)) (by kernel_rfl) hSd (fun hHeld => ?_)
    refine tK 0 ?_ rfl (by kernel_rfl) (by rfl) ?_ (by assumption) (fun _ _ _ h => h) ?_
    case refine_2 => (intro w hSw; (try dsimp only at hSw); go_simp; try with_reducible rfl)
    simp only [Act.put, List.getElem_toArray, List.getElem_cons_zero, List.setIfInBounds_toArray, List.set_cons_zero, List.set_cons_succ]
    refine tK 1 ?_ rfl (by kernel_rfl) (by rfl) ?_ (by assumption) (fun _ _ _ h => h) ?_
    case refine_2 => (intro w hSw; (try dsimp only at hSw); go_simp; try with_reducible rfl)
    simp only [Act.put, zGA, zG0, zGC, zSA, zS0, zSC]
    refine tK 2 ?_ rfl (by kernel_rfl) (by rfl) ?_ (by assumption) (fun _ _ _ h => h) ?_
    case refine_2 => (intro w hSw; (try dsimp only at hSw); go_simp; try with_reducible rfl)
    simp only [Act.put, zGA, zG0, zGC, zSA, zS0, zSC]
    refine tK 3 ?_ rfl (by kernel_rfl) (by rfl) ?_ (by assumption) (fun _ _ _ h => h) ?_
    case refine_2 => (intro w hSw; (try dsimp only at hSw); go_simp; try with_reducible rfl)
    simp only [Act.put, zGA, zG0, zGC, zSA, zS0, zSC]
    refine tK 4 ?_ rfl (by kernel_rfl) (by rfl) ?_ (by assumption) (fun _ _ _ h => h) ?_
    case refine_2 => (intro w hSw; (try dsimp only at hSw); go_simp; try with_reducible rfl)
    simp only [Act.put, zGA, zG0, zGC, zSA, zS0, zSC]
    refine tK 5 ?_ rfl (by kernel_rfl) (by rfl) ?_ (by assumption) (fun _ _ _ h => h) ?_
    case refine_2 => (intro w hSw; (try dsimp only at hSw); go_simp; try with_reducible rfl)
    simp only [Act.put, zGA, zG0, zGC, zSA, zS0, zSC]
    refine wpAnyH_ready (rs := [6, 10]) (by kernel_rfl) (by simp) ?_
    refine AllReadyH.cons rfl (fun K hK => ?_) (AllReadyH.cons rfl (fun K hK => ?_) AllReadyH.nil)
    ·go_simp
     refine (HUn.out _ hHeld.2.vs).mono ?_
     rintro e w7 ⟨M7, rfl, ho7, hl7, hb7⟩
     go_wp2_with fail
     have hV7 := hHeld.2.vs.keep hb7
     have hs7 := hb7.size
     have hX7 := (HX.out.keep (Below.refl _ _).drew).keep hb7
     have hs0 : wr.drew.heap.size = wr.heap.size := rfl
     refine hK.out _ _ ⟨hcel _ hV7, hV7.s⟩ (fun hHeld => ?_)
     clear hK K
     refine tK 7 ?_ rfl (by kernel_rfl) (by rfl) ?_ (by assumption) (fun _ _ _ h => h) ?_
     case refine_2 => (intro w hSw; (try dsimp only at hSw); go_simp; try with_reducible rfl)
     simp only [Act.put, zGA, zG0, zGC, zSA, zS0, zSC]
     refine tK 8 ?_ rfl (by kernel_rfl) (by rfl) ?_ (by assumption) (fun _ _ _ h => h) ?_
     case refine_2 => (intro w hSw; (try dsimp only at hSw); go_simp; try with_reducible rfl)
     simp only [Act.put, zGA, zG0, zGC, zSA, zS0, zSC]
     refine tK 9 ?_ rfl (by kernel_rfl) (by rfl) ?_ (by assumption) (fun _ _ _ h => h) ?_
     case refine_2 => (intro w hSw; (try dsimp only at hSw); go_simp; try with_reducible rfl)
     simp only [Act.put, zGA, zG0, zGC, zSA, zS0, zSC]
     refine wpAnyH_ready (rs := [10]) (by kernel_rfl) (by simp) ?_
     refine AllReadyH.cons rfl (fun K hK => ?_) AllReadyH.nil
     go_simp
     refine hK.out _ _ ⟨hcel _ (hV7.keep (bl_alloc (Below.refl _ _) _)), (hV7.keep (bl_alloc (Below.refl _ _) _)).s⟩ (fun hHeld => ?_)
     clear hK K
     refine wpAnyH_ready (rs := [11]) (by kernel_rfl) (by simp) ?_
     refine AllReadyH.cons rfl (fun K hK => ?_) AllReadyH.nil
     go_simp
     refine hK.out _ _ ⟨hcel _ (hV7.keep (bl_alloc (Below.refl _ _) _)), (hV7.keep (bl_alloc (Below.refl _ _) _)).s⟩ (fun hHeld => ?_)
     clear hK K
     refine tK 12 ?_ rfl (by kernel_rfl) (by rfl) ?_ (by assumption) (fun _ _ _ h => h) ?_
     case refine_2 => (intro w hSw; (try dsimp only at hSw); go_simp; try with_reducible rfl)
     simp only [Act.put, zGA, zG0, zGC, zSA, zS0, zSC]
     refine wpAnyH_done (by kernel_rfl) ?_ _
     refine NoPanic.normal ?_
     go_wp2_with fail
     go_meet
     exact ⟨_, M7, rfl, rfl, hV7.keep (bl_alloc (Below.refl _ _) _), hX7.keep (bl_alloc (Below.refl _ _) _), BoxL.new _ (rC M7 x7) _, ⟨_, by have := HV.out.box.lt; omega, ho7.keep (bl_alloc (Below.refl _ _) _)⟩, by have := hV7.box.lt; omega⟩
    ·go_simp
     obtain ⟨w8, hw8⟩ : ∃ u, wr = u := ⟨_, rfl⟩
     have hba : Below w8.heap.size w8 ((w8.alloc (.cells zR.toArray 28)).drew) := (bl_alloc (Below.refl _ _) _).drew
     have Z0 : BoxL w8.heap.size zR ((w8.alloc (.cells zR.toArray 28)).drew) := (BoxL.new w8 zR 28).keep (Below.refl _ _).drew
     have hV8 : RVs w N4 ⟨yia, yi, yic, some ⟨gb, go, none⟩, ys, ysc, yxs, yla, yl, ylc, yga, yg, ygc⟩ x w8 := by rw [← hw8]; exact HV.out
     have hX8 : BoxL N (rC M v) w8 := by rw [← hw8]; exact HX.out
     have hV8a := hV8.keep hba
     have hz8 : ((w8.alloc (.cells zR.toArray 28)).drew).heap.size = w8.heap.size + 1 := by simp
     rw [hw8]
     refine hK.out _ _ ⟨hcel _ hV8a, hV8a.s⟩ (fun hHeld => ?_)
     clear hK K
     refine wpAnyH_ready (rs := [6]) (by kernel_rfl) (by simp) ?_
     refine AllReadyH.cons rfl (fun K hK => ?_) AllReadyH.nil
     go_simp
     refine (HUn.out _ hV8a).mono ?_
     rintro e w7 ⟨M7, rfl, ho7, hl7, hb7⟩
     go_wp2_with fail
     have hV7 := hV8a.keep hb7
     have Z1 := Z0.keep hb7
     have hbz : Below w8.heap.size w8 w7 := bl_trans hba hb7
     have hs7 := hb7.size
     have ho7' : ROwn (w8.heap.size + 1) w7 M7 x7 := ho7.mono (Nat.le_of_eq hz8.symm)
     refine hK.out _ _ ⟨hcel _ hV7, hV7.s⟩ (fun hHeld => ?_)
     clear hK K
     refine tK 7 ?_ rfl (by kernel_rfl) (by rfl) ?_ (by assumption) (fun _ _ _ h => h) ?_
     case refine_2 => (intro w hSw; (try dsimp only at hSw); go_simp; try with_reducible rfl)
     simp only [Act.put, zGA, zG0, zGC, zSA, zS0, zSC]
     refine tK 8 ?_ rfl (by kernel_rfl) (by rfl) ?_ (by assumption) (fun _ _ _ h => h) ?_
     case refine_2 => (intro w hSw; (try dsimp only at hSw); go_simp; try with_reducible rfl)
     simp only [Act.put, zGA, zG0, zGC, zSA, zS0, zSC]
     refine tK 9 ?_ rfl (by kernel_rfl) (by rfl) ?_ (by assumption) (fun _ _ _ h => h) ?_
     case refine_2 => (intro w hSw; (try dsimp only at hSw); go_simp; try with_reducible rfl)
     simp only [Act.put, zGA, zG0, zGC, zSA, zS0, zSC]
     obtain ⟨k0, k1, k2, k3, k4, k5, k6, k7⟩ := box8 Z1
     have kf := Z1.fr
     have hb9 : Below w8.heap.size w8 (stR w7 w8.heap.size M7 x7) := by rw [stR_eq]; exact setL_below (Nat.le_refl _) hbz
     have hV9 : RVs w N4 ⟨yia, yi, yic, some ⟨gb, go, none⟩, ys, ysc, yxs, yla, yl, ylc, yga, yg, ygc⟩ x (stR w7 w8.heap.size M7 x7) := hV8.keep hb9
     have hZ9 : BoxL w8.heap.size (rC M7 x7) (stR w7 w8.heap.size M7 x7) := by rw [stR_eq]; exact Z1.setAll (us := rC M7 x7) rfl
     refine wpAnyH_ready (rs := [11]) (by kernel_rfl) (by simp) ?_
     refine AllReadyH.cons rfl (fun K hK => ?_) AllReadyH.nil
     go_simp
     refine hK.out _ _ ⟨hcel _ hV9, hV9.s⟩ (fun hHeld => ?_)
     clear hK K
     refine tK 12 ?_ rfl (by kernel_rfl) (by rfl) ?_ (by assumption) (fun _ _ _ h => h) ?_
     case refine_2 => (intro w hSw; (try dsimp only at hSw); go_simp; try with_reducible rfl)
     simp only [Act.put, zGA, zG0, zGC, zSA, zS0, zSC]
     refine wpAnyH_done (by kernel_rfl) ?_ _
     refine NoPanic.normal ?_
     go_wp2_with fail
     go_meet
     exact ⟨_, M7, rfl, rfl, hV9, hX8.keep hb9, hZ9, ⟨_, (by have := hV8.box.lt; omega), (show ROwn (w8.heap.size + 1) (stR w7 w8.heap.size M7 x7) M7 x7 from (((((((ho7'.far _ 0 (by omega) _).far _ 1 (by omega) _).far _ 2 (by omega) _).far _ 3 (by omega) _).far _ 4 (by omega) _).far _ 5 (by omega) _).far _ 6 (by omega) _).far _ 7 (by omega) _)⟩, by have := hV8.box.lt; omega⟩
   case rest =>
    obtain ⟨P, M7, rfl, rfl, hV7, hX7, hP7, ⟨B7, hB7, hO7⟩, hPN⟩ := hcut
    obtain ⟨q0, q1, q2, q3, q4, q5, q6, q7⟩ := box8 hP7
    have HSub := hidOf (subLen_eq p4)
    clear p0 p1 p2 p3 p4 p5 p6 p7
    obtain ⟨p0, p1, p2, p3, p4, p5, p6, p7⟩ := box8 hV7.box
    have pf := hV7.box.fr
    have hl7 : (svs M7.xs).length = M7.s := by have := hO7.sb.sub.len; simpa [svs] using this
    rw [hO7.sv] at hl7
    have hn1 : ¬ (ys : Int) ≤ (M7.s : Int) := by have := HF3.out; omega
    have hn1' : ¬ ys ≤ M7.s := by have := HF3.out; omega
    have hn2 : ¬ (yi : Int) < (M7.i : Int) := by have h1 := HF4.out; have h2 := hO7.it.tm.len; have h3 := HIl.out; omega
    have hn2' : ¬ yi < M7.i := by omega
    have d1 : decide ((ys : Int) ≤ (M7.s : Int)) = false := by simp; omega
    have d1n : decide (ys ≤ M7.s) = false := by simp; omega
    have d2 : decide ((yi : Int) < (M7.i : Int)) = false := by simp; omega
    have d2n : decide (yi < M7.i) = false := by simp; omega
    have HV9 := hidOf (hV7.put hO7 hB7)
    have HX9 := hidOf (show BoxL N (rC M v) (stR wc N4 M7 x7) by rw [stR_eq]; exact hX7.setFar (by have := HNlt.out; omega))
    have HM9 := hidOf (show M7.s < ys by have := HF3.out; omega)
    clear hn1 hn1' hn2 hn2' hV7 hX7 hP7 hO7 hl7 hV hS hSd hc0 hgl hcel HUn HV HX hs hsp
    go_upto_if 77 with fail
    clear HNlt HSp d1 d1n d2 d2n
    go_wp2
    go_roundw
    case rel => exact ⟨M7, x7, HF2.out, HF5.out, HV9.out, HX9.out⟩
    case measure =>
     have h1 := (box8 HV9.out.box).2.2.2.2.1
     rw [subLen_eq h1, HSub.out]
     exact HM9.out
end Go.Proofs.YtihdglmiecifjaaGreat
