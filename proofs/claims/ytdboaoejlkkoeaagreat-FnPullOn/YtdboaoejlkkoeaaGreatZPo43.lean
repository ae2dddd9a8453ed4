/-
  Walk of the law on pulling: to pull in two parts is to pull at once; t
-/
import Derived.Test.YtdboaoejlkkoeaaGreatZPo27
import Derived.Test.YtdboaoejlkkoeaaGreatZPo41
import Derived.Test.YtdboaoejlkkoeaaGreatZPo42
namespace Go.Proofs.YtdboaoejlkkoeaaGreat
open Go.RowKit Go.Maps Pl Il Dr
structure BRv (N : Nat) (M : Rm) (v : Rv) (u : World) : Prop where
  box : BoxL N (rC M v) u
  rin : RIn u M v
theorem BRv.keep {N : Nat} {M : Rm} {v : Rv} {u u' : World} (h : BRv N M v u) (hb : Below u.heap.size u u') : BRv N M v u' := ⟨h.box.keep hb, h.rin.keep hb⟩
theorem okb_small {k n : Int} {t : ByteArray} (h : okB k n t = true) : t.size ≤ 40 := by
  unfold okB at h
  split at h
  · simp only [Bool.and_eq_true] at h
    rw [ByteArray.toList_eq] at h
    have h2 : t.data.toList = [] := by simpa using h.1
    have e : t.data.toList.length = t.size := by simp
    rw [h2, List.length_nil] at e
    omega
  · split at h
    · simp only [Bool.and_eq_true] at h
      have h2 := h.2
      unfold plainB at h2
      simp only [Bool.and_eq_true, decide_eq_true_eq] at h2
      exact h2.1
    · cases h
theorem empty_row (w : World) : (w.alloc (.cells #[] 53)).ownsRow w.heap.size 53 6 (.slice (some ⟨w.heap.size, 0, none⟩) 0 0) 0 (dflat []) :=
  ⟨rfl, .inr ⟨w.heap.size, 0, #[], rfl, Nat.le_refl _, World.alloc_heap_new _ _, Nat.le_refl _, by decide, rfl, rfl⟩⟩
theorem wrap_sm {x : Int} (h0 : -4000000000 ≤ x) (h1 : x ≤ 4000000000) : IntKind.i64.wrap x = x := by rw [IntKind.wrap_i64]; omega
set_option maxRecDepth 100000 in
set_option maxHeartbeats 16000000 in
theorem fnPullOn_of (a : Option Addr) (len cap : Nat) (w : World) (hB : len ≤ 1048576 → Bytes w.heap.size w a len cap) (hG : GOk w) :
  Calls Tryz.prog 4 #[.slice a len cap] w fun e w' => e = .returned (.bool true) ∧ Below w.heap.size w w' := by
 have HBy := hidOf hB
 have HG := hidOf hG
 clear hB hG
 go_enter Tryz.func4, Tryz.ntmps4
 go_wp2_with fail
 refine (big_any a len cap _).mono ?_
 rintro e w0 ⟨rfl, hw0⟩
 obtain rfl : w = w0 := hw0.symm
 by_cases hbig : 1048576 < len
 ·have hb' : decide (1048576 < len) = true := by simp [hbig]
  rw [hb']
  go_wp2
  go_ret
  exact ⟨rfl, Below.refl _ _⟩
 have hb' : decide (1048576 < len) = false := by simp [hbig]
 rw [hb']
 have HBs := hidOf (HBy.out (by omega))
 clear hbig hb' HBy
 go_wp2_with fail
 refine (drawPull_any a len cap _ HBs.out HG.out).mono ?_
 rintro e w1 ⟨M, v, z, mo, rfl, hrow, hle, hwf, hz, hmo, hb1⟩
 have HIn := hidOf hrow.own.rin
 have HCap := hidOf hrow.cap
 have HLe := hidOf (hle.mono (k' := 1048576) (by omega))
 have HWf := hidOf hwf
 have HZ := hidOf hz
 have HMo := hidOf hmo
 replace HG := hidOf (HG.out.keep hb1)
 have HB := hidOf hb1
 have HBs0 := hidOf (fun (u : World) (hu : Below w.heap.size w u) => bytes_below HBs.out hu)
 clear hrow hle hwf hz hmo hb1 HBs
 go_upto_region 4 with fail
 obtain ⟨W2, hW2⟩ : ∃ W, w1.alloc (.cells #[.int .i64 v.cp, .int .i64 v.se, .slice M.ia M.i M.ic, .int .i64 v.nx, .slice M.sa M.s M.sc, .slice M.la M.l M.lc, .slice M.ga M.g M.gc, .bool v.cl] 28) = W := ⟨_, rfl⟩
 have xW2 : BoxL w1.heap.size [.int .i64 v.cp, .int .i64 v.se, .slice M.ia M.i M.ic, .int .i64 v.nx, .slice M.sa M.s M.sc, .slice M.la M.l M.lc, .slice M.ga M.g M.gc, .bool v.cl] W2 := by rw [← hW2]; exact BoxL.new w1 [.int .i64 v.cp, .int .i64 v.se, .slice M.ia M.i M.ic, .int .i64 v.nx, .slice M.sa M.s M.sc, .slice M.la M.l M.lc, .slice M.ga M.g M.gc, .bool v.cl] _
 have bW2 : Below w1.heap.size w1 W2 := by rw [← hW2]; exact bl_alloc (Below.refl _ _) _
 rw [hW2]
 have HX := hidOf (show BRv w1.heap.size M v W2 from ⟨xW2, HIn.out.keep bW2⟩)
 replace HG := hidOf (HG.out.keep bW2)
 replace HB := hidOf (bl_trans HB.out bW2)
 generalize w1.heap.size = N at HX ⊢
 clear hW2 xW2 bW2 HIn
 have HPi := hidOf (fun (q : Int) (u : World) (hI : RIn u M v) (hg : GOk u) => implPull_any M v z q u hI HLe.out HCap.out HWf.out HZ.out hg)
 have HPs := hidOf (fun (u : World) (hI : RIn u M v) => specPull_any M v z mo u hI HLe.out HCap.out HWf.out)
 have HCa := hidOf (pul_cases v z mo)
 have HYe := hidOf (show ∃ y td cd, pulR v z mo = y ∧ pulT v z mo = td ∧ pulC v z mo = cd from ⟨_, _, _, rfl, rfl, rfl⟩)
 obtain ⟨y, td, cd, hy, ht, hc⟩ := HYe.out
 have HYn := hidOf (And.intro hy (And.intro ht hc))
 have HLt := hidOf (show td.length ≤ 2097152 by rw [← ht]; exact pulT_len v z mo)
 rw [hy, ht, hc] at HPs
 have HPi1 := hidOf (HPi.out mo)
 rw [hy, ht, hc] at HPi1
 clear hy ht hc HYe
 obtain ⟨p0, p1, p2, p3, p4, p5, p6, p7⟩ := box8 HX.out.box
 go_wp2_with fail
 refine (HPi1.out _ HX.out.rin HG.out).mono ?_
 rintro e w3 ⟨M3, a3, n3, c3, rfl, hr3, hl3, ho3, _, hb3⟩
 have HR3 := hidOf hr3.own.rin
 have HC3 := hidOf hr3.cap
 have HL3 := hidOf hl3
 have HT3 := hidOf (td_of_row ho3)
 replace HX := hidOf (HX.out.keep hb3)
 replace HG := hidOf (HG.out.keep hb3)
 replace HB := hidOf (bl_trans HB.out hb3)
 clear hr3 hl3 ho3 hb3 HPi1 p0 p1 p2 p3 p4 p5 p6 p7
 go_upto_region 5 with fail
 obtain ⟨W4, hW4⟩ : ∃ W, w3.alloc (.cells #[.int .i64 y.cp, .int .i64 y.se, .slice M3.ia M3.i M3.ic, .int .i64 y.nx, .slice M3.sa M3.s M3.sc, .slice M3.la M3.l M3.lc, .slice M3.ga M3.g M3.gc, .bool y.cl] 28) = W := ⟨_, rfl⟩
 have xW4 : BoxL w3.heap.size [.int .i64 y.cp, .int .i64 y.se, .slice M3.ia M3.i M3.ic, .int .i64 y.nx, .slice M3.sa M3.s M3.sc, .slice M3.la M3.l M3.lc, .slice M3.ga M3.g M3.gc, .bool y.cl] W4 := by rw [← hW4]; exact BoxL.new w3 [.int .i64 y.cp, .int .i64 y.se, .slice M3.ia M3.i M3.ic, .int .i64 y.nx, .slice M3.sa M3.s M3.sc, .slice M3.la M3.l M3.lc, .slice M3.ga M3.g M3.gc, .bool y.cl] _
 have bW4 : Below w3.heap.size w3 W4 := by rw [← hW4]; exact bl_alloc (Below.refl _ _) _
 rw [hW4]
 have HY := hidOf (show BRv w3.heap.size M3 y W4 from ⟨xW4, HR3.out.keep bW4⟩)
 replace HX := hidOf (HX.out.keep bW4)
 replace HG := hidOf (HG.out.keep bW4)
 replace HB := hidOf (bl_trans HB.out bW4)
 replace HT3 := hidOf (HT3.out.keep bW4)
 generalize w3.heap.size = N4 at HY ⊢
 clear hW4 xW4 bW4 HR3
 obtain ⟨p0, p1, p2, p3, p4, p5, p6, p7⟩ := box8 HX.out.box
 go_wp2_with fail
 refine (HPs.out _ HX.out.rin).mono ?_
 rintro e w5 ⟨M5, a5, n5, c5, rfl, hr5, hl5, ho5, _, hb5⟩
 have HR5 := hidOf hr5.own.rin
 have HL5 := hidOf hl5
 have HT5 := hidOf (td_of_row ho5)
 replace HX := hidOf (HX.out.keep hb5)
 replace HY := hidOf (HY.out.keep hb5)
 replace HG := hidOf (HG.out.keep hb5)
 replace HB := hidOf (bl_trans HB.out hb5)
 replace HT3 := hidOf (HT3.out.keep hb5)
 clear hr5 hl5 ho5 hb5 HPs p0 p1 p2 p3 p4 p5 p6 p7
 go_upto_region 6 with fail
 obtain ⟨W6, hW6⟩ : ∃ W, w5.alloc (.cells #[.int .i64 y.cp, .int .i64 y.se, .slice M5.ia M5.i M5.ic, .int .i64 y.nx, .slice M5.sa M5.s M5.sc, .slice M5.la M5.l M5.lc, .slice M5.ga M5.g M5.gc, .bool y.cl] 28) = W := ⟨_, rfl⟩
 have xW6 : BoxL w5.heap.size [.int .i64 y.cp, .int .i64 y.se, .slice M5.ia M5.i M5.ic, .int .i64 y.nx, .slice M5.sa M5.s M5.sc, .slice M5.la M5.l M5.lc, .slice M5.ga M5.g M5.gc, .bool y.cl] W6 := by rw [← hW6]; exact BoxL.new w5 [.int .i64 y.cp, .int .i64 y.se, .slice M5.ia M5.i M5.ic, .int .i64 y.nx, .slice M5.sa M5.s M5.sc, .slice M5.la M5.l M5.lc, .slice M5.ga M5.g M5.gc, .bool y.cl] _
 have bW6 : Below w5.heap.size w5 W6 := by rw [← hW6]; exact bl_alloc (Below.refl _ _) _
 rw [hW6]
 have HQ := hidOf (show BRv w5.heap.size M5 y W6 from ⟨xW6, HR5.out.keep bW6⟩)
 replace HX := hidOf (HX.out.keep bW6)
 replace HY := hidOf (HY.out.keep bW6)
 replace HG := hidOf (HG.out.keep bW6)
 replace HB := hidOf (bl_trans HB.out bW6)
 replace HT3 := hidOf (HT3.out.keep bW6)
 replace HT5 := hidOf (HT5.out.keep bW6)
 generalize w5.heap.size = N6 at HQ ⊢
 clear hW6 xW6 bW6 HR5
 have hcc : (cd != cd) = false := by simp
 go_wp2_with fail
 refine (sameTold_any a3 a5 n3 n5 c3 c5 td _ HT3.out HT5.out (by rw [← HT3.out.len]; exact HLt.out)).mono ?_
 rintro e w7 ⟨rfl, hb7⟩
 replace HX := hidOf (HX.out.keep hb7)
 replace HY := hidOf (HY.out.keep hb7)
 replace HQ := hidOf (HQ.out.keep hb7)
 replace HG := hidOf (HG.out.keep hb7)
 replace HB := hidOf (bl_trans HB.out hb7)
 replace HT3 := hidOf (HT3.out.keep hb7)
 replace HT5 := hidOf (HT5.out.keep hb7)
 clear hb7
 obtain ⟨p0, p1, p2, p3, p4, p5, p6, p7⟩ := box8 HY.out.box
 obtain ⟨q0, q1, q2, q3, q4, q5, q6, q7⟩ := box8 HQ.out.box
 go_wp2_with fail
 refine (ringSame_any M3 M5 y _ HY.out.rin HQ.out.rin HL3.out HL5.out).mono ?_
 rintro e w8 ⟨rfl, hb8⟩
 replace HX := hidOf (HX.out.keep hb8)
 replace HY := hidOf (HY.out.keep hb8)
 replace HQ := hidOf (HQ.out.keep hb8)
 replace HG := hidOf (HG.out.keep hb8)
 replace HB := hidOf (bl_trans HB.out hb8)
 replace HT3 := hidOf (HT3.out.keep hb8)
 replace HT5 := hidOf (HT5.out.keep hb8)
 clear hb8 hcc p0 p1 p2 p3 p4 p5 p6 p7 q0 q1 q2 q3 q4 q5 q6 q7
 obtain ⟨hy, ht, hc⟩ := HYn.out
 have hca := HCa.out
 rw [hy, ht, hc] at hca
 clear hy ht hc HCa
 rcases hca with ⟨hcd, rfl, rfl⟩ | ⟨k, m, hP⟩
 ·obtain rfl : n3 = 0 := HT3.out.len.symm
  obtain ⟨p0, p1, p2, p3, p4, p5, p6, p7⟩ := box8 HX.out.box
  obtain ⟨q0, q1, q2, q3, q4, q5, q6, q7⟩ := box8 HY.out.box
  have HS := hidOf (fun u (h1 : RIn u M3 y) (h2 : RIn u M y) => ringSame_any M3 M y u h1 h2 HL3.out (HLe.out.mono (by omega)))
  rcases hcd with rfl | rfl | rfl
  all_goals
   go_wp2_with fail
   refine (HS.out _ HY.out.rin HX.out.rin).mono ?_
   rintro e w9 ⟨rfl, hb9⟩
   replace HB := hidOf (bl_trans HB.out hb9)
   clear hb9
   go_wp2
   go_ret
   exact ⟨rfl, HB.out⟩
 ·have HP := hidOf hP
  have hcode := hP.code
  rw [HYn.out.2.2] at hcode
  have e1 : (cd == 1) = false := by simp; omega
  have e3 : (cd == 3) = false := by simp; omega
  have e5 : (cd == 5) = false := by simp; omega
  obtain ⟨p0, p1, p2, p3, p4, p5, p6, p7⟩ := box8 HX.out.box
  clear hP hcode
  go_wp2_with fail
  refine (subOf_any M v z _ HX.out.rin (HLe.out.mono (by omega))).mono ?_
  rintro e w9 ⟨⟨hp, _⟩, hb9⟩
  obtain rfl := hp (by rw [HP.out.at_]; omega)
  rw [show (atR v.sb z).toNat = k by rw [HP.out.at_]; rfl]
  replace HX := hidOf (HX.out.keep hb9)
  replace HY := hidOf (HY.out.keep hb9)
  replace HQ := hidOf (HQ.out.keep hb9)
  replace HG := hidOf (HG.out.keep hb9)
  replace HB := hidOf (bl_trans HB.out hb9)
  replace HT3 := hidOf (HT3.out.keep hb9)
  replace HT5 := hidOf (HT5.out.keep hb9)
  clear hp hb9 e1 e3 e5 p0 p1 p2 p3 p4 p5 p6 p7
  have hkx : k < M.xs.length := by have h1 := HX.out.rin.sv; have h2 := HP.out.lt; rw [← h1] at h2; simpa [svs] using h2
  have hsv : (sg M.xs k).s = v.sb.getD k Sb0 := by rw [← HX.out.rin.sv, sg_svs2 hkx]
  have htm := HX.out.rin.sb.fil (sg M.xs k) (sg_mem hkx)
  have hfn := HLe.out.f (sg M.xs k) (sg_mem hkx)
  obtain ⟨sa, hsa⟩ : ∃ sa, sg M.xs k = sa := ⟨_, rfl⟩
  rw [hsa] at hsv htm hfn ⊢
  have HFl := hidOf htm
  have HFn := hidOf hfn
  have HSv := hidOf hsv
  have hru := ok_rd HP.out.ok HP.out.lt
  have hnm := hru.nm
  have hse := hru.se
  rw [← hsv] at hnm
  have hwc : IntKind.i64.wrap (sa.s.cu - 1) = sa.s.cu - 1 := wrap_sm (by omega) (by omega)
  have hri := HP.out.rise
  rw [← hsv, HYn.out.2.1] at hri
  have HRi := hidOf hri
  have HFk := hidOf (show okF sa.s.fl = true by rw [hsv]; exact hru.fl)
  clear hsa hsv htm hfn hru hnm hse hri hkx
  go_upto_region 11 with fail
  obtain ⟨W10, hW10⟩ : ∃ W, w9.alloc (.cells #[.int .i64 sa.s.id, .int .i64 sa.s.st, .int .i64 sa.s.cu, .int .i64 sa.s.gt, .int .i64 sa.s.lo, .int .i64 sa.s.pa, .slice sa.a sa.n sa.c] 41) = W := ⟨_, rfl⟩
  have xW10 : BoxL w9.heap.size [.int .i64 sa.s.id, .int .i64 sa.s.st, .int .i64 sa.s.cu, .int .i64 sa.s.gt, .int .i64 sa.s.lo, .int .i64 sa.s.pa, .slice sa.a sa.n sa.c] W10 := by rw [← hW10]; exact BoxL.new w9 [.int .i64 sa.s.id, .int .i64 sa.s.st, .int .i64 sa.s.cu, .int .i64 sa.s.gt, .int .i64 sa.s.lo, .int .i64 sa.s.pa, .slice sa.a sa.n sa.c] _
  have bW10 : Below w9.heap.size w9 W10 := by rw [← hW10]; exact bl_alloc (Below.refl _ _) _
  rw [hW10]
  have HSb := hidOf xW10
  replace HX := hidOf (HX.out.keep bW10)
  replace HY := hidOf (HY.out.keep bW10)
  replace HQ := hidOf (HQ.out.keep bW10)
  replace HG := hidOf (HG.out.keep bW10)
  replace HB := hidOf (bl_trans HB.out bW10)
  replace HT3 := hidOf (HT3.out.keep bW10)
  replace HT5 := hidOf (HT5.out.keep bW10)
  replace HFl := hidOf (HFl.out.keep bW10)
  generalize w9.heap.size = N10 at HSb ⊢
  clear hW10 xW10 bW10
  obtain ⟨s0, s1, s2, s3, s4, s5, s6⟩ := box7q HSb.out
  go_wp2_with fail
  clear s0 s1 s2 s3 s4 s5 s6 hwc
  go_loopw [14, 15] (fun la i wr => ∃ j : Nat, j ≤ n3 ∧ i = .int .i64 (j : Int) ∧ la = .int .i64 (lastT (sa.s.cu - 1) (td.take j)) ∧ Below W10.heap.size W10 wr) (fun _ i _ => n3 - (intOf i).toNat)
  case atStart => exact ⟨0, Nat.zero_le _, rfl, rfl, Below.refl _ _⟩
  case round =>
   rename_i wr
   obtain ⟨j, hj, rfl, rfl, hBw⟩ := hrel
   by_cases hlt : j < n3
   ·obtain hr | ⟨b, off, rfl, hb, hcell⟩ := HT3.out.row
    ·omega
    obtain ⟨c0, c1, c2, c3, c4, c5⟩ := (hcell j hlt).keep hBw
    have hla := last_succ (a := sa.s.cu - 1) (l := td) (i := j) (by rw [HT3.out.len]; exact hlt)
    have hri := fun h => rise_at HRi.out (i := j) (by rw [HT3.out.len]; exact hlt) h
    obtain ⟨t, ht⟩ : ∃ t, dg td j = t := ⟨_, rfl⟩
    rw [ht] at c0 c1 c2 c3 c4 c5 hla hri
    obtain ⟨la, hlaE⟩ : ∃ la, lastT (sa.s.cu - 1) (td.take j) = la := ⟨_, rfl⟩
    rw [hlaE] at hla hri ⊢
    have HBw := hidOf hBw
    have hji : (0 : Int) ≤ (j : Int) ∧ (j : Int) < (n3 : Int) ∧ (n3 : Int) ≤ 2097152 := by have h := HLt.out; rw [HT3.out.len] at h; omega
    clear hcell ht hlaE hBw
    by_cases hk : t.kd = 1
    ·rw [if_pos hk] at hla
     obtain ⟨h1, h2, h3⟩ := hri hk
     have HRi3 := hidOf (And.intro h1 (And.intro h2 h3))
     have hix : (t.ix <= la) = False := by simp; omega
     have e0 : (t.kd == 1) = true := by simp [hk]
     have HLa := hidOf hla
     have hle : decide (t.ix ≤ la) = false := by simp; omega
     have hpm : passM sa.s.fl t.ms.1 t.ms.2.1 t.ms.2.2 = true := by rw [passM_eq HFk.out h3]; exact h2
     have hms : t.ms.2.2.size ≤ maxLen := by have h := okb_small h3; have : (40 : Nat) ≤ maxLen := (by decide); omega
     have HPs := hidOf (fun (u : World) (hu : Below W10.heap.size W10 u) => specPasses_any sa.a sa.n sa.c sa.s.fl t.ms.1 t.ms.2.1 t.ms.2.2 u (HFl.out.keep hu) (by have := HFn.out; omega) hms)
     rw [hpm] at HPs
     have HSb2 := HSb.out.keep HBw.out
     have s6 := HSb2.cs 6 (by simp)
     simp only [List.getElem_cons_succ, List.getElem_cons_zero] at s6
     clear hk hri hla h1 h2 h3 hix hpm hms HSb2
     go_wp2_with fail
     have hB2 : Below wr.heap.size wr wr.drew := (Below.refl _ _).drew
     refine wp_region_noPanic ?_
     refine wp_region_held_drew (S := fun u => u.cell? ⟨b, off + j * 6 + 4, none⟩ = some (.int .i64 t.ix) ∧ u.cell? ⟨b, off + j * 6 + 1, none⟩ = some (.int .i64 t.ms.1) ∧ u.cell? ⟨b, off + j * 6 + 2, none⟩ = some (.int .i64 t.ms.2.1) ∧ u.cell? ⟨b, off + j * 6 + 3, none⟩ = some (.string t.ms.2.2) ∧ u.cell? ⟨N10, 6, none⟩ = some (.slice sa.a sa.n sa.c) ∧ Below W10.heap.size W10 u) (by kernel_rfl) ⟨cellD c4 hB2, cellD c1 hB2, cellD c2 hB2, cellD c3 hB2, cellD s6 hB2, bl_trans HBw.out hB2⟩ (fun hHeld => ?_)
     refine tK 0 ?_ rfl (by kernel_rfl) (by rfl) ?_ (by assumption) (fun _ _ _ h => h) ?_
     case refine_2 => (intro w hSw; (try dsimp only at hSw); go_simp; try with_reducible rfl)
     simp only [Act.put, List.getElem_toArray, List.getElem_cons_zero, List.setIfInBounds_toArray, List.set_cons_zero, List.set_cons_succ]
     refine tR 1 ?_
     refine tR 2 ?_
     refine tR 3 ?_
     refine tR 4 ?_
     refine tR 5 ?_
     refine tR 6 ?_
     refine tR 7 ?_
     refine tR 8 ?_
     refine tR 9 ?_
     refine tR 10 ?_
     refine tR 11 ?_
     refine tR 12 ?_
     refine tR 13 ?_
     refine tR 14 ?_
     refine tW 15 (fun K hK => ?_)
     go_simp
     refine (HPs.out _ hHeld.2.2.2.2.2).mono ?_
     rintro e w12 ⟨rfl, hb12⟩
     go_wp2_with fail
     have hH12 : w12.cell? ⟨b, off + j * 6 + 4, none⟩ = some (.int .i64 t.ix) ∧ w12.cell? ⟨b, off + j * 6 + 1, none⟩ = some (.int .i64 t.ms.1) ∧ w12.cell? ⟨b, off + j * 6 + 2, none⟩ = some (.int .i64 t.ms.2.1) ∧ w12.cell? ⟨b, off + j * 6 + 3, none⟩ = some (.string t.ms.2.2) ∧ w12.cell? ⟨N10, 6, none⟩ = some (.slice sa.a sa.n sa.c) ∧ Below W10.heap.size W10 w12 := ⟨cellD hHeld.1 hb12, cellD hHeld.2.1 hb12, cellD hHeld.2.2.1 hb12, cellD hHeld.2.2.2.1 hb12, cellD hHeld.2.2.2.2.1 hb12, bl_trans hHeld.2.2.2.2.2 hb12⟩
     refine hK.out _ _ hH12 (fun hHeld => ?_)
     clear hK K
     refine tR 16 ?_
     refine tR 17 ?_
     refine wpAnyH_done (by kernel_rfl) ?_ _
     refine NoPanic.normal ?_
     obtain ⟨d4, _, _, _, _, hB12⟩ := hH12
     have HB12 := hidOf hB12
     clear hHeld hb12 hB2 hB12 c0 c1 c2 c3 c4 c5 s6
     go_wp2_with fail
     go_roundw
     case rel => exact ⟨j + 1, hlt, by go_num, by rw [HLa.out], HB12.out⟩
     case measure => simp [intOf]; omega
    ·rw [if_neg hk] at hla
     have e0 : (t.kd == 1) = false := by simp [hk]
     have HLa := hidOf hla
     clear hk hri hla
     go_wp2_with fail
     go_roundw
     case rel => exact ⟨j + 1, hlt, by go_num, by rw [HLa.out], HBw.out⟩
     case measure => simp [intOf]; omega
   ·obtain rfl : j = n3 := by omega
    replace HX := hidOf (HX.out.keep hBw)
    replace HY := hidOf (HY.out.keep hBw)
    replace HQ := hidOf (HQ.out.keep hBw)
    replace HG := hidOf (HG.out.keep hBw)
    replace HB := hidOf (bl_trans HB.out hBw)
    replace HT3 := hidOf (HT3.out.keep hBw)
    replace HT5 := hidOf (HT5.out.keep hBw)
    have hme := HP.out.me
    subst hme
    have HAt := hidOf (show ∀ (u : World), Bytes w.heap.size u a len cap → Calls Tryz.prog 34 #[.slice a len cap, .int .i64 3] u fun e w' => ∃ y : Int, e = .returned (.int .i64 y) ∧ 0 ≤ y ∧ y ≤ 255 ∧ w' = u from fun u hu => atN_any w.heap.size a len cap 3 u hu (by omega))
    have hm50 := HP.out.le
    have hw1 : IntKind.i64.wrap ((m : Int) + 1) = (m : Int) + 1 := wrap_sm (by omega) (by omega)
    have hz1 : ((m : Int) + 1 == 0) = false := by simp; omega
    clear hBw HRi HFl HFk HFn HSb HSv hlt hj
    go_wp2_with fail
    refine (HAt.out _ (HBs0.out _ HB.out)).mono ?_
    rintro e w13 ⟨cq, rfl, hc0, hc1, rfl⟩
    obtain ⟨ct, hct⟩ : ∃ ct : Nat, Int.tmod cq ((m : Int) + 1) = (ct : Int) := ⟨(Int.tmod cq ((m : Int) + 1)).toNat, by have := Int.tmod_nonneg ((m : Int) + 1) hc0; omega⟩
    have hctm : ct ≤ m := by have := Int.tmod_lt_of_pos cq (show (0 : Int) < (m : Int) + 1 by omega); omega
    have hw2 : IntKind.i64.wrap ((m : Int) - (ct : Int)) = ((m - ct : Nat) : Int) := by rw [wrap_sm (by omega) (by omega)]; omega
    have hw3 : IntKind.i64.wrap (ct : Int) = (ct : Int) := wrap_sm (by omega) (by omega)
    obtain ⟨t1, t2, t3⟩ := HP.out.two hctm
    rw [HYn.out.1] at t1
    rw [HYn.out.2.1] at t2
    obtain ⟨y2, hy2⟩ : ∃ y2, pulR v z (ct : Int) = y2 := ⟨_, rfl⟩
    obtain ⟨l1, hl1⟩ : ∃ l, pulT v z (ct : Int) = l := ⟨_, rfl⟩
    obtain ⟨cd1, hcd1⟩ : ∃ c, pulC v z (ct : Int) = c := ⟨_, rfl⟩
    have hP1 := HPi.out (ct : Int)
    rw [hy2, hl1, hcd1] at hP1
    rw [hy2, hl1] at t2
    rw [hy2] at t1 t3
    have HP1 := hidOf hP1
    have HT1 := hidOf t1
    have HT2 := hidOf t2
    have HOk := hidOf t3
    have HLl := hidOf (show l1.length ≤ 2097152 by rw [← hl1]; exact pulT_len v z ct)
    obtain ⟨p0, p1, p2, p3, p4, p5, p6, p7⟩ := box8 HX.out.box
    clear hP1 t1 t2 t3 hy2 hl1 hcd1 hctm hc0 hc1 hm50
    go_wp2_with fail
    refine (HP1.out _ HX.out.rin HG.out).mono ?_
    rintro e w14 ⟨M14, a14, n14, c14, rfl, hr14, hl14, ho14, _, hb14⟩
    have HR14 := hidOf hr14.own.rin
    have HC14 := hidOf hr14.cap
    have HT14 := hidOf (td_of_row ho14)
    replace HX := hidOf (HX.out.keep hb14)
    replace HY := hidOf (HY.out.keep hb14)
    replace HQ := hidOf (HQ.out.keep hb14)
    replace HG := hidOf (HG.out.keep hb14)
    replace HB := hidOf (bl_trans HB.out hb14)
    replace HT3 := hidOf (HT3.out.keep hb14)
    replace HT5 := hidOf (HT5.out.keep hb14)
    clear hr14 hl14 ho14 hb14 HP1 p0 p1 p2 p3 p4 p5 p6 p7
    go_upto_region 21 with fail
    obtain ⟨W15, hW15⟩ : ∃ W, w14.alloc (.cells #[.int .i64 y2.cp, .int .i64 y2.se, .slice M14.ia M14.i M14.ic, .int .i64 y2.nx, .slice M14.sa M14.s M14.sc, .slice M14.la M14.l M14.lc, .slice M14.ga M14.g M14.gc, .bool y2.cl] 28) = W := ⟨_, rfl⟩
    have xW15 : BoxL w14.heap.size [.int .i64 y2.cp, .int .i64 y2.se, .slice M14.ia M14.i M14.ic, .int .i64 y2.nx, .slice M14.sa M14.s M14.sc, .slice M14.la M14.l M14.lc, .slice M14.ga M14.g M14.gc, .bool y2.cl] W15 := by rw [← hW15]; exact BoxL.new w14 [.int .i64 y2.cp, .int .i64 y2.se, .slice M14.ia M14.i M14.ic, .int .i64 y2.nx, .slice M14.sa M14.s M14.sc, .slice M14.la M14.l M14.lc, .slice M14.ga M14.g M14.gc, .bool y2.cl] _
    have bW15 : Below w14.heap.size w14 W15 := by rw [← hW15]; exact bl_alloc (Below.refl _ _) _
    rw [hW15]
    have HY2 := hidOf (show BRv w14.heap.size M14 y2 W15 from ⟨xW15, HR14.out.keep bW15⟩)
    replace HX := hidOf (HX.out.keep bW15)
    replace HY := hidOf (HY.out.keep bW15)
    replace HQ := hidOf (HQ.out.keep bW15)
    replace HG := hidOf (HG.out.keep bW15)
    replace HB := hidOf (bl_trans HB.out bW15)
    replace HT3 := hidOf (HT3.out.keep bW15)
    replace HT5 := hidOf (HT5.out.keep bW15)
    replace HT14 := hidOf (HT14.out.keep bW15)
    generalize w14.heap.size = N15 at HY2 ⊢
    clear hW15 xW15 bW15 HR14
    have HP2 := hidOf (fun (u : World) (hI : RIn u M14 y2) (hg : GOk u) => implPull_any M14 y2 z ((m - ct : Nat) : Int) u hI ((ok_le HOk.out hI).mono (by omega)) HC14.out (ok_wf HOk.out) HZ.out hg)
    rw [HT1.out] at HP2
    obtain ⟨l2, hl2⟩ : ∃ l, pulT y2 z ((m - ct : Nat) : Int) = l := ⟨_, rfl⟩
    have ht2 := HT2.out
    rw [hl2] at HP2 ht2
    have HLl2 := hidOf (show l2.length ≤ 2097152 by rw [← hl2]; exact pulT_len y2 z _)
    have HCat := hidOf ht2
    obtain ⟨p0, p1, p2, p3, p4, p5, p6, p7⟩ := box8 HY2.out.box
    clear hl2 ht2 HT1 HT2
    go_wp2_with fail
    refine (HP2.out _ HY2.out.rin HG.out).mono ?_
    rintro e w16 ⟨M16, a16, n16, c16, rfl, hr16, hl16, ho16, _, hb16⟩
    have HR16 := hidOf hr16.own.rin
    have HL16 := hidOf hl16
    have HT16 := hidOf (td_of_row ho16)
    replace HX := hidOf (HX.out.keep hb16)
    replace HY := hidOf (HY.out.keep hb16)
    replace HQ := hidOf (HQ.out.keep hb16)
    replace HG := hidOf (HG.out.keep hb16)
    replace HB := hidOf (bl_trans HB.out hb16)
    replace HT3 := hidOf (HT3.out.keep hb16)
    replace HT5 := hidOf (HT5.out.keep hb16)
    replace HT14 := hidOf (HT14.out.keep hb16)
    clear hr16 hl16 ho16 hb16 HP2 p0 p1 p2 p3 p4 p5 p6 p7
    go_upto_region 22 with fail
    obtain ⟨W17, hW17⟩ : ∃ W, w16.alloc (.cells #[.int .i64 y.cp, .int .i64 y.se, .slice M16.ia M16.i M16.ic, .int .i64 y.nx, .slice M16.sa M16.s M16.sc, .slice M16.la M16.l M16.lc, .slice M16.ga M16.g M16.gc, .bool y.cl] 28) = W := ⟨_, rfl⟩
    have xW17 : BoxL w16.heap.size [.int .i64 y.cp, .int .i64 y.se, .slice M16.ia M16.i M16.ic, .int .i64 y.nx, .slice M16.sa M16.s M16.sc, .slice M16.la M16.l M16.lc, .slice M16.ga M16.g M16.gc, .bool y.cl] W17 := by rw [← hW17]; exact BoxL.new w16 [.int .i64 y.cp, .int .i64 y.se, .slice M16.ia M16.i M16.ic, .int .i64 y.nx, .slice M16.sa M16.s M16.sc, .slice M16.la M16.l M16.lc, .slice M16.ga M16.g M16.gc, .bool y.cl] _
    have bW17 : Below w16.heap.size w16 W17 := by rw [← hW17]; exact bl_alloc (Below.refl _ _) _
    rw [hW17]
    have HZ2 := hidOf (show BRv w16.heap.size M16 y W17 from ⟨xW17, HR16.out.keep bW17⟩)
    replace HX := hidOf (HX.out.keep bW17)
    replace HY := hidOf (HY.out.keep bW17)
    replace HQ := hidOf (HQ.out.keep bW17)
    replace HG := hidOf (HG.out.keep bW17)
    replace HB := hidOf (bl_trans HB.out bW17)
    replace HT3 := hidOf (HT3.out.keep bW17)
    replace HT5 := hidOf (HT5.out.keep bW17)
    replace HT14 := hidOf (HT14.out.keep bW17)
    replace HT16 := hidOf (HT16.out.keep bW17)
    generalize w16.heap.size = N17 at HZ2 ⊢
    clear hW17 xW17 bW17 HR16
    have hE := empty_row W17
    obtain ⟨W18, hW18⟩ : ∃ W, W17.alloc (.cells #[] 53) = W := ⟨_, rfl⟩
    have b18 : Below W17.heap.size W17 W18 := by rw [← hW18]; exact bl_alloc (Below.refl _ _) _
    rw [hW18] at hE
    have hn14 : n14 ≤ 2097152 := by rw [← HT14.out.len]; exact HLl.out
    have hn16 : n16 ≤ 2097152 := by rw [← HT16.out.len]; exact HLl2.out
    obtain ⟨a18, c18, w18, hr18, ho18, hg18, _⟩ := append_tds W17.heap.size 0 _ [] a14 n14 c14 l1 W18 hE b18.size (HT14.out.keep b18) (by omega)
    rw [Nat.zero_add, List.nil_append] at ho18
    rw [Nat.zero_add] at hr18
    have b19 : Below W17.heap.size W17 w18 := b18.grown hg18 b18.size fun q e => by
     have e' : W17.heap.size = q := by simpa [Value.ownBlock] using e
     omega
    obtain ⟨a19, c19, w19, hr19, ho19, hg19, _⟩ := append_tds W17.heap.size n14 _ l1 a16 n16 c16 l2 w18 ho18 b19.size (HT16.out.keep b19) (by omega)
    have b20 : Below W17.heap.size W17 w19 := b19.grown hg19 b19.size fun q e => (row_lt ho18 e).1
    rw [HCat.out] at ho19
    have HT19 := hidOf (td_of_row ho19)
    replace HX := hidOf (HX.out.keep b20)
    replace HY := hidOf (HY.out.keep b20)
    replace HQ := hidOf (HQ.out.keep b20)
    replace HG := hidOf (HG.out.keep b20)
    replace HB := hidOf (bl_trans HB.out b20)
    replace HT3 := hidOf (HT3.out.keep b20)
    replace HT5 := hidOf (HT5.out.keep b20)
    replace HZ2 := hidOf (HZ2.out.keep b20)
    obtain ⟨p0, p1, p2, p3, p4, p5, p6, p7⟩ := box8 HZ2.out.box
    obtain ⟨q0, q1, q2, q3, q4, q5, q6, q7⟩ := box8 HQ.out.box
    have HSt := hidOf (sameTold_any a19 a5 (n14 + n16) n5 c19 c5 td w19 HT19.out HT5.out (by rw [← HT19.out.len]; exact HLt.out))
    clear hE b18 b19 b20 hg18 hg19 ho18 ho19 hn14 hn16 HT14 HT16 HT3
    subst hW18
    go_wp2_with (at_builtin; first | refine wpList_append_run rfl _ _ 48 rfl _ _ _ rfl rfl hr18 ?_ | refine wpList_append_run rfl _ _ 48 rfl _ _ _ rfl rfl hr19 ?_)
    refine (HSt.out).mono ?_
    rintro e w20 ⟨rfl, hb20⟩
    replace HY := hidOf (HY.out.keep hb20)
    replace HQ := hidOf (HQ.out.keep hb20)
    replace HB := hidOf (bl_trans HB.out hb20)
    replace HZ2 := hidOf (HZ2.out.keep hb20)
    clear hb20 HSt p0 p1 p2 p3 p4 p5 p6 p7 q0 q1 q2 q3 q4 q5 q6 q7 hr18 hr19
    obtain ⟨p0, p1, p2, p3, p4, p5, p6, p7⟩ := box8 HZ2.out.box
    obtain ⟨q0, q1, q2, q3, q4, q5, q6, q7⟩ := box8 HQ.out.box
    go_wp2_with fail
    refine (ringSame_any M16 M5 y _ HZ2.out.rin HQ.out.rin HL16.out HL5.out).mono ?_
    rintro e w21 ⟨rfl, hb21⟩
    replace HB := hidOf (bl_trans HB.out hb21)
    clear hb21 p0 p1 p2 p3 p4 p5 p6 p7 q0 q1 q2 q3 q4 q5 q6 q7
    go_wp2
    go_ret
    exact ⟨rfl, HB.out⟩
end Go.Proofs.YtdboaoejlkkoeaaGreat
