/-
  The specification's MergeOk.
-/
import Derived.Test.YtffpecdjfcgadaaGreatDoorZTm22
import Derived.Test.YtffpecdjfcgadaaGreatDoorZTm17
import Derived.Test.YtffpecdjfcgadaaGreatDoorZTm3
namespace Go.Proofs.YtffpecdjfcgadaaGreatDoor
open Go.RowKit Pl Il Tn

theorem l1InG_any (x a b : Int) (w : World) : Calls Tryz.prog 15 #[.int .i64 x, .int .i64 a, .int .i64 b] w fun e w' => e = .returned (.bool (decide (a ≤ x ∧ x ≤ b))) ∧ w' = w := by
  by_cases h1 : a ≤ x
  · by_cases h2 : x ≤ b
    all_goals
      go_enter Tryz.func15, Tryz.ntmps15
      go_wp2
      go_ret
      exact ⟨by simp [h1, h2], rfl⟩
  · go_enter Tryz.func15, Tryz.ntmps15
    go_wp2
    go_ret
    refine ⟨?_, rfl⟩
    have h2 : decide (a ≤ x) = false := by simp only [decide_eq_false_iff_not]; omega
    simp only [h2, Bool.false_and]
    rfl
theorem box4g {N : Nat} {a0 a1 a2 a3 : Value} {w : World} (h : BoxL N [a0, a1, a2, a3] w) : w.cell? ⟨N, 0, none⟩ = some a0 ∧ w.cell? ⟨N, 1, none⟩ = some a1 ∧ w.cell? ⟨N, 2, none⟩ = some a2 ∧ w.cell? ⟨N, 3, none⟩ = some a3 := ⟨h.cs 0 (by simp), h.cs 1 (by simp), h.cs 2 (by simp), h.cs 3 (by simp)⟩
theorem box8g {N : Nat} {a0 a1 a2 a3 a4 a5 a6 a7 : Value} {w : World} (h : BoxL N [a0, a1, a2, a3, a4, a5, a6, a7] w) : w.cell? ⟨N, 0, none⟩ = some a0 ∧ w.cell? ⟨N, 1, none⟩ = some a1 ∧ w.cell? ⟨N, 2, none⟩ = some a2 ∧ w.cell? ⟨N, 3, none⟩ = some a3 ∧ w.cell? ⟨N, 4, none⟩ = some a4 ∧ w.cell? ⟨N, 5, none⟩ = some a5 ∧ w.cell? ⟨N, 6, none⟩ = some a6 ∧ w.cell? ⟨N, 7, none⟩ = some a7 := ⟨h.cs 0 (by simp), h.cs 1 (by simp), h.cs 2 (by simp), h.cs 3 (by simp), h.cs 4 (by simp), h.cs 5 (by simp), h.cs 6 (by simp), h.cs 7 (by simp)⟩
theorem box3g {N : Nat} {a0 a1 a2 : Value} {w : World} (h : BoxL N [a0, a1, a2] w) : w.cell? ⟨N, 0, none⟩ = some a0 ∧ w.cell? ⟨N, 1, none⟩ = some a1 ∧ w.cell? ⟨N, 2, none⟩ = some a2 := ⟨h.cs 0 (by simp), h.cs 1 (by simp), h.cs 2 (by simp)⟩
set_option maxRecDepth 100000 in
set_option maxHeartbeats 8000000 in
theorem l12LegOk_any (a : Option Addr) (n c : Nat) (xs : List Ta) (la : Option Addr) (ln lc : Nat) (ls : List Lg) (io mv : Int) (i : Nat) (w : World) (hI : TopAt w a n xs) (hW : TWf xs) (hn : n ≤ 1048576) (hL : LegAt w la ln ls) (hln : ln ≤ 1048576) (hi : i < ln) :
    Calls Tryz.prog 16 #[.slice a n c, .agg #[.slice la ln lc, .int .i64 io, .int .i64 mv], .int .i64 (i : Int)] w fun e w' => e = .returned (.bool (legB xs ls io i)) ∧ Below w.heap.size w w' := by
  obtain hr | ⟨b, off, rfl, hb, hcell⟩ := hL.row
  · omega
  obtain ⟨x, hx⟩ : ∃ x, lgg ls i = x := ⟨_, rfl⟩
  have hci := hcell i hi
  rw [hx] at hci
  have bm := bl_alloc (Below.refl w.heap.size w) (.cells #[.slice (some ⟨b, off, none⟩) ln lc, .int .i64 io, .int .i64 mv] 33)
  obtain ⟨c0, c1, c2, c3⟩ := hci.below bm hb
  obtain ⟨W0, hW0⟩ : ∃ W, W = (w.alloc (.cells #[.slice (some ⟨b, off, none⟩) ln lc, .int .i64 io, .int .i64 mv] 33)).alloc (.cells #[.int .i64 x.tp, .int .i64 x.id, .int .i64 x.lo, .bool x.ov] 59) := ⟨_, rfl⟩
  have b0 : Below w.heap.size w W0 := by rw [hW0]; exact bl_alloc (bl_alloc (Below.refl _ _) _) _
  have A0 : BoxL w.heap.size [.slice (some ⟨b, off, none⟩) ln lc, .int .i64 io, .int .i64 mv] W0 := by rw [hW0]; exact (BoxL.new w [.slice (some ⟨b, off, none⟩) ln lc, .int .i64 io, .int .i64 mv] _).alloc _
  have G0 : BoxL (w.heap.size + 1) (lC x) W0 := by
    rw [hW0]
    simpa using BoxL.new (w.alloc (.cells #[.slice (some ⟨b, off, none⟩) ln lc, .int .i64 io, .int .i64 mv] 33)) (lC x) 59
  have HTl := hidOf hI.len
  have HI := hidOf hI
  have HW := hidOf hW
  have HN := hidOf hn
  have HCl := hidOf (fun (k : Nat) (hk : k < ln) (u : World) (hu : Below w.heap.size w u) => (hcell k hk).below hu hb)
  have HX := hidOf hx
  have HB0 := hidOf b0
  have hii : (0 : Int) ≤ (i : Int) ∧ (i : Int) < (ln : Int) := by omega
  have hwn : IntKind.i64.wrap ((n : Int) - 1) = (n : Int) - 1 := by rw [IntKind.wrap_i64]; omega
  have HLn := hidOf hln
  obtain ⟨p0, p1, p2⟩ := box3g A0
  obtain ⟨g0, g1, g2, g3⟩ := box4g G0
  clear hI hW hn hL hcell hx hci bm b0 hln
  go_enter Tryz.func16, Tryz.ntmps16
  go_upto_region 2 with fail
  rw [← hW0]
  clear hW0 c0 c1 c2 c3
  obtain ⟨NG, hNG⟩ : ∃ N, w.heap.size + 1 = N := ⟨_, rfl⟩
  rw [hNG] at g0 g1 g2 g3 G0 ⊢
  clear hNG
  obtain ⟨q1, hq1⟩ : ∃ q, decide ((0 : Int) ≤ x.tp ∧ x.tp ≤ (n : Int) - 1) = q := ⟨_, rfl⟩
  have HQ1 := hidOf hq1
  have h1 := l1InG_any x.tp 0 ((n : Int) - 1) W0
  rw [hq1] at h1
  have H1 := hidOf h1
  clear h1 hq1
  go_wp2_with fail
  refine (H1.out).mono ?_
  rintro e w1 ⟨rfl, rfl⟩
  clear H1
  cases q1
  · have HE := hidOf (show legB xs ls io i = false by
      have hq := HQ1.out
      rw [decide_eq_false_iff_not] at hq
      unfold legB
      rw [HX.out, decide_eq_false (show ¬ legN xs io x from fun h => hq ⟨h.1.1, by have := h.1.2; have := HTl.out; omega⟩), Bool.false_and])
    go_wp2_with fail
    go_ret
    exact ⟨rbool HE.out.symm, HB0.out⟩
  by_cases hio : x.tp = io
  · have HE := hidOf (show legB xs ls io i = false by
      unfold legB
      rw [HX.out, decide_eq_false (show ¬ legN xs io x from fun h => h.2.1 hio), Bool.false_and])
    have e1 : (x.tp == io) = true := by simp [hio]
    clear hio
    go_wp2_with fail
    go_ret
    exact ⟨rbool HE.out.symm, HB0.out⟩
  have e1 : (x.tp == io) = false := by simp [hio]
  have HIo := hidOf hio
  obtain ⟨q2, hq2⟩ : ∃ q, decide ((0 : Int) ≤ x.lo ∧ x.lo ≤ 1000000000) = q := ⟨_, rfl⟩
  have HQ2 := hidOf hq2
  have h2 := l1InG_any x.lo 0 1000000000 w1
  rw [hq2] at h2
  have H2 := hidOf h2
  clear h2 hq2 hio
  go_wp2_with fail
  refine (H2.out).mono ?_
  rintro e w2 ⟨rfl, rfl⟩
  clear H2
  cases q2
  · have HE := hidOf (show legB xs ls io i = false by
      have hq := HQ2.out
      rw [decide_eq_false_iff_not] at hq
      unfold legB
      rw [HX.out, decide_eq_false (show ¬ legN xs io x from fun h => hq h.2.2), Bool.false_and])
    go_wp2_with fail
    go_ret
    exact ⟨rbool HE.out.symm, HB0.out⟩
  have HNm := hidOf (show legN xs io x from ⟨by have hq := HQ1.out; rw [decide_eq_true_eq] at hq; have := HTl.out; omega, HIo.out, by have hq := HQ2.out; rw [decide_eq_true_eq] at hq; exact hq⟩)
  go_wp2_with fail
  clear e1 hwn HQ1 HQ2 HIo
  have HA := hidOf A0
  have HG := hidOf G0
  have hwb := A0.lt
  clear p0 p1 p2 g0 g1 g2 g3
  go_loopw [8] (fun k wr => ∃ j : Nat, j ≤ i ∧ k = .int .i64 (j : Int) ∧ (∀ r, r < j → ¬ (lgg ls r).tp = x.tp) ∧ Below w2.heap.size w2 wr) (fun k _ => i - (intOf k).toNat)
  case atStart => exact ⟨0, Nat.zero_le _, rfl, fun r hr => by omega, Below.refl _ _⟩
  case round =>
    rename World => wr
    obtain ⟨j, hj, rfl, hno, hbr⟩ := hrel
    have HNo := hidOf hno
    have HBr := hidOf hbr
    have HA := hidOf (HA.out.keep hbr)
    have HG := hidOf (HG.out.keep hbr)
    have HB0 := hidOf (bl_trans HB0.out hbr)
    clear hno hbr
    obtain ⟨p0, p1, p2⟩ := box3g HA.out
    obtain ⟨g0, g1, g2, g3⟩ := box4g HG.out
    by_cases hlt : j < i
    · have hji : (0 : Int) ≤ (j : Int) ∧ (j : Int) < (i : Int) ∧ (j : Int) < (ln : Int) ∧ (ln : Int) ≤ 1048576 := by have := HLn.out; omega
      obtain ⟨c0, c1, c2, c3⟩ := HCl.out j (by omega) _ HB0.out
      obtain ⟨y, hy⟩ : ∃ y, lgg ls j = y := ⟨_, rfl⟩
      rw [hy] at c0 c1 c2 c3
      have HY := hidOf hy
      clear hy
      by_cases he : y.tp = x.tp
      · have e1 : (y.tp == x.tp) = true := by simp [he]
        have HE := hidOf (show legB xs ls io i = false by
          unfold legB
          rw [HX.out, decide_eq_false (show ¬ ∀ k, k < i → ¬ (lgg ls k).tp = x.tp from fun h => h j hlt (by rw [HY.out]; exact he)), Bool.false_and, Bool.and_false])
        clear he
        go_wp2_with fail
        go_region
        go_wp2_with fail
        go_ret
        exact ⟨rbool HE.out.symm, bl_trans HB0.out (Below.refl _ _).drew⟩
      · have e1 : (y.tp == x.tp) = false := by simp [he]
        have HN2 := hidOf he
        clear he
        go_wp2_with fail
        go_region
        go_wp2_with fail
        go_roundw
        case rel => exact ⟨j + 1, hlt, by go_num, fun r hr => (by
          by_cases e : r = j
          · rw [e, HY.out]; exact HN2.out
          · exact HNo.out r (by omega)), bl_trans HBr.out (Below.refl _ _).drew⟩
        case measure => simp [intOf]; omega
    · obtain rfl : j = i := by omega
      have HLB := hidOf (show legB xs ls io j = legR xs x by
        unfold legB
        rw [HX.out, decide_eq_true HNm.out, decide_eq_true (show ∀ k, k < j → ¬ (lgg ls k).tp = x.tp from HNo.out), Bool.true_and, Bool.true_and])
      obtain ⟨tp, htp⟩ : ∃ t : Nat, x.tp = (t : Int) := ⟨x.tp.toNat, by have := HNm.out.1.1; omega⟩
      have htn : tp < n := by have := HNm.out.1.2; have := HTl.out; omega
      obtain hr | ⟨tb, toff, rfl, htb, htc⟩ := (HI.out.keep HB0.out).row
      · omega
      have hmem : tg xs tp ∈ xs := tg_mem (by have := HTl.out; omega)
      obtain ⟨t, ht⟩ : ∃ t, tg xs tp = t := ⟨_, rfl⟩
      have hct := htc tp htn
      rw [ht] at hct hmem
      have HLR := hidOf (show legR xs x = (x.ov || (decide (0 ≤ atR t.v.sb x.id) && (!hasL t.v.ln x.id && !hasL t.v.gs x.id))) by
        unfold legR
        rw [htp, show ((tp : Int)).toNat = tp by omega, ht])
      obtain ⟨c0, c1, c2, c3, c4, c5, c6, c7, c8⟩ := hct
      have htpi : (0 : Int) ≤ (tp : Int) ∧ (tp : Int) < (n : Int) := by omega
      rw [htp] at g0
      obtain ⟨W3, hW3⟩ : ∃ W, W = wr.alloc (.cells #[.int .i64 t.v.cp, .int .i64 t.v.se, .slice t.M.ia t.M.i t.M.ic, .int .i64 t.v.nx, .slice t.M.sa t.M.s t.M.sc, .slice t.M.la t.M.l t.M.lc, .slice t.M.ga t.M.g t.M.gc, .bool t.v.cl] 53) := ⟨_, rfl⟩
      have b3 : Below wr.heap.size wr W3 := by rw [hW3]; exact bl_alloc (Below.refl _ _) _
      have R3 : BoxL wr.heap.size (rC t.M t.v) W3 := by rw [hW3]; exact BoxL.new wr (rC t.M t.v) _
      have G3 := HG.out.keep b3
      have B3 := bl_trans HB0.out b3
      have HIt := hidOf (fun (u : World) (hu : Below w.heap.size w u) => (HI.out.rin t hmem).keep hu)
      have HLt := hidOf ((HW.out.le t hmem).mono (k' := 2097152) (by omega))
      have HB3 := hidOf B3
      clear HNm HNo htp htn ht hmem htc B3
      go_upto_region 10 with fail
      rw [← hW3]
      clear hW3 p0 p1 p2 g0 g1 g2 g3 c0 c1 c2 c3 c4 c5 c6 c7 c8 b3 HA HG HBr
      generalize wr.heap.size = NR at R3 ⊢
      have HR3 := hidOf R3
      have HG3 := hidOf G3
      have HAt := hidOf (l9At_any t.M t.v x.id W3 (HIt.out _ HB3.out) HLt.out)
      obtain ⟨at', hat⟩ : ∃ z, atR t.v.sb x.id = z := ⟨_, rfl⟩
      obtain ⟨hl, hhl⟩ : ∃ z, hasL t.v.ln x.id = z := ⟨_, rfl⟩
      obtain ⟨hg, hhg⟩ : ∃ z, hasL t.v.gs x.id = z := ⟨_, rfl⟩
      obtain ⟨ov, hov⟩ : ∃ z, x.ov = z := ⟨_, rfl⟩
      have HLR2 := hidOf (show legB xs ls io j = (ov || (decide (0 ≤ at') && (!hl && !hg))) by rw [HLB.out, HLR.out, hat, hhl, hhg, hov])
      have HL1 := hidOf (fun (u : World) (hu : Below w.heap.size w u) => l2Has_any t.M.la t.M.l t.M.lc t.v.ln x.id u (HIt.out u hu).ln HLt.out.l)
      have HL2 := hidOf (fun (u : World) (hu : Below w.heap.size w u) => l2Has_any t.M.ga t.M.g t.M.gc t.v.gs x.id u (HIt.out u hu).gs HLt.out.g)
      rw [hat] at HAt
      rw [hhl] at HL1
      rw [hhg] at HL2
      obtain ⟨g0, g1, g2, g3⟩ := box4g G3
      rw [hov] at g3
      clear HLB HLR hat hhl hhg hov G3 R3
      cases ov
      · obtain ⟨r0, r1, r2, r3, r4, r5, r6, r7⟩ := box8g HR3.out
        go_wp2_with fail
        refine (HAt.out).mono ?_
        rintro e w4 ⟨rfl, hb4⟩
        have HB4 := hidOf (bl_trans HB3.out hb4)
        have HR4 := hidOf (HR3.out.keep hb4)
        have HG4 := hidOf (HG3.out.keep hb4)
        clear HAt hb4 HR3 HG3 r0 r1 r2 r3 r4 r5 r6 r7 g0 g1 g2 g3
        obtain ⟨r0, r1, r2, r3, r4, r5, r6, r7⟩ := box8g HR4.out
        obtain ⟨g0, g1, g2, g3⟩ := box4g HG4.out
        by_cases hneg : at' < 0
        · have HE := hidOf (show legB xs ls io j = false by rw [HLR2.out, decide_eq_false (by omega)]; rfl)
          have e2 : ¬ 0 ≤ at' := by omega
          have e3 : decide (0 ≤ at') = false := by simpa using hneg
          clear hneg
          go_wp2_with fail
          go_ret
          exact ⟨rbool HE.out.symm, HB4.out⟩
        have e2 : 0 ≤ at' := by omega
        have e3 : decide (0 ≤ at') = true := by simp; omega
        have HE3 := hidOf e3
        clear hneg
        go_wp2_with fail
        refine (HL1.out _ HB4.out).mono ?_
        rintro e w5 ⟨rfl, hw5⟩
        obtain rfl : w4 = w5 := hw5.symm
        clear HL1
        cases hl
        · go_wp2_with fail
          refine (HL2.out _ HB4.out).mono ?_
          rintro e w6 ⟨rfl, hw6⟩
          obtain rfl : w4 = w6 := hw6.symm
          clear r0 r1 r2 r3 r4 r5 r6 r7 g0 g1 g2 g3
          have HE := hidOf (show legB xs ls io j = !hg by rw [HLR2.out, HE3.out]; rfl)
          cases hg
          · go_wp2_with fail
            go_ret
            exact ⟨rbool HE.out.symm, HB4.out⟩
          · go_wp2_with fail
            go_ret
            exact ⟨rbool HE.out.symm, HB4.out⟩
        · have HE := hidOf (show legB xs ls io j = false by rw [HLR2.out, HE3.out]; rfl)
          go_wp2_with fail
          go_ret
          exact ⟨rbool HE.out.symm, HB4.out⟩
      · have HE := hidOf (show legB xs ls io j = true by rw [HLR2.out]; rfl)
        go_wp2_with fail
        go_ret
        exact ⟨rbool HE.out.symm, HB3.out⟩
set_option maxRecDepth 100000 in
set_option maxHeartbeats 8000000 in
theorem specMergeOk_any (a : Option Addr) (n c : Nat) (xs : List Ta) (la : Option Addr) (ln lc : Nat) (ls : List Lg) (io mv : Int) (w : World) (hI : TopAt w a n xs) (hW : TWf xs) (hn : n ≤ 1048576) (hL : LegAt w la ln ls) (hln : ln ≤ 1048576) :
    Calls Tryz.prog 6 #[.slice a n c, .agg #[.slice la ln lc, .int .i64 io, .int .i64 mv]] w fun e w' => e = .returned (.bool (okMg xs ls io mv)) ∧ Below w.heap.size w w' := by
  obtain ⟨W0, hW0⟩ : ∃ W, W = w.alloc (.cells #[.slice la ln lc, .int .i64 io, .int .i64 mv] 33) := ⟨_, rfl⟩
  have b0 : Below w.heap.size w W0 := by rw [hW0]; exact bl_alloc (Below.refl _ _) _
  have A0 : BoxL w.heap.size [.slice la ln lc, .int .i64 io, .int .i64 mv] W0 := by rw [hW0]; exact BoxL.new w [.slice la ln lc, .int .i64 io, .int .i64 mv] _
  have HT := hidOf (specTopics_any a n c xs W0 (hI.keep b0) hW hn)
  have HLg := hidOf (fun (i : Nat) (hi : i < ln) (u : World) (hu : Below w.heap.size w u) => l12LegOk_any a n c xs la ln lc ls io mv i u (hI.keep hu) hW hn (hL.keep hu) hln hi)
  have HXl := hidOf hI.len
  have HLl := hidOf hL.len
  have HA0 := hidOf A0
  have HB0 := hidOf b0
  have HLn := hidOf hln
  have hwn : IntKind.i64.wrap ((n : Int) - 1) = (n : Int) - 1 := by rw [IntKind.wrap_i64]; omega
  obtain ⟨q, hq⟩ : ∃ q, okTs xs = q := ⟨_, rfl⟩
  rw [hq] at HT
  have HQ := hidOf hq
  clear hI hW hn hL hln b0 A0 hq
  go_enter Tryz.func6, Tryz.ntmps6
  go_upto_region 1 with fail
  rw [← hW0]
  clear hW0
  go_wp2_with fail
  refine (HT.out).mono ?_
  rintro e w1 ⟨rfl, hb1⟩
  have HB1 := hidOf (bl_trans HB0.out hb1)
  have HA1 := hidOf (HA0.out.keep hb1)
  clear HT hb1 HB0 HA0
  cases q
  · have HE := hidOf (okMg_top (ls := ls) (io := io) (mv := mv) HQ.out)
    go_wp2_with fail
    go_ret
    exact ⟨rbool HE.out.symm, HB1.out⟩
  obtain ⟨p0, p1, p2⟩ := box3g HA1.out
  obtain ⟨q1, hq1⟩ : ∃ q, decide ((1 : Int) ≤ (ln : Int) ∧ (ln : Int) ≤ 6) = q := ⟨_, rfl⟩
  obtain ⟨q2, hq2⟩ : ∃ q, decide ((0 : Int) ≤ io ∧ io ≤ (n : Int) - 1) = q := ⟨_, rfl⟩
  obtain ⟨q3, hq3⟩ : ∃ q, decide ((0 : Int) ≤ mv ∧ mv ≤ 1000000000) = q := ⟨_, rfl⟩
  have h1 := l1InG_any (ln : Int) 1 6 w1
  have h2 := l1InG_any io 0 ((n : Int) - 1) w1
  have h3 := l1InG_any mv 0 1000000000 w1
  rw [hq1] at h1
  rw [hq2] at h2
  rw [hq3] at h3
  have H1 := hidOf h1
  have H2 := hidOf h2
  have H3 := hidOf h3
  have HD := hidOf (And.intro hq1 (And.intro hq2 hq3))
  clear h1 h2 h3 hq1 hq2 hq3
  go_wp2_with fail
  refine (H1.out).mono ?_
  rintro e w2 ⟨rfl, hw2⟩
  obtain rfl : w1 = w2 := hw2.symm
  clear H1
  cases q1
  · have HE := hidOf (okMg_head (xs := xs) (ls := ls) (io := io) (mv := mv) (fun h => by have hd := HD.out.1; rw [decide_eq_false_iff_not] at hd; have := HLl.out; have := h.1; omega))
    go_wp2_with fail
    go_ret
    exact ⟨rbool HE.out.symm, HB1.out⟩
  go_wp2_with fail
  refine (H2.out).mono ?_
  rintro e w2 ⟨rfl, hw2⟩
  obtain rfl : w1 = w2 := hw2.symm
  clear H2
  cases q2
  · have HE := hidOf (okMg_head (xs := xs) (ls := ls) (io := io) (mv := mv) (fun h => by have hd := HD.out.2.1; rw [decide_eq_false_iff_not] at hd; have := HXl.out; have := h.2.1; omega))
    go_wp2_with fail
    go_ret
    exact ⟨rbool HE.out.symm, HB1.out⟩
  go_wp2_with fail
  refine (H3.out).mono ?_
  rintro e w2 ⟨rfl, hw2⟩
  obtain rfl : w1 = w2 := hw2.symm
  clear H3
  cases q3
  · have HE := hidOf (okMg_head (xs := xs) (ls := ls) (io := io) (mv := mv) (fun h => by have hd := HD.out.2.2; rw [decide_eq_false_iff_not] at hd; exact hd h.2.2))
    go_wp2_with fail
    go_ret
    exact ⟨rbool HE.out.symm, HB1.out⟩
  have HHd := hidOf (show headM xs ls io mv from by
    obtain ⟨d1, d2, d3⟩ := HD.out
    rw [decide_eq_true_eq] at d1 d2 d3
    have := HLl.out
    have := HXl.out
    exact ⟨by omega, by omega, d3⟩)
  clear HD
  go_wp2_with fail
  clear p0 p1 p2 hwn
  go_loopw [5] (fun k wr => ∃ j : Nat, j ≤ ln ∧ k = .int .i64 (j : Int) ∧ legsTo xs ls io j ∧ Below w1.heap.size w1 wr) (fun k _ => ln - (intOf k).toNat)
  case atStart => exact ⟨0, Nat.zero_le _, rfl, fun r hr => by omega, Below.refl _ _⟩
  case round =>
    rename World => wr
    obtain ⟨j, hj, rfl, hto, hbr⟩ := hrel
    have HTo := hidOf hto
    have HBr := hidOf hbr
    have HA := hidOf (HA1.out.keep hbr)
    have HB := hidOf (bl_trans HB1.out hbr)
    clear hto hbr
    obtain ⟨p0, p1, p2⟩ := box3g HA.out
    by_cases hlt : j < ln
    · have hji : (0 : Int) ≤ (j : Int) ∧ (j : Int) < (ln : Int) ∧ (ln : Int) ≤ 1048576 := by have := HLn.out; omega
      have HC := hidOf (HLg.out j hlt wr HB.out)
      obtain ⟨q, hq⟩ : ∃ q, legB xs ls io j = q := ⟨_, rfl⟩
      rw [hq] at HC
      have HQ2 := hidOf hq
      clear hq
      go_wp2_with fail
      refine (HC.out).mono ?_
      rintro e w3 ⟨rfl, hb3⟩
      have HB3 := hidOf (bl_trans HB.out hb3)
      have HBr3 := hidOf (bl_trans HBr.out hb3)
      clear HC hb3 p0 p1 p2
      cases q
      · have HE := hidOf (okMg_leg (xs := xs) (ls := ls) (io := io) (mv := mv) (i := j) (by rw [HLl.out]; exact hlt) HQ2.out)
        go_wp2_with fail
        go_ret
        exact ⟨rbool HE.out.symm, HB3.out⟩
      · go_wp2_with fail
        go_roundw
        case rel => exact ⟨j + 1, hlt, by go_num, legsTo_step HTo.out HQ2.out, HBr3.out⟩
        case measure => simp [intOf]; omega
    · obtain rfl : j = ln := by omega
      have HE := hidOf (okMg_all HQ.out HHd.out (by rw [HLl.out]; exact HTo.out))
      have hji : ¬ (j : Int) < (j : Int) := by omega
      go_wp2_with fail
      go_ret
      exact ⟨rbool HE.out.symm, HB.out⟩
end Go.Proofs.YtffpecdjfcgadaaGreatDoor
