/-
  The program's MergeOk.
-/
import Derived.Test.YtffpecdjfcgadaaGreatDoorZTm37
import Derived.Test.YtffpecdjfcgadaaGreatDoorZTm24
namespace Go.Proofs.YtffpecdjfcgadaaGreatDoor
open Go.RowKit Go.Maps Pl Il Tn

set_option maxRecDepth 100000 in
set_option maxHeartbeats 8000000 in
theorem crossing_any (a : Option Addr) (n c : Nat) (fa : Option Addr) (fn fc : Nat) (fr : List Int) (io : Int) (w : World) (hF : IntsAt w fa fn fr) (hfn : fn ≤ 1048576) (hw : wfL fr) (hio : (Lit.int .i64 io).wf = true) :
    Calls Tryz.prog 20 #[.slice a n c, .slice fa fn fc, .int .i64 io] w fun e w' => e = .returned (.bool (crossB n fr io)) ∧ Below w.heap.size w w' := by
  have HFl := hidOf hF.len
  by_cases h1 : fn < 1
  · have h1i : (fn : Int) < 1 := by omega
    have HE := hidOf (show crossB n fr io = false by unfold crossB; rw [decide_eq_false (show ¬ (1 ≤ fr.length ∧ fr.length ≤ 6) from fun h => by have := HFl.out; omega)]; rfl)
    clear hF
    go_enter Tryz.func20, Tryz.ntmps20
    go_wp2_with fail
    go_ret
    exact ⟨rbool HE.out.symm, Below.refl _ _⟩
  by_cases h6 : 6 < fn
  · have h1i : ¬ (fn : Int) < 1 := by omega
    have h6i : 6 < (fn : Int) := by omega
    have HE := hidOf (show crossB n fr io = false by unfold crossB; rw [decide_eq_false (show ¬ (1 ≤ fr.length ∧ fr.length ≤ 6) from fun h => by have := HFl.out; omega)]; rfl)
    clear hF
    go_enter Tryz.func20, Tryz.ntmps20
    go_wp2_with fail
    go_ret
    exact ⟨rbool HE.out.symm, Below.refl _ _⟩
  have h1i : ¬ (fn : Int) < 1 := by omega
  have h6i : ¬ 6 < (fn : Int) := by omega
  have HD := hidOf (show decide (1 ≤ fr.length ∧ fr.length ≤ 6) = true by rw [decide_eq_true_eq]; have := HFl.out; omega)
  have HC := hidOf (copied_row fa fn fc fr w hF (by omega))
  have HWf := hidOf hw
  have HIo := hidOf hio
  have HF6 := hidOf (show fn ≤ 6 by omega)
  clear hF hw hio h1 h6 hfn
  go_enter Tryz.func20, Tryz.ntmps20
  go_wp2_with fail
  refine (HC.out).mono ?_
  rintro e w1 ⟨a1, c1, rfl, ho1, hb1⟩
  clear HC
  obtain ⟨g2, c2, w2, hr2, ho2, hg2, _⟩ := append_own1 w.heap.size fn (.slice a1 fn c1) fr io w1 ho1 hb1.size (by have := HF6.out; omega)
  have b2 : Below w.heap.size w w2 := hb1.grown hg2 hb1.size fun q e => (ho1.lt q e).1
  obtain ⟨a2, c2', e2, hO2⟩ := own_of ho2 (fr ++ [io]) rfl
  injection e2 with e2a _ e2c
  subst e2a e2c
  have HIn := hidOf hO2.ints
  have HB2 := hidOf b2
  have Hr2 := hidOf hr2
  have hL1 : (fr ++ [io]).length = fn + 1 := by simp [HFl.out]
  have HL1 := hidOf hL1
  have HWL := hidOf (show wfL (fr ++ [io]) from fun x hx => by
    rcases List.mem_append.1 hx with h | h
    · exact HWf.out x h
    · obtain rfl : x = io := by simpa using h
      exact HIo.out)
  clear hr2 ho1 ho2 hg2 b2 hO2 hb1 hL1
  go_wp2_with (at_builtin; refine wpList_append_run rfl _ _ 41 rfl _ _ _ rfl rfl Hr2.out ?_)
  clear Hr2
  obtain ⟨L, hL⟩ : ∃ L, fr ++ [io] = L := ⟨_, rfl⟩
  rw [hL] at HIn HL1 HWL
  have HL := hidOf hL
  clear hL
  go_loopw [25] (fun i wr => ∃ k : Nat, k ≤ fn + 1 ∧ i = .int .i64 (k : Int) ∧ numsTo n L k ∧ Below w2.heap.size w2 wr) (fun i _ => fn + 1 - (intOf i).toNat)
  case atStart => exact ⟨0, Nat.zero_le _, rfl, fun i hi => by omega, Below.refl _ _⟩
  case round =>
    rename World => wr
    obtain ⟨k, hk, rfl, hto, hbr⟩ := hrel
    have HTo := hidOf hto
    have HBr := hidOf hbr
    have HB := hidOf (bl_trans HB2.out hbr)
    have HIr := hidOf (HIn.out.keep hbr)
    clear hto hbr
    by_cases hlt : k < fn + 1
    · have hki : (0 : Int) ≤ (k : Int) ∧ (k : Int) < (fn : Int) + 1 ∧ (k : Int) < ((fn + 1 : Nat) : Int) ∧ (fn : Int) ≤ 6 := by have := HF6.out; omega
      obtain hr0 | ⟨b, off, e, hb, hcell⟩ := HIr.out.row
      · omega
      injection e with e; injection e with e1 e2; subst e1 e2
      have ck := hcell k hlt
      obtain ⟨x, hx⟩ : ∃ x, L.getD k 0 = x := ⟨_, rfl⟩
      rw [hx, Nat.zero_add] at ck
      have HX := hidOf hx
      have HKl := hidOf (show k < L.length by rw [HL1.out]; exact hlt)
      have HNb := hidOf (numB_at (n := n) HKl.out)
      have HBad := hidOf (show ¬ numB n L k = true → crossB n fr io = false from fun h => by
        unfold crossB
        rw [HL.out, decide_eq_false (show ¬ ∀ i, i < L.length → numB n L i = true from fun q => h (q k HKl.out)), Bool.and_false])
      have HPl := hidOf (implPlaceOf_any (some ⟨g2, 0, none⟩) (fn + 1) c2 L x wr HIr.out (by have := HF6.out; omega) HWL.out (HWL.out x (by
        rw [← hx, List.getD, List.getElem?_eq_getElem HKl.out]
        exact List.getElem_mem HKl.out)))
      obtain ⟨pl, hpl⟩ : ∃ p, placeL L x = p := ⟨_, rfl⟩
      rw [hpl] at HPl
      have HPq := hidOf hpl
      clear hcell hpl hx
      by_cases hx0 : x < 0
      · have HE := hidOf (HBad.out (fun h => by have := (HNb.out.1 h).1.1; rw [HX.out] at this; omega))
        go_wp2_with fail
        go_ret
        exact ⟨rbool HE.out.symm, HB.out⟩
      by_cases hxn : (n : Int) ≤ x
      · have HE := hidOf (HBad.out (fun h => by have := (HNb.out.1 h).1.2; rw [HX.out] at this; omega))
        go_wp2_with fail
        go_ret
        exact ⟨rbool HE.out.symm, HB.out⟩
      have HXr := hidOf (And.intro hx0 hxn)
      go_wp2_with fail
      refine (HPl.out).mono ?_
      rintro e w4 ⟨rfl, hb4⟩
      have HB4 := hidOf (bl_trans HB.out hb4)
      have HBr4 := hidOf (bl_trans HBr.out hb4)
      clear HPl hb4 ck
      by_cases hp : pl < (k : Int)
      · have HE := hidOf (HBad.out (fun h => by have := (HNb.out.1 h).2; rw [HX.out, HPq.out] at this; omega))
        go_wp2_with fail
        go_ret
        exact ⟨rbool HE.out.symm, HB4.out⟩
      · have HOk := hidOf (HNb.out.2 ⟨by rw [HX.out]; have := HXr.out; omega, by rw [HX.out, HPq.out]; omega⟩)
        go_wp2_with fail
        go_roundw
        case rel => exact ⟨k + 1, hlt, by go_num, numsTo_step HTo.out HOk.out, HBr4.out⟩
        case measure => simp [intOf]; omega
    · obtain rfl : k = fn + 1 := by omega
      have HE := hidOf (show crossB n fr io = true by
        unfold crossB
        rw [HD.out, HL.out, decide_eq_true (show ∀ i, i < L.length → numB n L i = true from fun i hi => HTo.out i (by rw [HL1.out] at hi; exact hi))]
        rfl)
      go_wp2_with fail
      go_ret
      exact ⟨rbool HE.out.symm, HB.out⟩
set_option maxRecDepth 100000 in
set_option maxHeartbeats 8000000 in
theorem implMergeOk_any (a : Option Addr) (n c : Nat) (xs : List Ta) (la : Option Addr) (ln lc : Nat) (ls : List Lg) (io mv : Int) (w : World) (hI : TopAt w a n xs) (hW : TWf xs) (hn : n ≤ 1048576) (hL : LegAt w la ln ls) (hln : ln ≤ 1048576) (hx : ∀ x, x ∈ ls → LgWf x) (hio : (Lit.int .i64 io).wf = true) (hg : GOkT w) :
    Calls Tryz.prog 9 #[.slice a n c, .agg #[.slice la ln lc, .int .i64 io, .int .i64 mv]] w fun e w' => e = .returned (.bool (okMg xs ls io mv)) ∧ Below w.heap.size w w' := by
  obtain ⟨W0, hW0⟩ : ∃ W, W = (w.alloc (.cells #[.slice a n c] 29)).alloc (.cells #[.slice la ln lc, .int .i64 io, .int .i64 mv] 33) := ⟨_, rfl⟩
  have b0 : Below w.heap.size w W0 := by rw [hW0]; exact bl_alloc (bl_alloc (Below.refl _ _) _) _
  have X0 : BoxL w.heap.size [.slice a n c] W0 := by rw [hW0]; exact (BoxL.new w [.slice a n c] _).alloc _
  have A0 : BoxL (w.heap.size + 1) [.slice la ln lc, .int .i64 io, .int .i64 mv] W0 := by
    rw [hW0]
    simpa using BoxL.new (w.alloc (.cells #[.slice a n c] 29)) [.slice la ln lc, .int .i64 io, .int .i64 mv] 33
  have HI := hidOf hI
  have HW := hidOf hW
  have HLn := hidOf hln
  have HN := hidOf hn
  have HL := hidOf (hL.keep b0)
  have HLl := hidOf hL.len
  have HXw := hidOf hx
  have HIo := hidOf hio
  have HG := hidOf hg
  have HB0 := hidOf b0
  have HX0 := hidOf X0
  have HA0 := hidOf A0
  have HXl := hidOf hI.len
  have hws : w.heap.size < W0.heap.size := X0.lt
  obtain ⟨p0, p1, p2⟩ := box3g A0
  clear hI hW hn hL hln hx hio hg b0 X0 A0
  go_enter Tryz.func9, Tryz.ntmps9
  go_upto_region 1 with fail
  rw [← hW0]
  clear hW0
  go_wp2_with fail
  clear p0 p1 p2
  go_loopw [5, 11] (fun f i wr => ∃ (k : Nat) (fa : Option Addr) (fc : Nat), k ≤ ln ∧ i = .int .i64 (k : Int) ∧ f = .slice fa k fc ∧ wr.ownsRow W0.heap.size 3 1 (.slice fa k fc) k (((ls.take k).map (·.tp)).map (Value.int .i64)) ∧ Below W0.heap.size W0 wr) (fun _ i _ => ln - (intOf i).toNat)
  case atStart => exact ⟨0, none, 0, Nat.zero_le _, rfl, rfl, World.ownsRow_nil _ _ _ _, Below.refl _ _⟩
  case round =>
    rename World => wr
    obtain ⟨k, fa, fc, hk, rfl, rfl, hrow, hbr⟩ := hrel
    by_cases hlt : k < ln
    · have hki : (0 : Int) ≤ (k : Int) ∧ (k : Int) < (ln : Int) ∧ (ln : Int) ≤ 1048576 := by have := HLn.out; omega
      obtain hr0 | ⟨b, off, rfl, hb, hcell⟩ := (HL.out.keep hbr).row
      · omega
      obtain ⟨c0, c1, c2, c3⟩ := hcell k hlt
      obtain ⟨x, hx⟩ : ∃ x, lgg ls k = x := ⟨_, rfl⟩
      rw [hx] at c0 c1 c2 c3
      have bl := bl_alloc (Below.refl wr.heap.size wr) (.cells #[.int .i64 x.tp, .int .i64 x.id, .int .i64 x.lo, .bool x.ov] 59)
      obtain ⟨g2, fc2, w2, hr2, ho2, hg2, _⟩ := append_own1 W0.heap.size k (.slice fa k fc) ((ls.take k).map (·.tp)) x.tp (wr.alloc (.cells #[.int .i64 x.tp, .int .i64 x.id, .int .i64 x.lo, .bool x.ov] 59)) (ownsRow_keep hrow bl) (Nat.le_trans hbr.size bl.size) (by omega)
      have hb2 : Below W0.heap.size W0 w2 := (bl_trans hbr bl).grown hg2 (bl_trans hbr bl).size fun q e => (hrow.lt q e).1
      have htk : (ls.take k).map (·.tp) ++ [x.tp] = (ls.take (k + 1)).map (·.tp) := by
        have hkl : k < ls.length := by rw [HLl.out]; exact hlt
        rw [List.take_succ_eq_append_getElem hkl, List.map_append]
        rw [lgg_eq hkl] at hx
        rw [hx]; rfl
      rw [htk] at ho2
      have HR := hidOf (And.intro ho2 hb2)
      have hsz : (wr.alloc (.cells #[.int .i64 x.tp, .int .i64 x.id, .int .i64 x.lo, .bool x.ov] 59)).heap.size = wr.heap.size + 1 := by simp
      rw [hsz] at hr2
      have Hr2 := hidOf hr2
      clear hrow hbr hcell hx bl ho2 hg2 hb2 htk hsz hr2
      go_wp2_with (at_builtin; refine wpList_append_run rfl _ _ 41 rfl _ _ _ rfl rfl Hr2.out ?_)
      go_roundw
      case rel => exact ⟨k + 1, _, _, hlt, by go_num, rfl, HR.out.1, HR.out.2⟩
      case measure => simp [intOf]; omega
    · obtain rfl : k = ln := by omega
      have hki : ¬ (k : Int) < (k : Int) := by omega
      rw [show ls.take k = ls from List.take_of_length_le (by rw [HLl.out]; exact Nat.le_refl _)] at hrow
      obtain ⟨a2, c2, e2, hO⟩ := own_of hrow (ls.map (·.tp)) rfl
      injection e2 with e2a _ e2c
      subst e2a e2c
      have HF := hidOf hO.ints
      have HB := hidOf (bl_trans2 HB0.out hbr (by omega))
      have HX := hidOf (HX0.out.below hbr (by omega))
      have HA := hidOf (HA0.out.below hbr (by have := HA0.out.lt; omega))
      have HLr := hidOf (HL.out.keep hbr)
      have HT := hidOf (implTopics_any a n c xs wr (HI.out.keep HB.out) HW.out HN.out (HG.out.keep HB.out))
      obtain ⟨q, hq⟩ : ∃ q, okTs xs = q := ⟨_, rfl⟩
      rw [hq] at HT
      have HQ := hidOf hq
      have HEq := hidOf (okMp_eq xs ls io mv)
      clear hrow hO hbr hq HL HX0 HA0
      have x0 := HX.out.cs 0 (by simp)
      simp only [List.getElem_cons_zero] at x0
      go_wp2_with fail
      refine (HT.out).mono ?_
      rintro e w3 ⟨rfl, hb3⟩
      have HB3 := hidOf (bl_trans HB.out hb3)
      have HX3 := hidOf (HX.out.keep hb3)
      have HA3 := hidOf (HA.out.keep hb3)
      have HL3 := hidOf (HLr.out.keep hb3)
      have HF3 := hidOf (HF.out.keep hb3)
      clear HT hb3 x0 HB HX HA HLr HF
      cases q
      · have HE := hidOf (okMg_top (ls := ls) (io := io) (mv := mv) HQ.out)
        go_wp2_with fail
        go_ret
        exact ⟨rbool HE.out.symm, HB3.out⟩
      have HC := hidOf (crossing_any a n c fa k fc (ls.map (·.tp)) io w3 HF3.out HLn.out (fun y hy => by
        obtain ⟨z, hz, rfl⟩ := List.mem_map.1 hy
        exact (HXw.out z hz).tp) HIo.out)
      obtain ⟨q2, hq2⟩ : ∃ q, crossB n (ls.map (·.tp)) io = q := ⟨_, rfl⟩
      rw [hq2] at HC
      have HQ2 := hidOf (show crossB xs.length (ls.map (·.tp)) io = q2 by rw [HXl.out]; exact hq2)
      clear hq2
      have x0 := HX3.out.cs 0 (by simp)
      simp only [List.getElem_cons_zero] at x0
      obtain ⟨p0, p1, p2⟩ := box3g HA3.out
      go_wp2_with fail
      refine (HC.out).mono ?_
      rintro e w4 ⟨rfl, hb4⟩
      have HB4 := hidOf (bl_trans HB3.out hb4)
      have HX4 := hidOf (HX3.out.keep hb4)
      have HA4 := hidOf (HA3.out.keep hb4)
      have HL4 := hidOf (HL3.out.keep hb4)
      clear HC hb4 x0 p0 p1 p2 HB3 HX3 HA3 HL3 HF3
      cases q2
      · have HE := hidOf (show okMg xs ls io mv = false by rw [← HEq.out]; unfold okMp; rw [HQ2.out, Bool.false_and, Bool.and_false])
        go_wp2_with fail
        go_ret
        exact ⟨rbool HE.out.symm, HB4.out⟩
      have HM := hidOf (isMoved_any mv w4)
      obtain ⟨q3, hq3⟩ : ∃ q, decide (0 ≤ mv ∧ mv ≤ 1000000000) = q := ⟨_, rfl⟩
      rw [hq3] at HM
      have HQ3 := hidOf hq3
      clear hq3
      obtain ⟨p0, p1, p2⟩ := box3g HA4.out
      go_wp2_with fail
      refine (HM.out).mono ?_
      rintro e w5 ⟨rfl, hw5⟩
      obtain rfl : w4 = w5 := hw5.symm
      clear HM
      cases q3
      · have HE := hidOf (show okMg xs ls io mv = false by rw [← HEq.out]; unfold okMp; rw [HQ2.out, HQ3.out, Bool.false_and, Bool.and_false, Bool.and_false])
        go_wp2_with fail
        go_ret
        exact ⟨rbool HE.out.symm, HB4.out⟩
      have HRg := hidOf (show ∀ x, x ∈ ls → 0 ≤ x.tp ∧ x.tp < (n : Int) from fun x hx => by
        have h := HQ2.out
        unfold crossB at h
        rw [Bool.and_eq_true, decide_eq_true_eq, decide_eq_true_eq] at h
        obtain ⟨i, hi, rfl⟩ := List.getElem_of_mem hx
        have h2 := h.2 i (by simp; omega)
        unfold numB at h2
        rw [Bool.and_eq_true, decide_eq_true_eq] at h2
        have e : (ls.map (·.tp) ++ [io]).getD i 0 = ls[i].tp := by
          rw [List.getD, List.getElem?_append_left (by simpa using hi)]
          simp [hi]
        rw [e] at h2
        have := HXl.out
        omega)
      have HOk := hidOf (show ∀ i, i < xs.length → okR restR (tg xs i).v = true from fun i hi => by
        have h := HQ.out
        unfold okTs at h
        rw [Bool.and_eq_true, decide_eq_true_eq, decide_eq_true_eq] at h
        have h2 := h.2 i hi
        unfold okTa at h2
        simp only [Bool.and_eq_true] at h2
        exact h2.2.1)
      have x0 := HX4.out.cs 0 (by simp)
      simp only [List.getElem_cons_zero] at x0
      have HBd := hidOf (hasBad_any a n c xs la k lc ls w.heap.size w4 (HI.out.keep HB4.out) HW.out HL4.out HLn.out HXw.out HRg.out HOk.out x0)
      obtain ⟨q4, hq4⟩ : ∃ q, legsAll xs ls = q := ⟨_, rfl⟩
      rw [hq4] at HBd
      have HE := hidOf (show okMg xs ls io mv = q4 by
        rw [← HEq.out]
        unfold okMp
        rw [HQ.out, HQ2.out, HQ3.out, Bool.true_and, Bool.true_and, Bool.true_and]
        exact hq4)
      clear hq4 x0
      go_wp2_with fail
      refine (HBd.out).mono ?_
      rintro e w6 ⟨rfl, hb6⟩
      have HB6 := hidOf (bl_trans HB4.out hb6)
      clear HBd hb6 p0 p1 p2
      go_wp2_with fail
      go_ret
      exact ⟨rbool (by rw [HE.out] <;> simp), HB6.out⟩
end Go.Proofs.YtffpecdjfcgadaaGreatDoor
