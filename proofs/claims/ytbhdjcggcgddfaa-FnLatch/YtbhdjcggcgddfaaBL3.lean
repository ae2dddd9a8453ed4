/-
  The program's latches: one is counted down.
-/
import Derived.Test.YtbhdjcggcgddfaaBL1
import Derived.Deep.RegionWith
namespace Go.Proofs.Ytbhdjcggcgddfaa
open Go.RowKit Go.Maps Pl Il

theorem wake_all {xs : List Int} (h : lineL xs = true) : wakeRest xs (xs.length : Int) = [] ∧ wakeOut xs (xs.length : Int) = xs := by
  have hn : wakeN xs (xs.length : Int) = xs.length := by rw [wakeN_in (by omega)]; simp
  obtain ⟨h1, h2⟩ := wake_good h (k := (xs.length : Int)) (by omega)
  rw [h1, h2, hn]
  simp
theorem LMem.count {B b : Nat} {A : Na} {x : Lt} {w : World} (h : LMem B b A x w) (v : Int) : LMem B b A { x with ct := v } (w.setCell ⟨b, 2, none⟩ (.int .i64 v)) := ⟨h.st.setc 2 (by omega) _, World.cell?_setCell_same _ _ _ h.ct⟩
set_option maxRecDepth 100000 in
set_option maxHeartbeats 2000000 in
theorem implCountDown_any (A : Na) (x : Lt) (n : Int) (w : World) (hI : LIn w A x) (hn : A.n ≤ 2097152) (hn' : A.n' ≤ 2097152) (hw : LWf x) (hx : (Lit.int .i64 n).wf = true) :
    Calls Try.prog 59 #[.agg #[.int .i64 x.ct, .slice A.a A.n A.c, .slice A.a' A.n' A.c'], .int .i64 n] w fun e w' => LOutT w (countM x n).1 (countM x n).2.1 (countM x n).2.2 e w' := by
  have hC := lctx_new hI
  have s1 : ((w.alloc (.cells #[.int .i64 x.ct, .slice A.a A.n A.c, .slice A.a' A.n' A.c'] 78)).alloc (.cells #[.int .i64 0, .slice none 0 0, .slice none 0 0] 78)).heap.size = w.heap.size + 2 := by simp
  have HL1 := hidOf hI.ints.len
  have HL2 := hidOf hI.grs.len
  have HCp := hidOf (latchBodyOf_any A x _ hC.ninX hn hn' hw)
  have HC := hidOf hC
  have S1 := hidOf s1
  clear hC s1 hI
  go_enter Try.func59, Try.ntmps59
  go_wp2_with fail
  refine (HCp.out).mono ?_
  rintro e w1 ⟨b, A1, rfl, hAn, hM, hb1⟩
  rw [S1.out] at hM
  have hC1 := HC.out.kp hb1
  have HM := hidOf hM
  have HAn := hidOf hAn
  clear HC HCp S1 hb1 hM hAn
  have HC := hidOf hC1
  clear hC1
  cases hokx : okLa x
  · have HLa := hidOf (HM.out)
    have HR := hidOf (show countM x n = (x, [], 1) by unfold countM; rw [if_pos (.inl hokx)])
    clear hokx HM HAn
    go_wp2_with fail
    refine (latch_any (w.heap.size + 2) b A1 x _ HLa.out).mono ?_
    rintro e w9 ⟨rfl, hb9⟩
    have hC9 := HC.out.kp hb9
    have HF := hidOf (lst_fin (A' := A1) (y := x) hC9 (HLa.out.keep hb9).st.rows)
    obtain ⟨_, r0, r1, r2, rf⟩ := id hC9.box1
    clear HC HLa hb9 hC9
    go_wp2
    refine bodyPost_ret (v := .tuple #[.agg #[.int .i64 x.ct, .slice A1.a A1.n A1.c, .slice A1.a' A1.n' A1.c'], .slice none 0 0, .int .i64 1]) (by simp [results, Try.results59, go_sem, r0, r1, r2]) rfl ?_
    rw [HR.out]
    exact ⟨A1, none, 0, 0, rfl, HF.out.1, HF.out.2.1, ⟨⟨rfl, .inl rfl⟩, .inl rfl⟩, .inl rfl, HF.out.2.2⟩
  · have hbo := okLa_parts hokx
    have hn0 : ¬ (okLa x = false) := by simp [hokx]
    have HBo := hidOf hbo
    have c2 := HM.out.ct
    clear hbo hokx
    by_cases h1 : n < 1
    · have HLa := hidOf (HM.out)
      have HR := hidOf (show countM x n = (x, [], 1) by unfold countM; rw [if_pos (.inr h1)])
      clear hn0 c2 HM HAn HBo
      go_wp2_with fail
      refine (latch_any (w.heap.size + 2) b A1 x _ HLa.out).mono ?_
      rintro e w9 ⟨rfl, hb9⟩
      have hC9 := HC.out.kp hb9
      have HF := hidOf (lst_fin (A' := A1) (y := x) hC9 (HLa.out.keep hb9).st.rows)
      obtain ⟨_, r0, r1, r2, rf⟩ := id hC9.box1
      clear HC HLa hb9 hC9
      go_wp2
      refine bodyPost_ret (v := .tuple #[.agg #[.int .i64 x.ct, .slice A1.a A1.n A1.c, .slice A1.a' A1.n' A1.c'], .slice none 0 0, .int .i64 1]) (by simp [results, Try.results59, go_sem, r0, r1, r2]) rfl ?_
      rw [HR.out]
      exact ⟨A1, none, 0, 0, rfl, HF.out.1, HF.out.2.1, ⟨⟨rfl, .inl rfl⟩, .inl rfl⟩, .inl rfl, HF.out.2.2⟩
    · have hn1 : ¬ (okLa x = false ∨ n < 1) := by rintro (h | h); exact hn0 h; exact h1 h
      by_cases h2 : x.ct < n
      · have HLa := hidOf (HM.out)
        have HR := hidOf (show countM x n = (x, [], 6) by unfold countM; rw [if_neg hn1, if_pos h2])
        clear hn0 hn1 HM HAn HBo
        go_wp2_with fail
        refine (latch_any (w.heap.size + 2) b A1 x _ HLa.out).mono ?_
        rintro e w9 ⟨rfl, hb9⟩
        have hC9 := HC.out.kp hb9
        have HF := hidOf (lst_fin (A' := A1) (y := x) hC9 (HLa.out.keep hb9).st.rows)
        obtain ⟨_, r0, r1, r2, rf⟩ := id hC9.box1
        clear HC HLa hb9 hC9
        go_wp2
        refine bodyPost_ret (v := .tuple #[.agg #[.int .i64 x.ct, .slice A1.a A1.n A1.c, .slice A1.a' A1.n' A1.c'], .slice none 0 0, .int .i64 6]) (by simp [results, Try.results59, go_sem, r0, r1, r2]) rfl ?_
        rw [HR.out]
        exact ⟨A1, none, 0, 0, rfl, HF.out.1, HF.out.2.1, ⟨⟨rfl, .inl rfl⟩, .inl rfl⟩, .inl rfl, HF.out.2.2⟩
      · by_cases h3 : n = x.ct
        · subst h3
          have h3' : (x.ct == x.ct) = true := by simp
          by_cases h4 : 32 < x.ln.length + x.gs.length
          · have h4' : decide (A1.n + A1.n' ≤ 32) = false := by have := HL1.out; have := HL2.out; have := HAn.out.1; have := HAn.out.2; simp; omega
            have HR0 := hidOf (show countM x x.ct = (x, [], 2) by unfold countM; rw [if_neg hn1, if_neg h2, if_pos ⟨rfl, h4⟩])
            clear h4
            go_wp2_with fail
            refine (canLet_any (w.heap.size + 2) b A1 x.ln x.gs _ HM.out.st (by rw [HAn.out.1]; exact hn) (by rw [HAn.out.2]; exact hn')).mono ?_
            rintro e w3 ⟨rfl, hb3⟩
            have hM3 := HM.out.keep hb3
            have hC3 := HC.out.kp hb3
            clear HM HC hb3 c2
            have HM := hidOf hM3
            have HC := hidOf hC3
            have c2 := hM3.ct
            clear hM3 hC3
            rw [h4']
            have HLa := hidOf (HM.out)
            have HR := hidOf (HR0.out)
            clear c2 HM HAn HBo HR0
            go_wp2_with fail
            refine (latch_any (w.heap.size + 2) b A1 x _ HLa.out).mono ?_
            rintro e w9 ⟨rfl, hb9⟩
            have hC9 := HC.out.kp hb9
            have HF := hidOf (lst_fin (A' := A1) (y := x) hC9 (HLa.out.keep hb9).st.rows)
            obtain ⟨_, r0, r1, r2, rf⟩ := id hC9.box1
            clear HC HLa hb9 hC9
            go_wp2
            refine bodyPost_ret (v := .tuple #[.agg #[.int .i64 x.ct, .slice A1.a A1.n A1.c, .slice A1.a' A1.n' A1.c'], .slice none 0 0, .int .i64 2]) (by simp [results, Try.results59, go_sem, r0, r1, r2]) rfl ?_
            rw [HR.out]
            exact ⟨A1, none, 0, 0, rfl, HF.out.1, HF.out.2.1, ⟨⟨rfl, .inl rfl⟩, .inl rfl⟩, .inl rfl, HF.out.2.2⟩
          · have h4' : decide (A1.n + A1.n' ≤ 32) = true := by have := HL1.out; have := HL2.out; have := HAn.out.1; have := HAn.out.2; simp; omega
            have hp : ¬ (0 : Int) < x.ct - x.ct := by omega
            have HR0 := hidOf (show countM x x.ct = ({ x with ct := 0, ln := [], gs := x.gs ++ x.ln }, x.ln, 0) by unfold countM; rw [if_neg hn1, if_neg h2, if_neg (fun h => h4 h.2), if_neg hp, Int.sub_self])
            clear hp
            go_wp2_with fail
            refine (canLet_any (w.heap.size + 2) b A1 x.ln x.gs _ HM.out.st (by rw [HAn.out.1]; exact hn) (by rw [HAn.out.2]; exact hn')).mono ?_
            rintro e w3 ⟨rfl, hb3⟩
            have hM3 := HM.out.keep hb3
            have hC3 := HC.out.kp hb3
            clear HM HC hb3 c2
            have HM := hidOf hM3
            have HC := hidOf hC3
            have c2 := hM3.ct
            clear hM3 hC3
            rw [h4']
            clear h4 h4'
            have hCt := HM.out.count 0
            have hCc := HC.out.keep (B := w.heap.size + 2) (bl_set1 (Below.refl _ _) b 2 HM.out.st.ge (.int .i64 0)) (Nat.le_refl _)
            have ff := HM.out.st.fr
            have d0 := hCt.st.c0
            have d2 := hCt.ct
            have HM2 := hidOf hCt
            have HC2 := hidOf hCc
            clear hCt hCc HM HC hn0 hn1
            simp only at d0 d2
            have HMd := hidOf (HM2.out.keep (Below.refl _ _).drew)
            have HCd := hidOf (HC2.out.kp (Below.refl _ _).drew)
            have HLG := hidOf (letGo_any (w.heap.size + 2) b A1 x.ln x.gs (A1.n : Int) _ HMd.out.st (by rw [HAn.out.1]; exact hn) (by rw [HAn.out.2]; exact hn') hw.ln HBo.out.2.1 (by omega))
            clear HM2 HC2
            go_wp2_with fail
            first | (go_region_with (first | (go_at_call 113; refine (HLG.out).mono ?_; rintro e w5 ⟨A5, a5, m5, cc5, rfl, hS5, hO5, hF5, hT5⟩))) | fail
            have hln : (A1.n : Int) = (x.ln.length : Int) := by rw [HAn.out.1, HL1.out]
            rw [hln, (wake_all HBo.out.2.1).1, (wake_all HBo.out.2.1).2] at hS5
            rw [hln, (wake_all HBo.out.2.1).2] at hO5
            have hM5 := HMd.out.to hS5 hT5
            have HC := hidOf (HCd.out.keep hT5.below (Nat.le_refl _))
            have HLa := hidOf hM5
            have HO5 := hidOf hO5
            have HF5 := hidOf hF5
            clear hS5 hO5 hF5 hT5 hM5 hln HMd HCd HLG d0 d2 ff c2
            go_wp2_with fail
            refine (latch_any (w.heap.size + 2) b A5 { x with ct := 0, ln := [], gs := x.gs ++ x.ln } _ HLa.out).mono ?_
            rintro e w9 ⟨rfl, hb9⟩
            have hC9 := HC.out.kp hb9
            have HF := hidOf (lst_finT (A' := A5) (y := { x with ct := 0, ln := [], gs := x.gs ++ x.ln }) hC9 (HLa.out.keep hb9).st.rows (HO5.out.keep hb9))
            obtain ⟨_, r0, r1, r2, rf⟩ := id hC9.box1
            clear HC HLa hb9 hC9 HO5
            go_wp2
            refine bodyPost_ret (v := .tuple #[.agg #[.int .i64 0, .slice A5.a A5.n A5.c, .slice A5.a' A5.n' A5.c'], .slice a5 m5 cc5, .int .i64 0]) (by simp [results, Try.results59, go_sem, r0, r1, r2]) rfl ?_
            rw [HR0.out]
            exact ⟨A5, a5, m5, cc5, rfl, HF.out.1, HF.out.2.1, HF.out.2.2.1, HF5.out.1, HF.out.2.2.2⟩
        · have h3' : (n == x.ct) = false := by simp [h3]
          have hp : (0 : Int) < x.ct - n := by omega
          have HR0 := hidOf (show countM x n = ({ x with ct := x.ct - n }, [], 0) by unfold countM; rw [if_neg hn1, if_neg h2, if_neg (fun h => h3 h.1), if_pos hp])
          clear h3
          have hbd := HBo.out.1
          have hwr : wrap64 (x.ct - n) = x.ct - n := by unfold wrap64; omega
          have hCt := HM.out.count (x.ct - n)
          have hCc := HC.out.keep (B := w.heap.size + 2) (bl_set1 (Below.refl _ _) b 2 HM.out.st.ge (.int .i64 (x.ct - n))) (Nat.le_refl _)
          have ff := HM.out.st.fr
          have hp' : (0 : Int) < x.ct - n := hp
          have d2 := hCt.ct
          have HM2 := hidOf hCt
          have HC2 := hidOf hCc
          clear hCt hCc HM HC hn0 hn1 hp
          have HC := HC2
          have HM := HM2
          clear HC2 HM2
          simp only at d2
          have HLa := hidOf (HM.out)
          have HR := hidOf (show countM x n = ({ x with ct := x.ct - n }, [], 0) from HR0.out)
          clear HM HAn HBo HR0
          go_wp2_with fail
          refine (latch_any (w.heap.size + 2) b A1 { x with ct := x.ct - n } _ HLa.out).mono ?_
          rintro e w9 ⟨rfl, hb9⟩
          have hC9 := HC.out.kp hb9
          have HF := hidOf (lst_fin (A' := A1) (y := { x with ct := x.ct - n }) hC9 (HLa.out.keep hb9).st.rows)
          obtain ⟨_, r0, r1, r2, rf⟩ := id hC9.box1
          clear HC HLa hb9 hC9
          go_wp2
          refine bodyPost_ret (v := .tuple #[.agg #[.int .i64 (x.ct - n), .slice A1.a A1.n A1.c, .slice A1.a' A1.n' A1.c'], .slice none 0 0, .int .i64 0]) (by simp [results, Try.results59, go_sem, r0, r1, r2]) rfl ?_
          rw [HR.out]
          exact ⟨A1, none, 0, 0, rfl, HF.out.1, HF.out.2.1, ⟨⟨rfl, .inl rfl⟩, .inl rfl⟩, .inl rfl, HF.out.2.2⟩
end Go.Proofs.Ytbhdjcggcgddfaa
