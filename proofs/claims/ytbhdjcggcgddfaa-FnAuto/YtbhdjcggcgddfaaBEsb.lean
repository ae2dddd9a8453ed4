/-
  The program's events: who steps back from one, as a whole.
-/
import Derived.Test.YtbhdjcggcgddfaaBEq
namespace Go.Proofs.Ytbhdjcggcgddfaa
open Go.RowKit Go.Maps Pl Il

theorem passE_kind2 (x : Et) : (passE x).1.au = x.au := by
  obtain ⟨au, up, ln, gs, st, sp, tk⟩ := x
  unfold passE
  cases ln with
  | nil => cases up <;> rfl
  | cons a r => rfl
set_option maxRecDepth 100000 in
set_option maxHeartbeats 4000000 in
theorem implStepBack_any (A : Na) (x : Et) (who : Int) (w : World) (hI : EIn w A x) (hn : A.n ≤ 2097152) (hn' : A.n' ≤ 2097152) (hw : EWf x) (hx : (Lit.int .i64 who).wf = true) :
    Calls Try.prog 38 #[.agg #[.bool x.au, .bool x.up, .slice A.a A.n A.c, .slice A.a' A.n' A.c', .int .i64 x.st, .int .i64 x.sp, .int .i64 x.tk], .int .i64 who] w fun e w' => EOutT w (stepM x who).1 (stepM x who).2.1 (stepM x who).2.2 e w' := by
  obtain ⟨au, up, ln, gs, st, sp, tk⟩ := x
  have hC := ectx_new hI
  have s1 : ((w.alloc (.cells #[.bool au, .bool up, .slice A.a A.n A.c, .slice A.a' A.n' A.c', .int .i64 st, .int .i64 sp, .int .i64 tk] 46)).alloc (.cells #[.bool false, .bool false, .slice none 0 0, .slice none 0 0, .int .i64 0, .int .i64 0, .int .i64 0] 46)).heap.size = w.heap.size + 2 := by simp
  have HL1 := hidOf hI.ints.len
  have HL2 := hidOf hI.grs.len
  have HCp := hidOf (flagOf_any A ⟨au, up, ln, gs, st, sp, tk⟩ _ hC.ninX hn hn' hw)
  have HC := hidOf hC
  have S1 := hidOf s1
  have hwl := hw.ln
  have hwg := hw.gs
  simp only at HL1 HL2 hwl hwg
  clear hC s1 hI
  go_enter Try.func38, Try.ntmps38
  go_wp2_with fail
  refine (HCp.out).mono ?_
  rintro e w1 ⟨b, A1, rfl, hAn, hM, hb1⟩
  rw [S1.out] at hM
  have hC1 := HC.out.kp hb1
  have HM := hidOf hM
  have HAn := hidOf hAn
  clear HC HCp S1 hb1 hM hAn
  have HC := hidOf hC1
  clear hC1
  cases au
  · cases hokx : okE ⟨false, up, ln, gs, st, sp, tk⟩
    · have HLa := hidOf (HM.out)
      have HR := hidOf (show stepM ⟨false, up, ln, gs, st, sp, tk⟩ who = (⟨false, up, ln, gs, st, sp, tk⟩, [], 1) by unfold stepM; rw [if_pos hokx])
      have mm := meth_man_event b
      have HOw := hidOf (own_nil (w.heap.size + 2) w1)
      have HAp := hidOf (show Apart3 A1.a A1.n A1.a' A1.n' none 0 from .inl rfl)
      clear hokx HM HAn
      go_wp2_with fail
      refine (event_any (w.heap.size + 2) b A1 ⟨false, up, ln, gs, st, sp, tk⟩ _ HLa.out).mono ?_
      rintro e w9 ⟨rfl, hb9⟩
      have hC9 := HC.out.kp hb9
      have HF := hidOf (est_finT (A' := A1) (y := ⟨false, up, ln, gs, st, sp, tk⟩) hC9 (HLa.out.keep hb9).wt.rows (HOw.out.keep hb9))
      obtain ⟨_, r0, r1, r2, r3, r4, r5, r6, rf⟩ := id hC9.box1
      clear HC HLa hb9 hC9 mm HOw
      go_wp2
      refine bodyPost_ret (v := .tuple #[.agg #[.bool false, .bool up, .slice A1.a A1.n A1.c, .slice A1.a' A1.n' A1.c', .int .i64 st, .int .i64 sp, .int .i64 tk], .slice none 0 0, .int .i64 1]) (by simp [results, Try.results38, go_sem, r0, r1, r2, r3, r4, r5, r6]) rfl ?_
      rw [HR.out]
      exact ⟨A1, none, 0, 0, rfl, HF.out.1, HF.out.2.1, HF.out.2.2.1, HAp.out, HF.out.2.2.2⟩
    · have hn1 : ¬ (okE ⟨false, up, ln, gs, st, sp, tk⟩ = false) := by rw [hokx]; simp
      have hbo := okE_parts hokx
      simp only at hbo
      have HBo := hidOf hbo
      clear hbo
      rcases turn_cases ln gs who with ⟨h0, h1⟩ | ⟨h0, h1, h2⟩ | ⟨h0, h1, h2⟩
      · have HR0 := hidOf (show stepM ⟨false, up, ln, gs, st, sp, tk⟩ who = (⟨false, up, lessL ln who, gs, st, sp, tk⟩, [], 0) by unfold stepM; rw [if_neg hn1, if_pos h1])
        have H0 := hidOf h0
        have HE1 := hidOf (wait_apart hokx h1)
        have HE2 := hidOf (True.intro)
        clear hn1 h0 h1 hokx
        have mq := meth_man_stepBack b
        go_wp2_with fail
        refine (manStepBack_any (w.heap.size + 2) b A1 ⟨false, up, ln, gs, st, sp, tk⟩ who _ HM.out (by rw [HAn.out.1]; exact hn) (by rw [HAn.out.2]; exact hn') hw hx HBo.out.1.1 HBo.out.1.2.1).mono ?_
        rintro e w5 hP
        obtain ⟨A5, a5, m5, cc5, rfl, hM5, hO5, hF5, hB5⟩ := hP.2 (by rw [H0.out]; omega)
        clear mq
        have HC2 := hidOf (HC.out.keep hB5 (Nat.le_refl _))
        clear HC hB5 HM
        have HC := HC2
        clear HC2
        simp only [HE1.out] at hM5
        have HLa := hidOf (hM5)
        have HR := hidOf (HR0.out)
        have mm := meth_man_event b
        have HOw := hidOf (hO5)
        have HAp := hidOf (show Apart3 A5.a A5.n A5.a' A5.n' a5 m5 from hF5.1)
        clear hM5 hO5 hF5 HR0 HAn HBo H0 HE1 HE2
        go_wp2_with fail
        refine (event_any (w.heap.size + 2) b A5 ⟨false, up, lessL ln who, gs, st, sp, tk⟩ _ HLa.out).mono ?_
        rintro e w9 ⟨rfl, hb9⟩
        have hC9 := HC.out.kp hb9
        have HF := hidOf (est_finT (A' := A5) (y := ⟨false, up, lessL ln who, gs, st, sp, tk⟩) hC9 (HLa.out.keep hb9).wt.rows (HOw.out.keep hb9))
        obtain ⟨_, r0, r1, r2, r3, r4, r5, r6, rf⟩ := id hC9.box1
        clear HC HLa hb9 hC9 mm HOw
        go_wp2
        refine bodyPost_ret (v := .tuple #[.agg #[.bool false, .bool up, .slice A5.a A5.n A5.c, .slice A5.a' A5.n' A5.c', .int .i64 st, .int .i64 sp, .int .i64 tk], .slice a5 m5 cc5, .int .i64 0]) (by simp [results, Try.results38, go_sem, r0, r1, r2, r3, r4, r5, r6]) rfl ?_
        rw [HR.out]
        exact ⟨A5, a5, m5, cc5, rfl, HF.out.1, HF.out.2.1, HF.out.2.2.1, HAp.out, HF.out.2.2.2⟩
      · have HR0 := hidOf (show stepM ⟨false, up, ln, gs, st, sp, tk⟩ who = (⟨false, up, ln, lessL gs who, st, sp, tk⟩, [], 0) by unfold stepM; rw [if_neg hn1, if_neg (by rw [h1]; simp), if_neg (by rw [h2]; simp), if_neg (by simp), if_neg (by simp)])
        have H0 := hidOf h0
        have HE1 := hidOf (less_not h1)
        have HE2 := hidOf (True.intro)
        clear hn1 h0 h1 h2 hokx
        have mq := meth_man_stepBack b
        go_wp2_with fail
        refine (manStepBack_any (w.heap.size + 2) b A1 ⟨false, up, ln, gs, st, sp, tk⟩ who _ HM.out (by rw [HAn.out.1]; exact hn) (by rw [HAn.out.2]; exact hn') hw hx HBo.out.1.1 HBo.out.1.2.1).mono ?_
        rintro e w5 hP
        obtain ⟨A5, a5, m5, cc5, rfl, hM5, hO5, hF5, hB5⟩ := hP.2 (by rw [H0.out]; omega)
        clear mq
        have HC2 := hidOf (HC.out.keep hB5 (Nat.le_refl _))
        clear HC hB5 HM
        have HC := HC2
        clear HC2
        simp only [HE1.out] at hM5
        have HLa := hidOf (hM5)
        have HR := hidOf (HR0.out)
        have mm := meth_man_event b
        have HOw := hidOf (hO5)
        have HAp := hidOf (show Apart3 A5.a A5.n A5.a' A5.n' a5 m5 from hF5.1)
        clear hM5 hO5 hF5 HR0 HAn HBo H0 HE1 HE2
        go_wp2_with fail
        refine (event_any (w.heap.size + 2) b A5 ⟨false, up, ln, lessL gs who, st, sp, tk⟩ _ HLa.out).mono ?_
        rintro e w9 ⟨rfl, hb9⟩
        have hC9 := HC.out.kp hb9
        have HF := hidOf (est_finT (A' := A5) (y := ⟨false, up, ln, lessL gs who, st, sp, tk⟩) hC9 (HLa.out.keep hb9).wt.rows (HOw.out.keep hb9))
        obtain ⟨_, r0, r1, r2, r3, r4, r5, r6, rf⟩ := id hC9.box1
        clear HC HLa hb9 hC9 mm HOw
        go_wp2
        refine bodyPost_ret (v := .tuple #[.agg #[.bool false, .bool up, .slice A5.a A5.n A5.c, .slice A5.a' A5.n' A5.c', .int .i64 st, .int .i64 sp, .int .i64 tk], .slice a5 m5 cc5, .int .i64 0]) (by simp [results, Try.results38, go_sem, r0, r1, r2, r3, r4, r5, r6]) rfl ?_
        rw [HR.out]
        exact ⟨A5, a5, m5, cc5, rfl, HF.out.1, HF.out.2.1, HF.out.2.2.1, HAp.out, HF.out.2.2.2⟩
      · have HR0 := hidOf (show stepM ⟨false, up, ln, gs, st, sp, tk⟩ who = (⟨false, up, ln, gs, st, sp, tk⟩, [], 3) by unfold stepM; rw [if_neg hn1, if_neg (by rw [h1]; simp), if_pos h2])
        have H0 := hidOf h0
        have HE1 := hidOf (less_not h1)
        have HE2 := hidOf (less_not h2)
        clear hn1 h0 h1 h2 hokx
        have mq := meth_man_stepBack b
        go_wp2_with fail
        refine (manStepBack_any (w.heap.size + 2) b A1 ⟨false, up, ln, gs, st, sp, tk⟩ who _ HM.out (by rw [HAn.out.1]; exact hn) (by rw [HAn.out.2]; exact hn') hw hx HBo.out.1.1 HBo.out.1.2.1).mono ?_
        rintro e w5 hP
        obtain ⟨A5, a5, m5, cc5, rfl, hM5, hO5, hF5, hB5⟩ := hP.1 H0.out
        clear mq
        have HC2 := hidOf (HC.out.keep hB5 (Nat.le_refl _))
        clear HC hB5 HM
        have HC := HC2
        clear HC2
        simp only [HE1.out, HE2.out] at hM5
        have HLa := hidOf (hM5)
        have HR := hidOf (HR0.out)
        have mm := meth_man_event b
        have HOw := hidOf (hO5)
        have HAp := hidOf (show Apart3 A5.a A5.n A5.a' A5.n' a5 m5 from hF5.1)
        clear hM5 hO5 hF5 HR0 HAn HBo H0 HE1 HE2
        go_wp2_with fail
        refine (event_any (w.heap.size + 2) b A5 ⟨false, up, ln, gs, st, sp, tk⟩ _ HLa.out).mono ?_
        rintro e w9 ⟨rfl, hb9⟩
        have hC9 := HC.out.kp hb9
        have HF := hidOf (est_finT (A' := A5) (y := ⟨false, up, ln, gs, st, sp, tk⟩) hC9 (HLa.out.keep hb9).wt.rows (HOw.out.keep hb9))
        obtain ⟨_, r0, r1, r2, r3, r4, r5, r6, rf⟩ := id hC9.box1
        clear HC HLa hb9 hC9 mm HOw
        go_wp2
        refine bodyPost_ret (v := .tuple #[.agg #[.bool false, .bool up, .slice A5.a A5.n A5.c, .slice A5.a' A5.n' A5.c', .int .i64 st, .int .i64 sp, .int .i64 tk], .slice a5 m5 cc5, .int .i64 3]) (by simp [results, Try.results38, go_sem, r0, r1, r2, r3, r4, r5, r6]) rfl ?_
        rw [HR.out]
        exact ⟨A5, a5, m5, cc5, rfl, HF.out.1, HF.out.2.1, HF.out.2.2.1, HAp.out, HF.out.2.2.2⟩
  · cases hokx : okE ⟨true, up, ln, gs, st, sp, tk⟩
    · have HLa := hidOf (HM.out)
      have HR := hidOf (show stepM ⟨true, up, ln, gs, st, sp, tk⟩ who = (⟨true, up, ln, gs, st, sp, tk⟩, [], 1) by unfold stepM; rw [if_pos hokx])
      have mm := meth_auto_event b
      have HOw := hidOf (own_nil (w.heap.size + 2) w1)
      have HAp := hidOf (show Apart3 A1.a A1.n A1.a' A1.n' none 0 from .inl rfl)
      clear hokx HM HAn
      go_wp2_with fail
      refine (autoEvent_any (w.heap.size + 2) b A1 ⟨true, up, ln, gs, st, sp, tk⟩ _ HLa.out).mono ?_
      rintro e w9 ⟨rfl, hb9⟩
      have hC9 := HC.out.kp hb9
      have HF := hidOf (est_finT (A' := A1) (y := ⟨true, up, ln, gs, st, sp, tk⟩) hC9 (HLa.out.keep hb9).wt.rows (HOw.out.keep hb9))
      obtain ⟨_, r0, r1, r2, r3, r4, r5, r6, rf⟩ := id hC9.box1
      clear HC HLa hb9 hC9 mm HOw
      go_wp2
      refine bodyPost_ret (v := .tuple #[.agg #[.bool true, .bool up, .slice A1.a A1.n A1.c, .slice A1.a' A1.n' A1.c', .int .i64 st, .int .i64 sp, .int .i64 tk], .slice none 0 0, .int .i64 1]) (by simp [results, Try.results38, go_sem, r0, r1, r2, r3, r4, r5, r6]) rfl ?_
      rw [HR.out]
      exact ⟨A1, none, 0, 0, rfl, HF.out.1, HF.out.2.1, HF.out.2.2.1, HAp.out, HF.out.2.2.2⟩
    · have hn1 : ¬ (okE ⟨true, up, ln, gs, st, sp, tk⟩ = false) := by rw [hokx]; simp
      have hbo := okE_parts hokx
      simp only at hbo
      have HBo := hidOf hbo
      clear hbo
      rcases turn_cases ln gs who with ⟨h0, h1⟩ | ⟨h0, h1, h2⟩ | ⟨h0, h1, h2⟩
      · have HR0 := hidOf (show stepM ⟨true, up, ln, gs, st, sp, tk⟩ who = (⟨true, up, lessL ln who, gs, st, sp, tk⟩, [], 0) by unfold stepM; rw [if_neg hn1, if_pos h1])
        have H0 := hidOf h0
        have HE1 := hidOf (wait_apart hokx h1)
        have HE2 := hidOf (True.intro)
        clear hn1 h0 h1 hokx
        have mq := meth_auto_stepBack b
        go_wp2_with fail
        refine (autoStepBack_any (w.heap.size + 2) b A1 ⟨true, up, ln, gs, st, sp, tk⟩ who _ HM.out (by rw [HAn.out.1]; exact hn) (by rw [HAn.out.2]; exact hn') hw hx HBo.out.1.1 HBo.out.1.2.1 HBo.out.2.2.1).mono ?_
        rintro e w5 hP
        obtain ⟨A5, a5, m5, cc5, rfl, hM5, hO5, hF5, hB5⟩ := hP.2.1 H0.out
        clear mq
        have HC2 := hidOf (HC.out.keep hB5 (Nat.le_refl _))
        clear HC hB5 HM
        have HC := HC2
        clear HC2
        simp only [HE1.out] at hM5
        have HLa := hidOf (hM5)
        have HR := hidOf (HR0.out)
        have mm := meth_auto_event b
        have HOw := hidOf (hO5)
        have HAp := hidOf (show Apart3 A5.a A5.n A5.a' A5.n' a5 m5 from hF5.1)
        clear hM5 hO5 hF5 HR0 HAn HBo H0 HE1 HE2
        go_wp2_with fail
        refine (autoEvent_any (w.heap.size + 2) b A5 ⟨true, up, lessL ln who, gs, st, sp, tk⟩ _ HLa.out).mono ?_
        rintro e w9 ⟨rfl, hb9⟩
        have hC9 := HC.out.kp hb9
        have HF := hidOf (est_finT (A' := A5) (y := ⟨true, up, lessL ln who, gs, st, sp, tk⟩) hC9 (HLa.out.keep hb9).wt.rows (HOw.out.keep hb9))
        obtain ⟨_, r0, r1, r2, r3, r4, r5, r6, rf⟩ := id hC9.box1
        clear HC HLa hb9 hC9 mm HOw
        go_wp2
        refine bodyPost_ret (v := .tuple #[.agg #[.bool true, .bool up, .slice A5.a A5.n A5.c, .slice A5.a' A5.n' A5.c', .int .i64 st, .int .i64 sp, .int .i64 tk], .slice a5 m5 cc5, .int .i64 0]) (by simp [results, Try.results38, go_sem, r0, r1, r2, r3, r4, r5, r6]) rfl ?_
        rw [HR.out]
        exact ⟨A5, a5, m5, cc5, rfl, HF.out.1, HF.out.2.1, HF.out.2.2.1, HAp.out, HF.out.2.2.2⟩
      · by_cases hf : up = true ∧ sp = 1000000000
        · have HR0 := hidOf (show stepM ⟨true, up, ln, gs, st, sp, tk⟩ who = (⟨true, up, ln, gs, st, sp, tk⟩, [], 2) by unfold stepM; rw [if_neg hn1, if_neg (by rw [h1]; simp), if_neg (by rw [h2]; simp), if_pos ⟨rfl, hf.1, by simp only; omega⟩])
          have H0 := hidOf h0
          have HE1 := hidOf hf
          clear hn1 h0 h1 h2 hokx hf
          have mq := meth_auto_stepBack b
          go_wp2_with fail
          refine (autoStepBack_any (w.heap.size + 2) b A1 ⟨true, up, ln, gs, st, sp, tk⟩ who _ HM.out (by rw [HAn.out.1]; exact hn) (by rw [HAn.out.2]; exact hn') hw hx HBo.out.1.1 HBo.out.1.2.1 HBo.out.2.2.1).mono ?_
          rintro e w5 hP
          obtain ⟨A5, a5, m5, cc5, rfl, hM5, hO5, hF5, hB5⟩ := hP.2.2.1 H0.out HE1.out.1 HE1.out.2
          clear mq
          have HC2 := hidOf (HC.out.keep hB5 (Nat.le_refl _))
          clear HC hB5 HM
          have HC := HC2
          clear HC2
          have HLa := hidOf (hM5)
          have HR := hidOf (HR0.out)
          have mm := meth_auto_event b
          have HOw := hidOf (hO5)
          have HAp := hidOf (show Apart3 A5.a A5.n A5.a' A5.n' a5 m5 from hF5.1)
          clear hM5 hO5 hF5 HR0 HAn HBo H0 HE1
          go_wp2_with fail
          refine (autoEvent_any (w.heap.size + 2) b A5 ⟨true, up, ln, gs, st, sp, tk⟩ _ HLa.out).mono ?_
          rintro e w9 ⟨rfl, hb9⟩
          have hC9 := HC.out.kp hb9
          have HF := hidOf (est_finT (A' := A5) (y := ⟨true, up, ln, gs, st, sp, tk⟩) hC9 (HLa.out.keep hb9).wt.rows (HOw.out.keep hb9))
          obtain ⟨_, r0, r1, r2, r3, r4, r5, r6, rf⟩ := id hC9.box1
          clear HC HLa hb9 hC9 mm HOw
          go_wp2
          refine bodyPost_ret (v := .tuple #[.agg #[.bool true, .bool up, .slice A5.a A5.n A5.c, .slice A5.a' A5.n' A5.c', .int .i64 st, .int .i64 sp, .int .i64 tk], .slice a5 m5 cc5, .int .i64 2]) (by simp [results, Try.results38, go_sem, r0, r1, r2, r3, r4, r5, r6]) rfl ?_
          rw [HR.out]
          exact ⟨A5, a5, m5, cc5, rfl, HF.out.1, HF.out.2.1, HF.out.2.2.1, HAp.out, HF.out.2.2.2⟩
        · have HR0 := hidOf (show stepM ⟨true, up, ln, gs, st, sp, tk⟩ who = ((passE ⟨true, up, ln, lessL gs who, st, sp, tk⟩).1, (passE ⟨true, up, ln, lessL gs who, st, sp, tk⟩).2, 0) by unfold stepM; rw [if_neg hn1, if_neg (by rw [h1]; simp), if_neg (by rw [h2]; simp), if_neg (fun hh => hf ⟨hh.2.1, by have h8 := HBo.out.2.2.1; have h9 : (1000000000 : Int) ≤ sp := hh.2.2; omega⟩), if_pos rfl])
          have H0 := hidOf h0
          have HE1 := hidOf hf
          have HE2 := hidOf (less_not h1)
          have HKd := hidOf (passE_kind2 ⟨true, up, ln, lessL gs who, st, sp, tk⟩)
          clear hn1 h0 h1 h2 hokx hf
          have mq := meth_auto_stepBack b
          go_wp2_with fail
          refine (autoStepBack_any (w.heap.size + 2) b A1 ⟨true, up, ln, gs, st, sp, tk⟩ who _ HM.out (by rw [HAn.out.1]; exact hn) (by rw [HAn.out.2]; exact hn') hw hx HBo.out.1.1 HBo.out.1.2.1 HBo.out.2.2.1).mono ?_
          rintro e w5 hP
          obtain ⟨A5, a5, m5, cc5, rfl, hM5, hO5, hF5, hB5⟩ := hP.2.2.2 H0.out HE1.out
          clear mq
          have HC2 := hidOf (HC.out.keep hB5 (Nat.le_refl _))
          clear HC hB5 HM
          have HC := HC2
          clear HC2
          simp only [HE2.out] at hM5 hO5
          generalize passE ⟨true, up, ln, lessL gs who, st, sp, tk⟩ = pp at hM5 hO5 HR0 HKd
          obtain ⟨⟨pau, pup, pln, pgs, pst, psp, ptk⟩, pl⟩ := pp
          simp only at hM5 hO5 HR0 HKd
          obtain rfl : pau = true := HKd.out
          have HLa := hidOf (hM5)
          have HR := hidOf (HR0.out)
          have mm := meth_auto_event b
          have HOw := hidOf (hO5)
          have HAp := hidOf (show Apart3 A5.a A5.n A5.a' A5.n' a5 m5 from hF5.1)
          clear hM5 hO5 hF5 HR0 HAn HBo H0 HE1 HE2 HKd
          go_wp2_with fail
          refine (autoEvent_any (w.heap.size + 2) b A5 ⟨true, pup, pln, pgs, pst, psp, ptk⟩ _ HLa.out).mono ?_
          rintro e w9 ⟨rfl, hb9⟩
          have hC9 := HC.out.kp hb9
          have HF := hidOf (est_finT (A' := A5) (y := ⟨true, pup, pln, pgs, pst, psp, ptk⟩) hC9 (HLa.out.keep hb9).wt.rows (HOw.out.keep hb9))
          obtain ⟨_, r0, r1, r2, r3, r4, r5, r6, rf⟩ := id hC9.box1
          clear HC HLa hb9 hC9 mm HOw
          go_wp2
          refine bodyPost_ret (v := .tuple #[.agg #[.bool true, .bool pup, .slice A5.a A5.n A5.c, .slice A5.a' A5.n' A5.c', .int .i64 pst, .int .i64 psp, .int .i64 ptk], .slice a5 m5 cc5, .int .i64 0]) (by simp [results, Try.results38, go_sem, r0, r1, r2, r3, r4, r5, r6]) rfl ?_
          rw [HR.out]
          exact ⟨A5, a5, m5, cc5, rfl, HF.out.1, HF.out.2.1, HF.out.2.2.1, HAp.out, HF.out.2.2.2⟩
      · have HR0 := hidOf (show stepM ⟨true, up, ln, gs, st, sp, tk⟩ who = (⟨true, up, ln, gs, st, sp, tk⟩, [], 3) by unfold stepM; rw [if_neg hn1, if_neg (by rw [h1]; simp), if_pos h2])
        have H0 := hidOf h0
        clear hn1 h0 h1 h2 hokx
        have mq := meth_auto_stepBack b
        go_wp2_with fail
        refine (autoStepBack_any (w.heap.size + 2) b A1 ⟨true, up, ln, gs, st, sp, tk⟩ who _ HM.out (by rw [HAn.out.1]; exact hn) (by rw [HAn.out.2]; exact hn') hw hx HBo.out.1.1 HBo.out.1.2.1 HBo.out.2.2.1).mono ?_
        rintro e w5 hP
        obtain ⟨A5, a5, m5, cc5, rfl, hM5, hO5, hF5, hB5⟩ := hP.1 H0.out
        clear mq
        have HC2 := hidOf (HC.out.keep hB5 (Nat.le_refl _))
        clear HC hB5 HM
        have HC := HC2
        clear HC2
        have HLa := hidOf (hM5)
        have HR := hidOf (HR0.out)
        have mm := meth_auto_event b
        have HOw := hidOf (hO5)
        have HAp := hidOf (show Apart3 A5.a A5.n A5.a' A5.n' a5 m5 from hF5.1)
        clear hM5 hO5 hF5 HR0 HAn HBo H0
        go_wp2_with fail
        refine (autoEvent_any (w.heap.size + 2) b A5 ⟨true, up, ln, gs, st, sp, tk⟩ _ HLa.out).mono ?_
        rintro e w9 ⟨rfl, hb9⟩
        have hC9 := HC.out.kp hb9
        have HF := hidOf (est_finT (A' := A5) (y := ⟨true, up, ln, gs, st, sp, tk⟩) hC9 (HLa.out.keep hb9).wt.rows (HOw.out.keep hb9))
        obtain ⟨_, r0, r1, r2, r3, r4, r5, r6, rf⟩ := id hC9.box1
        clear HC HLa hb9 hC9 mm HOw
        go_wp2
        refine bodyPost_ret (v := .tuple #[.agg #[.bool true, .bool up, .slice A5.a A5.n A5.c, .slice A5.a' A5.n' A5.c', .int .i64 st, .int .i64 sp, .int .i64 tk], .slice a5 m5 cc5, .int .i64 3]) (by simp [results, Try.results38, go_sem, r0, r1, r2, r3, r4, r5, r6]) rfl ?_
        rw [HR.out]
        exact ⟨A5, a5, m5, cc5, rfl, HF.out.1, HF.out.2.1, HF.out.2.2.1, HAp.out, HF.out.2.2.2⟩
end Go.Proofs.Ytbhdjcggcgddfaa
