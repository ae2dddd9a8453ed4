/-
  The program's events: who goes on.
-/
import Derived.Test.YtbhdjcggcgddfaaBE3
namespace Go.Proofs.Ytbhdjcggcgddfaa
open Go.RowKit Go.Maps Pl Il

set_option maxRecDepth 100000 in
set_option maxHeartbeats 4000000 in
theorem implGoOn_any (A : Na) (x : Et) (who : Int) (w : World) (hI : EIn w A x) (hn : A.n ≤ 2097152) (hn' : A.n' ≤ 2097152) (hw : EWf x) (hx : (Lit.int .i64 who).wf = true) :
    Calls Try.prog 37 #[.agg #[.bool x.au, .bool x.up, .slice A.a A.n A.c, .slice A.a' A.n' A.c', .int .i64 x.st, .int .i64 x.sp, .int .i64 x.tk], .int .i64 who] w fun e w' => EOutP w (goOnM x who).1 [.int .i64 (goOnM x who).2] e w' := by
  obtain ⟨au, up, ln, gs, st, sp, tk⟩ := x
  have hC := ectx_new hI
  have s1 : ((w.alloc (.cells #[.bool au, .bool up, .slice A.a A.n A.c, .slice A.a' A.n' A.c', .int .i64 st, .int .i64 sp, .int .i64 tk] 46)).alloc (.cells #[.bool false, .bool false, .slice none 0 0, .slice none 0 0, .int .i64 0, .int .i64 0, .int .i64 0] 46)).heap.size = w.heap.size + 2 := by simp
  have HL1 := hidOf hI.ints.len
  have HL2 := hidOf hI.grs.len
  have HCp := hidOf (flagOf_any A ⟨au, up, ln, gs, st, sp, tk⟩ _ hC.ninX hn hn' hw)
  have HC := hidOf hC
  have S1 := hidOf s1
  have hwl := hw.ln
  have hwg := hw.gs
  simp only at HL1 HL2 hwl hwg
  clear hC s1 hI
  go_enter Try.func37, Try.ntmps37
  go_wp2_with fail
  refine (HCp.out).mono ?_
  rintro e w1 ⟨b, A1, rfl, hAn, hM, hb1⟩
  rw [S1.out] at hM
  have hC1 := HC.out.kp hb1
  have HM := hidOf hM
  have HAn := hidOf hAn
  clear HC HCp S1 hb1 hM hAn
  have HC := hidOf hC1
  clear hC1
  cases au
  · cases hokx : okE ⟨false, up, ln, gs, st, sp, tk⟩
    · have HLa := hidOf (HM.out)
      have HR := hidOf (show goOnM ⟨false, up, ln, gs, st, sp, tk⟩ who = (⟨false, up, ln, gs, st, sp, tk⟩, 1) by unfold goOnM; rw [if_pos hokx])
      have mm := meth_man_event b
      clear hokx HM HAn
      go_wp2_with fail
      refine (event_any (w.heap.size + 2) b A1 ⟨false, up, ln, gs, st, sp, tk⟩ _ HLa.out).mono ?_
      rintro e w9 ⟨rfl, hb9⟩
      have hC9 := HC.out.kp hb9
      have HF := hidOf (est_fin (A' := A1) (y := ⟨false, up, ln, gs, st, sp, tk⟩) hC9 (HLa.out.keep hb9).wt.rows)
      obtain ⟨_, r0, r1, r2, r3, r4, r5, r6, rf⟩ := id hC9.box1
      clear HC HLa hb9 hC9 mm
      go_wp2
      refine bodyPost_ret (v := .tuple #[.agg #[.bool false, .bool up, .slice A1.a A1.n A1.c, .slice A1.a' A1.n' A1.c', .int .i64 st, .int .i64 sp, .int .i64 tk], .int .i64 1]) (by simp [results, Try.results37, go_sem, r0, r1, r2, r3, r4, r5, r6]) rfl ?_
      rw [HR.out]
      exact ⟨A1, rfl, HF.out⟩
    · have hn1 : ¬ (okE ⟨false, up, ln, gs, st, sp, tk⟩ = false) := by rw [hokx]; simp
      have hbo := okE_parts hokx
      simp only at hbo
      have HBo := hidOf hbo
      clear hbo
      clear hokx
      rcases turn_cases ln gs who with ⟨h0, h1⟩ | ⟨h0, h1, h2⟩ | ⟨h0, h1, h2⟩
      · have HR0 := hidOf (show goOnM ⟨false, up, ln, gs, st, sp, tk⟩ who = (⟨false, up, ln, gs, st, sp, tk⟩, 4) by unfold goOnM; rw [if_neg hn1, if_pos h1])
        have H0 := hidOf h0
        clear hn1 h0 h1
        have mq := meth_man_goOn b
        go_wp2_with fail
        refine (manGoOn_any (w.heap.size + 2) b A1 ⟨false, up, ln, gs, st, sp, tk⟩ who _ HM.out (by rw [HAn.out.1]; exact hn) (by rw [HAn.out.2]; exact hn') hw hx HBo.out.1.1 HBo.out.1.2.1).mono ?_
        rintro e w5 hP
        obtain ⟨A5, rfl, hM5, hB5⟩ := hP.1 (by rw [H0.out]; omega)
        clear mq
        have HC2 := hidOf (HC.out.keep hB5 (Nat.le_refl _))
        clear HC hB5 HM
        have HC := HC2
        clear HC2
        rw [H0.out]
        have HLa := hidOf (hM5)
        have HR := hidOf (HR0.out)
        have mm := meth_man_event b
        clear hM5 HR0 HAn HBo H0
        go_wp2_with fail
        refine (event_any (w.heap.size + 2) b A5 ⟨false, up, ln, gs, st, sp, tk⟩ _ HLa.out).mono ?_
        rintro e w9 ⟨rfl, hb9⟩
        have hC9 := HC.out.kp hb9
        have HF := hidOf (est_fin (A' := A5) (y := ⟨false, up, ln, gs, st, sp, tk⟩) hC9 (HLa.out.keep hb9).wt.rows)
        obtain ⟨_, r0, r1, r2, r3, r4, r5, r6, rf⟩ := id hC9.box1
        clear HC HLa hb9 hC9 mm
        go_wp2
        refine bodyPost_ret (v := .tuple #[.agg #[.bool false, .bool up, .slice A5.a A5.n A5.c, .slice A5.a' A5.n' A5.c', .int .i64 st, .int .i64 sp, .int .i64 tk], .int .i64 4]) (by simp [results, Try.results37, go_sem, r0, r1, r2, r3, r4, r5, r6]) rfl ?_
        rw [HR.out]
        exact ⟨A5, rfl, HF.out⟩
      · have HR0 := hidOf (show goOnM ⟨false, up, ln, gs, st, sp, tk⟩ who = (⟨false, up, ln, lessL gs who, st, sp, tk⟩, 0) by unfold goOnM; rw [if_neg hn1, if_neg (by rw [h1]; simp), if_neg (by rw [h2]; simp), if_neg (by simp)]; rfl)
        have H0 := hidOf h0
        clear hn1 h0 h1 h2
        have mq := meth_man_goOn b
        go_wp2_with fail
        refine (manGoOn_any (w.heap.size + 2) b A1 ⟨false, up, ln, gs, st, sp, tk⟩ who _ HM.out (by rw [HAn.out.1]; exact hn) (by rw [HAn.out.2]; exact hn') hw hx HBo.out.1.1 HBo.out.1.2.1).mono ?_
        rintro e w5 hP
        obtain ⟨A5, rfl, hM5, hB5⟩ := hP.2 H0.out
        clear mq
        have HC2 := hidOf (HC.out.keep hB5 (Nat.le_refl _))
        clear HC hB5 HM
        have HC := HC2
        clear HC2
        have HLa := hidOf (hM5)
        have HR := hidOf (HR0.out)
        have mm := meth_man_event b
        clear hM5 HR0 HAn HBo H0
        go_wp2_with fail
        refine (event_any (w.heap.size + 2) b A5 ⟨false, up, ln, lessL gs who, st, sp, tk⟩ _ HLa.out).mono ?_
        rintro e w9 ⟨rfl, hb9⟩
        have hC9 := HC.out.kp hb9
        have HF := hidOf (est_fin (A' := A5) (y := ⟨false, up, ln, lessL gs who, st, sp, tk⟩) hC9 (HLa.out.keep hb9).wt.rows)
        obtain ⟨_, r0, r1, r2, r3, r4, r5, r6, rf⟩ := id hC9.box1
        clear HC HLa hb9 hC9 mm
        go_wp2
        refine bodyPost_ret (v := .tuple #[.agg #[.bool false, .bool up, .slice A5.a A5.n A5.c, .slice A5.a' A5.n' A5.c', .int .i64 st, .int .i64 sp, .int .i64 tk], .int .i64 0]) (by simp [results, Try.results37, go_sem, r0, r1, r2, r3, r4, r5, r6]) rfl ?_
        rw [HR.out]
        exact ⟨A5, rfl, HF.out⟩
      · have HR0 := hidOf (show goOnM ⟨false, up, ln, gs, st, sp, tk⟩ who = (⟨false, up, ln, gs, st, sp, tk⟩, 3) by unfold goOnM; rw [if_neg hn1, if_neg (by rw [h1]; simp), if_pos h2])
        have H0 := hidOf h0
        clear hn1 h0 h1 h2
        have mq := meth_man_goOn b
        go_wp2_with fail
        refine (manGoOn_any (w.heap.size + 2) b A1 ⟨false, up, ln, gs, st, sp, tk⟩ who _ HM.out (by rw [HAn.out.1]; exact hn) (by rw [HAn.out.2]; exact hn') hw hx HBo.out.1.1 HBo.out.1.2.1).mono ?_
        rintro e w5 hP
        obtain ⟨A5, rfl, hM5, hB5⟩ := hP.1 (by rw [H0.out]; omega)
        clear mq
        have HC2 := hidOf (HC.out.keep hB5 (Nat.le_refl _))
        clear HC hB5 HM
        have HC := HC2
        clear HC2
        rw [H0.out]
        have HLa := hidOf (hM5)
        have HR := hidOf (HR0.out)
        have mm := meth_man_event b
        clear hM5 HR0 HAn HBo H0
        go_wp2_with fail
        refine (event_any (w.heap.size + 2) b A5 ⟨false, up, ln, gs, st, sp, tk⟩ _ HLa.out).mono ?_
        rintro e w9 ⟨rfl, hb9⟩
        have hC9 := HC.out.kp hb9
        have HF := hidOf (est_fin (A' := A5) (y := ⟨false, up, ln, gs, st, sp, tk⟩) hC9 (HLa.out.keep hb9).wt.rows)
        obtain ⟨_, r0, r1, r2, r3, r4, r5, r6, rf⟩ := id hC9.box1
        clear HC HLa hb9 hC9 mm
        go_wp2
        refine bodyPost_ret (v := .tuple #[.agg #[.bool false, .bool up, .slice A5.a A5.n A5.c, .slice A5.a' A5.n' A5.c', .int .i64 st, .int .i64 sp, .int .i64 tk], .int .i64 3]) (by simp [results, Try.results37, go_sem, r0, r1, r2, r3, r4, r5, r6]) rfl ?_
        rw [HR.out]
        exact ⟨A5, rfl, HF.out⟩
  · cases hokx : okE ⟨true, up, ln, gs, st, sp, tk⟩
    · have HLa := hidOf (HM.out)
      have HR := hidOf (show goOnM ⟨true, up, ln, gs, st, sp, tk⟩ who = (⟨true, up, ln, gs, st, sp, tk⟩, 1) by unfold goOnM; rw [if_pos hokx])
      have mm := meth_auto_event b
      clear hokx HM HAn
      go_wp2_with fail
      refine (autoEvent_any (w.heap.size + 2) b A1 ⟨true, up, ln, gs, st, sp, tk⟩ _ HLa.out).mono ?_
      rintro e w9 ⟨rfl, hb9⟩
      have hC9 := HC.out.kp hb9
      have HF := hidOf (est_fin (A' := A1) (y := ⟨true, up, ln, gs, st, sp, tk⟩) hC9 (HLa.out.keep hb9).wt.rows)
      obtain ⟨_, r0, r1, r2, r3, r4, r5, r6, rf⟩ := id hC9.box1
      clear HC HLa hb9 hC9 mm
      go_wp2
      refine bodyPost_ret (v := .tuple #[.agg #[.bool true, .bool up, .slice A1.a A1.n A1.c, .slice A1.a' A1.n' A1.c', .int .i64 st, .int .i64 sp, .int .i64 tk], .int .i64 1]) (by simp [results, Try.results37, go_sem, r0, r1, r2, r3, r4, r5, r6]) rfl ?_
      rw [HR.out]
      exact ⟨A1, rfl, HF.out⟩
    · have hn1 : ¬ (okE ⟨true, up, ln, gs, st, sp, tk⟩ = false) := by rw [hokx]; simp
      have hbo := okE_parts hokx
      simp only at hbo
      have HBo := hidOf hbo
      clear hbo
      clear hokx
      rcases turn_cases ln gs who with ⟨h0, h1⟩ | ⟨h0, h1, h2⟩ | ⟨h0, h1, h2⟩
      · have HR0 := hidOf (show goOnM ⟨true, up, ln, gs, st, sp, tk⟩ who = (⟨true, up, ln, gs, st, sp, tk⟩, 4) by unfold goOnM; rw [if_neg hn1, if_pos h1])
        have H0 := hidOf h0
        clear hn1 h0 h1
        have mq := meth_auto_goOn b
        go_wp2_with fail
        refine (autoGoOn_any (w.heap.size + 2) b A1 ⟨true, up, ln, gs, st, sp, tk⟩ who _ HM.out (by rw [HAn.out.1]; exact hn) (by rw [HAn.out.2]; exact hn') hw hx HBo.out.1.1 HBo.out.1.2.1 HBo.out.2.2.2.1).mono ?_
        rintro e w5 hP
        obtain ⟨A5, rfl, hM5, hB5⟩ := hP.1 (by rw [H0.out]; omega)
        clear mq
        have HC2 := hidOf (HC.out.keep hB5 (Nat.le_refl _))
        clear HC hB5 HM
        have HC := HC2
        clear HC2
        rw [H0.out]
        have HLa := hidOf (hM5)
        have HR := hidOf (HR0.out)
        have mm := meth_auto_event b
        clear hM5 HR0 HAn HBo H0
        go_wp2_with fail
        refine (autoEvent_any (w.heap.size + 2) b A5 ⟨true, up, ln, gs, st, sp, tk⟩ _ HLa.out).mono ?_
        rintro e w9 ⟨rfl, hb9⟩
        have hC9 := HC.out.kp hb9
        have HF := hidOf (est_fin (A' := A5) (y := ⟨true, up, ln, gs, st, sp, tk⟩) hC9 (HLa.out.keep hb9).wt.rows)
        obtain ⟨_, r0, r1, r2, r3, r4, r5, r6, rf⟩ := id hC9.box1
        clear HC HLa hb9 hC9 mm
        go_wp2
        refine bodyPost_ret (v := .tuple #[.agg #[.bool true, .bool up, .slice A5.a A5.n A5.c, .slice A5.a' A5.n' A5.c', .int .i64 st, .int .i64 sp, .int .i64 tk], .int .i64 4]) (by simp [results, Try.results37, go_sem, r0, r1, r2, r3, r4, r5, r6]) rfl ?_
        rw [HR.out]
        exact ⟨A5, rfl, HF.out⟩
      · by_cases h : tk = 1000000000
        · have HR0 := hidOf (show goOnM ⟨true, up, ln, gs, st, sp, tk⟩ who = (⟨true, up, ln, gs, st, sp, tk⟩, 2) by unfold goOnM; rw [if_neg hn1, if_neg (by rw [h1]; simp), if_neg (by rw [h2]; simp), if_pos ⟨rfl, by simp only; omega⟩])
          have H0 := hidOf h0
          have H := hidOf h
          clear hn1 h0 h1 h2 h
          have mq := meth_auto_goOn b
          go_wp2_with fail
          refine (autoGoOn_any (w.heap.size + 2) b A1 ⟨true, up, ln, gs, st, sp, tk⟩ who _ HM.out (by rw [HAn.out.1]; exact hn) (by rw [HAn.out.2]; exact hn') hw hx HBo.out.1.1 HBo.out.1.2.1 HBo.out.2.2.2.1).mono ?_
          rintro e w5 hP
          obtain ⟨A5, rfl, hM5, hB5⟩ := hP.2.1 H0.out H.out
          clear mq
          have HC2 := hidOf (HC.out.keep hB5 (Nat.le_refl _))
          clear HC hB5 HM
          have HC := HC2
          clear HC2
          have HLa := hidOf (hM5)
          have HR := hidOf (HR0.out)
          have mm := meth_auto_event b
          clear hM5 HR0 HAn HBo H0 H
          go_wp2_with fail
          refine (autoEvent_any (w.heap.size + 2) b A5 ⟨true, up, ln, gs, st, sp, tk⟩ _ HLa.out).mono ?_
          rintro e w9 ⟨rfl, hb9⟩
          have hC9 := HC.out.kp hb9
          have HF := hidOf (est_fin (A' := A5) (y := ⟨true, up, ln, gs, st, sp, tk⟩) hC9 (HLa.out.keep hb9).wt.rows)
          obtain ⟨_, r0, r1, r2, r3, r4, r5, r6, rf⟩ := id hC9.box1
          clear HC HLa hb9 hC9 mm
          go_wp2
          refine bodyPost_ret (v := .tuple #[.agg #[.bool true, .bool up, .slice A5.a A5.n A5.c, .slice A5.a' A5.n' A5.c', .int .i64 st, .int .i64 sp, .int .i64 tk], .int .i64 2]) (by simp [results, Try.results37, go_sem, r0, r1, r2, r3, r4, r5, r6]) rfl ?_
          rw [HR.out]
          exact ⟨A5, rfl, HF.out⟩
        · have HR0 := hidOf (show goOnM ⟨true, up, ln, gs, st, sp, tk⟩ who = (⟨true, up, ln, lessL gs who, st, sp, tk + 1⟩, 0) by unfold goOnM; rw [if_neg hn1, if_neg (by rw [h1]; simp), if_neg (by rw [h2]; simp), if_neg (fun hh => h (by have h8 := HBo.out.2.2.2.1; have h9 : (1000000000 : Int) ≤ tk := hh.2; omega))]; rfl)
          have H0 := hidOf h0
          have H := hidOf h
          have HE := hidOf (show lessL ln who = ln from List.erase_of_not_mem (by simpa [hasL] using h1))
          clear hn1 h0 h1 h2 h
          have mq := meth_auto_goOn b
          go_wp2_with fail
          refine (autoGoOn_any (w.heap.size + 2) b A1 ⟨true, up, ln, gs, st, sp, tk⟩ who _ HM.out (by rw [HAn.out.1]; exact hn) (by rw [HAn.out.2]; exact hn') hw hx HBo.out.1.1 HBo.out.1.2.1 HBo.out.2.2.2.1).mono ?_
          rintro e w5 hP
          obtain ⟨A5, rfl, hM5, hB5⟩ := hP.2.2 H0.out H.out
          clear mq
          have HC2 := hidOf (HC.out.keep hB5 (Nat.le_refl _))
          clear HC hB5 HM
          have HC := HC2
          clear HC2
          simp only [HE.out] at hM5
          have HLa := hidOf (hM5)
          have HR := hidOf (HR0.out)
          have mm := meth_auto_event b
          clear hM5 HR0 HAn HBo H0 H HE
          go_wp2_with fail
          refine (autoEvent_any (w.heap.size + 2) b A5 ⟨true, up, ln, lessL gs who, st, sp, tk + 1⟩ _ HLa.out).mono ?_
          rintro e w9 ⟨rfl, hb9⟩
          have hC9 := HC.out.kp hb9
          have HF := hidOf (est_fin (A' := A5) (y := ⟨true, up, ln, lessL gs who, st, sp, tk + 1⟩) hC9 (HLa.out.keep hb9).wt.rows)
          obtain ⟨_, r0, r1, r2, r3, r4, r5, r6, rf⟩ := id hC9.box1
          clear HC HLa hb9 hC9 mm
          go_wp2
          refine bodyPost_ret (v := .tuple #[.agg #[.bool true, .bool up, .slice A5.a A5.n A5.c, .slice A5.a' A5.n' A5.c', .int .i64 st, .int .i64 sp, .int .i64 (tk + 1)], .int .i64 0]) (by simp [results, Try.results37, go_sem, r0, r1, r2, r3, r4, r5, r6]) rfl ?_
          rw [HR.out]
          exact ⟨A5, rfl, HF.out⟩
      · have HR0 := hidOf (show goOnM ⟨true, up, ln, gs, st, sp, tk⟩ who = (⟨true, up, ln, gs, st, sp, tk⟩, 3) by unfold goOnM; rw [if_neg hn1, if_neg (by rw [h1]; simp), if_pos h2])
        have H0 := hidOf h0
        clear hn1 h0 h1 h2
        have mq := meth_auto_goOn b
        go_wp2_with fail
        refine (autoGoOn_any (w.heap.size + 2) b A1 ⟨true, up, ln, gs, st, sp, tk⟩ who _ HM.out (by rw [HAn.out.1]; exact hn) (by rw [HAn.out.2]; exact hn') hw hx HBo.out.1.1 HBo.out.1.2.1 HBo.out.2.2.2.1).mono ?_
        rintro e w5 hP
        obtain ⟨A5, rfl, hM5, hB5⟩ := hP.1 (by rw [H0.out]; omega)
        clear mq
        have HC2 := hidOf (HC.out.keep hB5 (Nat.le_refl _))
        clear HC hB5 HM
        have HC := HC2
        clear HC2
        rw [H0.out]
        have HLa := hidOf (hM5)
        have HR := hidOf (HR0.out)
        have mm := meth_auto_event b
        clear hM5 HR0 HAn HBo H0
        go_wp2_with fail
        refine (autoEvent_any (w.heap.size + 2) b A5 ⟨true, up, ln, gs, st, sp, tk⟩ _ HLa.out).mono ?_
        rintro e w9 ⟨rfl, hb9⟩
        have hC9 := HC.out.kp hb9
        have HF := hidOf (est_fin (A' := A5) (y := ⟨true, up, ln, gs, st, sp, tk⟩) hC9 (HLa.out.keep hb9).wt.rows)
        obtain ⟨_, r0, r1, r2, r3, r4, r5, r6, rf⟩ := id hC9.box1
        clear HC HLa hb9 hC9 mm
        go_wp2
        refine bodyPost_ret (v := .tuple #[.agg #[.bool true, .bool up, .slice A5.a A5.n A5.c, .slice A5.a' A5.n' A5.c', .int .i64 st, .int .i64 sp, .int .i64 tk], .int .i64 3]) (by simp [results, Try.results37, go_sem, r0, r1, r2, r3, r4, r5, r6]) rfl ?_
        rw [HR.out]
        exact ⟨A5, rfl, HF.out⟩
end Go.Proofs.Ytbhdjcggcgddfaa
