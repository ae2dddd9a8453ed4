/-
  The program's events: who stands at one.
-/
import Derived.Test.YtbhdjcggcgddfaaBE3
namespace Go.Proofs.Ytbhdjcggcgddfaa
open Go.RowKit Go.Maps Pl Il

set_option maxRecDepth 100000 in
set_option maxHeartbeats 4000000 in
theorem implStand_any (A : Na) (x : Et) (who : Int) (w : World) (hI : EIn w A x) (hn : A.n ≤ 2097152) (hn' : A.n' ≤ 2097152) (hw : EWf x) (hx : (Lit.int .i64 who).wf = true) :
    Calls Try.prog 40 #[.agg #[.bool x.au, .bool x.up, .slice A.a A.n A.c, .slice A.a' A.n' A.c', .int .i64 x.st, .int .i64 x.sp, .int .i64 x.tk], .int .i64 who] w fun e w' => EOutP w (standM x who).1 [.int .i64 (standM x who).2] e w' := by
  obtain ⟨au, up, ln, gs, st, sp, tk⟩ := x
  have hC := ectx_new hI
  have s1 : ((w.alloc (.cells #[.bool au, .bool up, .slice A.a A.n A.c, .slice A.a' A.n' A.c', .int .i64 st, .int .i64 sp, .int .i64 tk] 46)).alloc (.cells #[.bool false, .bool false, .slice none 0 0, .slice none 0 0, .int .i64 0, .int .i64 0, .int .i64 0] 46)).heap.size = w.heap.size + 2 := by simp
  have HL1 := hidOf hI.ints.len
  have HL2 := hidOf hI.grs.len
  have HCp := hidOf (flagOf_any A ⟨au, up, ln, gs, st, sp, tk⟩ _ hC.ninX hn hn' hw)
  have HC := hidOf hC
  have S1 := hidOf s1
  have hwl := hw.ln
  have hwg := hw.gs
  simp only at HL1 HL2 hwl hwg
  clear hC s1 hI
  go_enter Try.func40, Try.ntmps40
  go_wp2_with fail
  refine (HCp.out).mono ?_
  rintro e w1 ⟨b, A1, rfl, hAn, hM, hb1⟩
  rw [S1.out] at hM
  have hC1 := HC.out.kp hb1
  have HM := hidOf hM
  have HAn := hidOf hAn
  clear HC HCp S1 hb1 hM hAn
  have HC := hidOf hC1
  clear hC1
  cases au
  · cases hokx : okE ⟨false, up, ln, gs, st, sp, tk⟩
    · have HLa := hidOf (HM.out)
      have HR := hidOf (show standM ⟨false, up, ln, gs, st, sp, tk⟩ who = (⟨false, up, ln, gs, st, sp, tk⟩, 1) by unfold standM; rw [if_pos (.inl hokx)])
      have mm := meth_man_event b
      clear hokx HM HAn
      go_wp2_with fail
      refine (event_any (w.heap.size + 2) b A1 ⟨false, up, ln, gs, st, sp, tk⟩ _ HLa.out).mono ?_
      rintro e w9 ⟨rfl, hb9⟩
      have hC9 := HC.out.kp hb9
      have HF := hidOf (est_fin (A' := A1) (y := ⟨false, up, ln, gs, st, sp, tk⟩) hC9 (HLa.out.keep hb9).wt.rows)
      obtain ⟨_, r0, r1, r2, r3, r4, r5, r6, rf⟩ := id hC9.box1
      clear HC HLa hb9 hC9 mm
      go_wp2
      refine bodyPost_ret (v := .tuple #[.agg #[.bool false, .bool up, .slice A1.a A1.n A1.c, .slice A1.a' A1.n' A1.c', .int .i64 st, .int .i64 sp, .int .i64 tk], .int .i64 1]) (by simp [results, Try.results40, go_sem, r0, r1, r2, r3, r4, r5, r6]) rfl ?_
      rw [HR.out]
      exact ⟨A1, rfl, HF.out⟩
    · have hbo := okE_parts hokx
      simp only at hbo
      have HBo := hidOf hbo
      clear hbo
      go_wp2_with fail
      refine (isClient_any who _).mono ?_
      rintro e w2 ⟨rfl, rfl⟩
      cases hcl : clientL who
      · have HLa := hidOf (HM.out)
        have HR := hidOf (show standM ⟨false, up, ln, gs, st, sp, tk⟩ who = (⟨false, up, ln, gs, st, sp, tk⟩, 1) by unfold standM; rw [if_pos (.inr hcl)])
        have mm := meth_man_event b
        clear hokx hcl HM HAn HBo
        go_wp2_with fail
        refine (event_any (w.heap.size + 2) b A1 ⟨false, up, ln, gs, st, sp, tk⟩ _ HLa.out).mono ?_
        rintro e w9 ⟨rfl, hb9⟩
        have hC9 := HC.out.kp hb9
        have HF := hidOf (est_fin (A' := A1) (y := ⟨false, up, ln, gs, st, sp, tk⟩) hC9 (HLa.out.keep hb9).wt.rows)
        obtain ⟨_, r0, r1, r2, r3, r4, r5, r6, rf⟩ := id hC9.box1
        clear HC HLa hb9 hC9 mm
        go_wp2
        refine bodyPost_ret (v := .tuple #[.agg #[.bool false, .bool up, .slice A1.a A1.n A1.c, .slice A1.a' A1.n' A1.c', .int .i64 st, .int .i64 sp, .int .i64 tk], .int .i64 1]) (by simp [results, Try.results40, go_sem, r0, r1, r2, r3, r4, r5, r6]) rfl ?_
        rw [HR.out]
        exact ⟨A1, rfl, HF.out⟩
      · have hn1 : ¬ (okE ⟨false, up, ln, gs, st, sp, tk⟩ = false ∨ clientL who = false) := by rw [hokx, hcl]; simp
        clear hokx hcl
        rcases turn_cases ln gs who with ⟨h0, h1⟩ | ⟨h0, h1, h2⟩ | ⟨h0, h1, h2⟩
        · have HR0 := hidOf (show standM ⟨false, up, ln, gs, st, sp, tk⟩ who = (⟨false, up, ln, gs, st, sp, tk⟩, 5) by unfold standM; rw [if_neg hn1, if_pos (.inl h1)])
          have H0 := hidOf h0
          clear hn1 h0 h1
          have mq := meth_man_stand b
          go_wp2_with fail
          refine (manStand_any (w.heap.size + 2) b A1 ⟨false, up, ln, gs, st, sp, tk⟩ who _ HM.out (by rw [HAn.out.1]; exact hn) (by rw [HAn.out.2]; exact hn') hw hx).mono ?_
          rintro e w5 hP
          obtain ⟨A5, rfl, hM5, hB5⟩ := hP.1 (by rw [H0.out]; omega)
          clear mq
          have HC2 := hidOf (HC.out.keep hB5 (Nat.le_refl _))
          clear HC hB5 HM
          have HC := HC2
          clear HC2
          have HLa := hidOf (hM5)
          have HR := hidOf (HR0.out)
          have mm := meth_man_event b
          clear hM5 HR0 HAn HBo H0
          go_wp2_with fail
          refine (event_any (w.heap.size + 2) b A5 ⟨false, up, ln, gs, st, sp, tk⟩ _ HLa.out).mono ?_
          rintro e w9 ⟨rfl, hb9⟩
          have hC9 := HC.out.kp hb9
          have HF := hidOf (est_fin (A' := A5) (y := ⟨false, up, ln, gs, st, sp, tk⟩) hC9 (HLa.out.keep hb9).wt.rows)
          obtain ⟨_, r0, r1, r2, r3, r4, r5, r6, rf⟩ := id hC9.box1
          clear HC HLa hb9 hC9 mm
          go_wp2
          refine bodyPost_ret (v := .tuple #[.agg #[.bool false, .bool up, .slice A5.a A5.n A5.c, .slice A5.a' A5.n' A5.c', .int .i64 st, .int .i64 sp, .int .i64 tk], .int .i64 5]) (by simp [results, Try.results40, go_sem, r0, r1, r2, r3, r4, r5, r6]) rfl ?_
          rw [HR.out]
          exact ⟨A5, rfl, HF.out⟩
        · have HR0 := hidOf (show standM ⟨false, up, ln, gs, st, sp, tk⟩ who = (⟨false, up, ln, gs, st, sp, tk⟩, 5) by unfold standM; rw [if_neg hn1, if_pos (.inr h2)])
          have H0 := hidOf h0
          clear hn1 h0 h1 h2
          have mq := meth_man_stand b
          go_wp2_with fail
          refine (manStand_any (w.heap.size + 2) b A1 ⟨false, up, ln, gs, st, sp, tk⟩ who _ HM.out (by rw [HAn.out.1]; exact hn) (by rw [HAn.out.2]; exact hn') hw hx).mono ?_
          rintro e w5 hP
          obtain ⟨A5, rfl, hM5, hB5⟩ := hP.1 (by rw [H0.out]; omega)
          clear mq
          have HC2 := hidOf (HC.out.keep hB5 (Nat.le_refl _))
          clear HC hB5 HM
          have HC := HC2
          clear HC2
          have HLa := hidOf (hM5)
          have HR := hidOf (HR0.out)
          have mm := meth_man_event b
          clear hM5 HR0 HAn HBo H0
          go_wp2_with fail
          refine (event_any (w.heap.size + 2) b A5 ⟨false, up, ln, gs, st, sp, tk⟩ _ HLa.out).mono ?_
          rintro e w9 ⟨rfl, hb9⟩
          have hC9 := HC.out.kp hb9
          have HF := hidOf (est_fin (A' := A5) (y := ⟨false, up, ln, gs, st, sp, tk⟩) hC9 (HLa.out.keep hb9).wt.rows)
          obtain ⟨_, r0, r1, r2, r3, r4, r5, r6, rf⟩ := id hC9.box1
          clear HC HLa hb9 hC9 mm
          go_wp2
          refine bodyPost_ret (v := .tuple #[.agg #[.bool false, .bool up, .slice A5.a A5.n A5.c, .slice A5.a' A5.n' A5.c', .int .i64 st, .int .i64 sp, .int .i64 tk], .int .i64 5]) (by simp [results, Try.results40, go_sem, r0, r1, r2, r3, r4, r5, r6]) rfl ?_
          rw [HR.out]
          exact ⟨A5, rfl, HF.out⟩
        · have hn2 : ¬ (hasL ln who = true ∨ hasL gs who = true) := by rw [h1, h2]; simp
          clear h1 h2
          cases up
          · by_cases h32 : ln.length = 32
            · have HR0 := hidOf (show standM ⟨false, false, ln, gs, st, sp, tk⟩ who = (⟨false, false, ln, gs, st, sp, tk⟩, 2) by unfold standM; rw [if_neg hn1, if_neg hn2, if_pos (.inr ⟨rfl, by simp only; omega⟩)])
              have H0 := hidOf h0
              have H32 := hidOf h32
              clear hn1 hn2 h0 h32
              have mq := meth_man_stand b
              go_wp2_with fail
              refine (manStand_any (w.heap.size + 2) b A1 ⟨false, false, ln, gs, st, sp, tk⟩ who _ HM.out (by rw [HAn.out.1]; exact hn) (by rw [HAn.out.2]; exact hn') hw hx).mono ?_
              rintro e w5 hP
              obtain ⟨A5, rfl, hM5, hB5⟩ := (hP.2.2 H0.out rfl).1 H32.out
              clear mq
              have HC2 := hidOf (HC.out.keep hB5 (Nat.le_refl _))
              clear HC hB5 HM
              have HC := HC2
              clear HC2
              have HLa := hidOf (hM5)
              have HR := hidOf (HR0.out)
              have mm := meth_man_event b
              clear hM5 HR0 HAn HBo H0 H32
              go_wp2_with fail
              refine (event_any (w.heap.size + 2) b A5 ⟨false, false, ln, gs, st, sp, tk⟩ _ HLa.out).mono ?_
              rintro e w9 ⟨rfl, hb9⟩
              have hC9 := HC.out.kp hb9
              have HF := hidOf (est_fin (A' := A5) (y := ⟨false, false, ln, gs, st, sp, tk⟩) hC9 (HLa.out.keep hb9).wt.rows)
              obtain ⟨_, r0, r1, r2, r3, r4, r5, r6, rf⟩ := id hC9.box1
              clear HC HLa hb9 hC9 mm
              go_wp2
              refine bodyPost_ret (v := .tuple #[.agg #[.bool false, .bool false, .slice A5.a A5.n A5.c, .slice A5.a' A5.n' A5.c', .int .i64 st, .int .i64 sp, .int .i64 tk], .int .i64 2]) (by simp [results, Try.results40, go_sem, r0, r1, r2, r3, r4, r5, r6]) rfl ?_
              rw [HR.out]
              exact ⟨A5, rfl, HF.out⟩
            · have HR0 := hidOf (show standM ⟨false, false, ln, gs, st, sp, tk⟩ who = (⟨false, false, ln ++ [who], gs, st, sp, tk⟩, 4) by unfold standM; rw [if_neg hn1, if_neg hn2, if_neg (by rintro (hh | hh); cases hh.1; exact h32 (by have h8 := HBo.out.1.2.2.1; have h9 : 32 ≤ ln.length := hh.2; omega)), if_neg (by simp)])
              have H0 := hidOf h0
              have H32 := hidOf h32
              clear hn1 hn2 h0 h32
              have mq := meth_man_stand b
              go_wp2_with fail
              refine (manStand_any (w.heap.size + 2) b A1 ⟨false, false, ln, gs, st, sp, tk⟩ who _ HM.out (by rw [HAn.out.1]; exact hn) (by rw [HAn.out.2]; exact hn') hw hx).mono ?_
              rintro e w5 hP
              obtain ⟨A5, rfl, hM5, hB5⟩ := (hP.2.2 H0.out rfl).2 H32.out
              clear mq
              have HC2 := hidOf (HC.out.keep hB5 (Nat.le_refl _))
              clear HC hB5 HM
              have HC := HC2
              clear HC2
              have HLa := hidOf (hM5)
              have HR := hidOf (HR0.out)
              have mm := meth_man_event b
              clear hM5 HR0 HAn HBo H0 H32
              go_wp2_with fail
              refine (event_any (w.heap.size + 2) b A5 ⟨false, false, ln ++ [who], gs, st, sp, tk⟩ _ HLa.out).mono ?_
              rintro e w9 ⟨rfl, hb9⟩
              have hC9 := HC.out.kp hb9
              have HF := hidOf (est_fin (A' := A5) (y := ⟨false, false, ln ++ [who], gs, st, sp, tk⟩) hC9 (HLa.out.keep hb9).wt.rows)
              obtain ⟨_, r0, r1, r2, r3, r4, r5, r6, rf⟩ := id hC9.box1
              clear HC HLa hb9 hC9 mm
              go_wp2
              refine bodyPost_ret (v := .tuple #[.agg #[.bool false, .bool false, .slice A5.a A5.n A5.c, .slice A5.a' A5.n' A5.c', .int .i64 st, .int .i64 sp, .int .i64 tk], .int .i64 4]) (by simp [results, Try.results40, go_sem, r0, r1, r2, r3, r4, r5, r6]) rfl ?_
              rw [HR.out]
              exact ⟨A5, rfl, HF.out⟩
          · have HR0 := hidOf (show standM ⟨false, true, ln, gs, st, sp, tk⟩ who = (⟨false, true, ln, gs, st, sp, tk⟩, 0) by unfold standM; rw [if_neg hn1, if_neg hn2, if_neg (by rintro (hh | hh); cases hh.1; cases hh.1), if_pos rfl, if_neg (by simp)])
            have H0 := hidOf h0
            clear hn1 hn2 h0
            have mq := meth_man_stand b
            go_wp2_with fail
            refine (manStand_any (w.heap.size + 2) b A1 ⟨false, true, ln, gs, st, sp, tk⟩ who _ HM.out (by rw [HAn.out.1]; exact hn) (by rw [HAn.out.2]; exact hn') hw hx).mono ?_
            rintro e w5 hP
            obtain ⟨A5, rfl, hM5, hB5⟩ := hP.2.1 H0.out rfl
            clear mq
            have HC2 := hidOf (HC.out.keep hB5 (Nat.le_refl _))
            clear HC hB5 HM
            have HC := HC2
            clear HC2
            have HLa := hidOf (hM5)
            have HR := hidOf (HR0.out)
            have mm := meth_man_event b
            clear hM5 HR0 HAn HBo H0
            go_wp2_with fail
            refine (event_any (w.heap.size + 2) b A5 ⟨false, true, ln, gs, st, sp, tk⟩ _ HLa.out).mono ?_
            rintro e w9 ⟨rfl, hb9⟩
            have hC9 := HC.out.kp hb9
            have HF := hidOf (est_fin (A' := A5) (y := ⟨false, true, ln, gs, st, sp, tk⟩) hC9 (HLa.out.keep hb9).wt.rows)
            obtain ⟨_, r0, r1, r2, r3, r4, r5, r6, rf⟩ := id hC9.box1
            clear HC HLa hb9 hC9 mm
            go_wp2
            refine bodyPost_ret (v := .tuple #[.agg #[.bool false, .bool true, .slice A5.a A5.n A5.c, .slice A5.a' A5.n' A5.c', .int .i64 st, .int .i64 sp, .int .i64 tk], .int .i64 0]) (by simp [results, Try.results40, go_sem, r0, r1, r2, r3, r4, r5, r6]) rfl ?_
            rw [HR.out]
            exact ⟨A5, rfl, HF.out⟩
  · cases hokx : okE ⟨true, up, ln, gs, st, sp, tk⟩
    · have HLa := hidOf (HM.out)
      have HR := hidOf (show standM ⟨true, up, ln, gs, st, sp, tk⟩ who = (⟨true, up, ln, gs, st, sp, tk⟩, 1) by unfold standM; rw [if_pos (.inl hokx)])
      have mm := meth_auto_event b
      clear hokx HM HAn
      go_wp2_with fail
      refine (autoEvent_any (w.heap.size + 2) b A1 ⟨true, up, ln, gs, st, sp, tk⟩ _ HLa.out).mono ?_
      rintro e w9 ⟨rfl, hb9⟩
      have hC9 := HC.out.kp hb9
      have HF := hidOf (est_fin (A' := A1) (y := ⟨true, up, ln, gs, st, sp, tk⟩) hC9 (HLa.out.keep hb9).wt.rows)
      obtain ⟨_, r0, r1, r2, r3, r4, r5, r6, rf⟩ := id hC9.box1
      clear HC HLa hb9 hC9 mm
      go_wp2
      refine bodyPost_ret (v := .tuple #[.agg #[.bool true, .bool up, .slice A1.a A1.n A1.c, .slice A1.a' A1.n' A1.c', .int .i64 st, .int .i64 sp, .int .i64 tk], .int .i64 1]) (by simp [results, Try.results40, go_sem, r0, r1, r2, r3, r4, r5, r6]) rfl ?_
      rw [HR.out]
      exact ⟨A1, rfl, HF.out⟩
    · have hbo := okE_parts hokx
      simp only at hbo
      have HBo := hidOf hbo
      clear hbo
      go_wp2_with fail
      refine (isClient_any who _).mono ?_
      rintro e w2 ⟨rfl, rfl⟩
      cases hcl : clientL who
      · have HLa := hidOf (HM.out)
        have HR := hidOf (show standM ⟨true, up, ln, gs, st, sp, tk⟩ who = (⟨true, up, ln, gs, st, sp, tk⟩, 1) by unfold standM; rw [if_pos (.inr hcl)])
        have mm := meth_auto_event b
        clear hokx hcl HM HAn HBo
        go_wp2_with fail
        refine (autoEvent_any (w.heap.size + 2) b A1 ⟨true, up, ln, gs, st, sp, tk⟩ _ HLa.out).mono ?_
        rintro e w9 ⟨rfl, hb9⟩
        have hC9 := HC.out.kp hb9
        have HF := hidOf (est_fin (A' := A1) (y := ⟨true, up, ln, gs, st, sp, tk⟩) hC9 (HLa.out.keep hb9).wt.rows)
        obtain ⟨_, r0, r1, r2, r3, r4, r5, r6, rf⟩ := id hC9.box1
        clear HC HLa hb9 hC9 mm
        go_wp2
        refine bodyPost_ret (v := .tuple #[.agg #[.bool true, .bool up, .slice A1.a A1.n A1.c, .slice A1.a' A1.n' A1.c', .int .i64 st, .int .i64 sp, .int .i64 tk], .int .i64 1]) (by simp [results, Try.results40, go_sem, r0, r1, r2, r3, r4, r5, r6]) rfl ?_
        rw [HR.out]
        exact ⟨A1, rfl, HF.out⟩
      · have hn1 : ¬ (okE ⟨true, up, ln, gs, st, sp, tk⟩ = false ∨ clientL who = false) := by rw [hokx, hcl]; simp
        clear hokx hcl
        rcases turn_cases ln gs who with ⟨h0, h1⟩ | ⟨h0, h1, h2⟩ | ⟨h0, h1, h2⟩
        · have HR0 := hidOf (show standM ⟨true, up, ln, gs, st, sp, tk⟩ who = (⟨true, up, ln, gs, st, sp, tk⟩, 5) by unfold standM; rw [if_neg hn1, if_pos (.inl h1)])
          have H0 := hidOf h0
          clear hn1 h0 h1
          have mq := meth_auto_stand b
          go_wp2_with fail
          refine (autoStand_any (w.heap.size + 2) b A1 ⟨true, up, ln, gs, st, sp, tk⟩ who _ HM.out (by rw [HAn.out.1]; exact hn) (by rw [HAn.out.2]; exact hn') hw hx HBo.out.2.2.2.1).mono ?_
          rintro e w5 hP
          obtain ⟨A5, rfl, hM5, hB5⟩ := hP.1 (by rw [H0.out]; omega)
          clear mq
          have HC2 := hidOf (HC.out.keep hB5 (Nat.le_refl _))
          clear HC hB5 HM
          have HC := HC2
          clear HC2
          have HLa := hidOf (hM5)
          have HR := hidOf (HR0.out)
          have mm := meth_auto_event b
          clear hM5 HR0 HAn HBo H0
          go_wp2_with fail
          refine (autoEvent_any (w.heap.size + 2) b A5 ⟨true, up, ln, gs, st, sp, tk⟩ _ HLa.out).mono ?_
          rintro e w9 ⟨rfl, hb9⟩
          have hC9 := HC.out.kp hb9
          have HF := hidOf (est_fin (A' := A5) (y := ⟨true, up, ln, gs, st, sp, tk⟩) hC9 (HLa.out.keep hb9).wt.rows)
          obtain ⟨_, r0, r1, r2, r3, r4, r5, r6, rf⟩ := id hC9.box1
          clear HC HLa hb9 hC9 mm
          go_wp2
          refine bodyPost_ret (v := .tuple #[.agg #[.bool true, .bool up, .slice A5.a A5.n A5.c, .slice A5.a' A5.n' A5.c', .int .i64 st, .int .i64 sp, .int .i64 tk], .int .i64 5]) (by simp [results, Try.results40, go_sem, r0, r1, r2, r3, r4, r5, r6]) rfl ?_
          rw [HR.out]
          exact ⟨A5, rfl, HF.out⟩
        · have HR0 := hidOf (show standM ⟨true, up, ln, gs, st, sp, tk⟩ who = (⟨true, up, ln, gs, st, sp, tk⟩, 5) by unfold standM; rw [if_neg hn1, if_pos (.inr h2)])
          have H0 := hidOf h0
          clear hn1 h0 h1 h2
          have mq := meth_auto_stand b
          go_wp2_with fail
          refine (autoStand_any (w.heap.size + 2) b A1 ⟨true, up, ln, gs, st, sp, tk⟩ who _ HM.out (by rw [HAn.out.1]; exact hn) (by rw [HAn.out.2]; exact hn') hw hx HBo.out.2.2.2.1).mono ?_
          rintro e w5 hP
          obtain ⟨A5, rfl, hM5, hB5⟩ := hP.1 (by rw [H0.out]; omega)
          clear mq
          have HC2 := hidOf (HC.out.keep hB5 (Nat.le_refl _))
          clear HC hB5 HM
          have HC := HC2
          clear HC2
          have HLa := hidOf (hM5)
          have HR := hidOf (HR0.out)
          have mm := meth_auto_event b
          clear hM5 HR0 HAn HBo H0
          go_wp2_with fail
          refine (autoEvent_any (w.heap.size + 2) b A5 ⟨true, up, ln, gs, st, sp, tk⟩ _ HLa.out).mono ?_
          rintro e w9 ⟨rfl, hb9⟩
          have hC9 := HC.out.kp hb9
          have HF := hidOf (est_fin (A' := A5) (y := ⟨true, up, ln, gs, st, sp, tk⟩) hC9 (HLa.out.keep hb9).wt.rows)
          obtain ⟨_, r0, r1, r2, r3, r4, r5, r6, rf⟩ := id hC9.box1
          clear HC HLa hb9 hC9 mm
          go_wp2
          refine bodyPost_ret (v := .tuple #[.agg #[.bool true, .bool up, .slice A5.a A5.n A5.c, .slice A5.a' A5.n' A5.c', .int .i64 st, .int .i64 sp, .int .i64 tk], .int .i64 5]) (by simp [results, Try.results40, go_sem, r0, r1, r2, r3, r4, r5, r6]) rfl ?_
          rw [HR.out]
          exact ⟨A5, rfl, HF.out⟩
        · have hn2 : ¬ (hasL ln who = true ∨ hasL gs who = true) := by rw [h1, h2]; simp
          clear h1 h2
          by_cases h : tk = 1000000000
          · have HR0 := hidOf (show standM ⟨true, up, ln, gs, st, sp, tk⟩ who = (⟨true, up, ln, gs, st, sp, tk⟩, 2) by unfold standM; rw [if_neg hn1, if_neg hn2, if_pos (.inl ⟨rfl, by simp only; omega⟩)])
            have H0 := hidOf h0
            have H := hidOf h
            clear hn1 hn2 h0 h
            have mq := meth_auto_stand b
            go_wp2_with fail
            refine (autoStand_any (w.heap.size + 2) b A1 ⟨true, up, ln, gs, st, sp, tk⟩ who _ HM.out (by rw [HAn.out.1]; exact hn) (by rw [HAn.out.2]; exact hn') hw hx HBo.out.2.2.2.1).mono ?_
            rintro e w5 hP
            obtain ⟨A5, rfl, hM5, hB5⟩ := hP.2.1 H0.out H.out
            clear mq
            have HC2 := hidOf (HC.out.keep hB5 (Nat.le_refl _))
            clear HC hB5 HM
            have HC := HC2
            clear HC2
            have HLa := hidOf (hM5)
            have HR := hidOf (HR0.out)
            have mm := meth_auto_event b
            clear hM5 HR0 HAn HBo H0 H
            go_wp2_with fail
            refine (autoEvent_any (w.heap.size + 2) b A5 ⟨true, up, ln, gs, st, sp, tk⟩ _ HLa.out).mono ?_
            rintro e w9 ⟨rfl, hb9⟩
            have hC9 := HC.out.kp hb9
            have HF := hidOf (est_fin (A' := A5) (y := ⟨true, up, ln, gs, st, sp, tk⟩) hC9 (HLa.out.keep hb9).wt.rows)
            obtain ⟨_, r0, r1, r2, r3, r4, r5, r6, rf⟩ := id hC9.box1
            clear HC HLa hb9 hC9 mm
            go_wp2
            refine bodyPost_ret (v := .tuple #[.agg #[.bool true, .bool up, .slice A5.a A5.n A5.c, .slice A5.a' A5.n' A5.c', .int .i64 st, .int .i64 sp, .int .i64 tk], .int .i64 2]) (by simp [results, Try.results40, go_sem, r0, r1, r2, r3, r4, r5, r6]) rfl ?_
            rw [HR.out]
            exact ⟨A5, rfl, HF.out⟩
          · have H := hidOf h
            cases up
            · by_cases h32 : ln.length = 32
              · have HR0 := hidOf (show standM ⟨true, false, ln, gs, st, sp, tk⟩ who = (⟨true, false, ln, gs, st, sp, tk⟩, 2) by unfold standM; rw [if_neg hn1, if_neg hn2, if_pos (.inr ⟨rfl, by simp only; omega⟩)])
                have H0 := hidOf h0
                have H32 := hidOf h32
                clear hn1 hn2 h0 h32 h
                have mq := meth_auto_stand b
                go_wp2_with fail
                refine (autoStand_any (w.heap.size + 2) b A1 ⟨true, false, ln, gs, st, sp, tk⟩ who _ HM.out (by rw [HAn.out.1]; exact hn) (by rw [HAn.out.2]; exact hn') hw hx HBo.out.2.2.2.1).mono ?_
                rintro e w5 hP
                obtain ⟨A5, rfl, hM5, hB5⟩ := (hP.2.2.2 H0.out H.out rfl).1 H32.out
                clear mq
                have HC2 := hidOf (HC.out.keep hB5 (Nat.le_refl _))
                clear HC hB5 HM
                have HC := HC2
                clear HC2
                have HLa := hidOf (hM5)
                have HR := hidOf (HR0.out)
                have mm := meth_auto_event b
                clear hM5 HR0 HAn HBo H0 H32 H
                go_wp2_with fail
                refine (autoEvent_any (w.heap.size + 2) b A5 ⟨true, false, ln, gs, st, sp, tk⟩ _ HLa.out).mono ?_
                rintro e w9 ⟨rfl, hb9⟩
                have hC9 := HC.out.kp hb9
                have HF := hidOf (est_fin (A' := A5) (y := ⟨true, false, ln, gs, st, sp, tk⟩) hC9 (HLa.out.keep hb9).wt.rows)
                obtain ⟨_, r0, r1, r2, r3, r4, r5, r6, rf⟩ := id hC9.box1
                clear HC HLa hb9 hC9 mm
                go_wp2
                refine bodyPost_ret (v := .tuple #[.agg #[.bool true, .bool false, .slice A5.a A5.n A5.c, .slice A5.a' A5.n' A5.c', .int .i64 st, .int .i64 sp, .int .i64 tk], .int .i64 2]) (by simp [results, Try.results40, go_sem, r0, r1, r2, r3, r4, r5, r6]) rfl ?_
                rw [HR.out]
                exact ⟨A5, rfl, HF.out⟩
              · have HR0 := hidOf (show standM ⟨true, false, ln, gs, st, sp, tk⟩ who = (⟨true, false, ln ++ [who], gs, st, sp, tk⟩, 4) by unfold standM; rw [if_neg hn1, if_neg hn2, if_neg (by rintro (hh | hh); exact h (by have h8 := HBo.out.2.2.2.1; have h9 : (1000000000 : Int) ≤ tk := hh.2; omega); exact h32 (by have h8 := HBo.out.1.2.2.1; have h9 : 32 ≤ ln.length := hh.2; omega)), if_neg (by simp)])
                have H0 := hidOf h0
                have H32 := hidOf h32
                clear hn1 hn2 h0 h32 h
                have mq := meth_auto_stand b
                go_wp2_with fail
                refine (autoStand_any (w.heap.size + 2) b A1 ⟨true, false, ln, gs, st, sp, tk⟩ who _ HM.out (by rw [HAn.out.1]; exact hn) (by rw [HAn.out.2]; exact hn') hw hx HBo.out.2.2.2.1).mono ?_
                rintro e w5 hP
                obtain ⟨A5, rfl, hM5, hB5⟩ := (hP.2.2.2 H0.out H.out rfl).2 H32.out
                clear mq
                have HC2 := hidOf (HC.out.keep hB5 (Nat.le_refl _))
                clear HC hB5 HM
                have HC := HC2
                clear HC2
                have HLa := hidOf (hM5)
                have HR := hidOf (HR0.out)
                have mm := meth_auto_event b
                clear hM5 HR0 HAn HBo H0 H32 H
                go_wp2_with fail
                refine (autoEvent_any (w.heap.size + 2) b A5 ⟨true, false, ln ++ [who], gs, st, sp, tk⟩ _ HLa.out).mono ?_
                rintro e w9 ⟨rfl, hb9⟩
                have hC9 := HC.out.kp hb9
                have HF := hidOf (est_fin (A' := A5) (y := ⟨true, false, ln ++ [who], gs, st, sp, tk⟩) hC9 (HLa.out.keep hb9).wt.rows)
                obtain ⟨_, r0, r1, r2, r3, r4, r5, r6, rf⟩ := id hC9.box1
                clear HC HLa hb9 hC9 mm
                go_wp2
                refine bodyPost_ret (v := .tuple #[.agg #[.bool true, .bool false, .slice A5.a A5.n A5.c, .slice A5.a' A5.n' A5.c', .int .i64 st, .int .i64 sp, .int .i64 tk], .int .i64 4]) (by simp [results, Try.results40, go_sem, r0, r1, r2, r3, r4, r5, r6]) rfl ?_
                rw [HR.out]
                exact ⟨A5, rfl, HF.out⟩
            · have HR0 := hidOf (show standM ⟨true, true, ln, gs, st, sp, tk⟩ who = (⟨true, false, ln, gs, st, sp, tk + 1⟩, 0) by unfold standM; rw [if_neg hn1, if_neg hn2, if_neg (by rintro (hh | hh); exact h (by have h8 := HBo.out.2.2.2.1; have h9 : (1000000000 : Int) ≤ tk := hh.2; omega); cases hh.1), if_pos rfl, if_pos rfl])
              have H0 := hidOf h0
              clear hn1 hn2 h0 h
              have mq := meth_auto_stand b
              go_wp2_with fail
              refine (autoStand_any (w.heap.size + 2) b A1 ⟨true, true, ln, gs, st, sp, tk⟩ who _ HM.out (by rw [HAn.out.1]; exact hn) (by rw [HAn.out.2]; exact hn') hw hx HBo.out.2.2.2.1).mono ?_
              rintro e w5 hP
              obtain ⟨A5, rfl, hM5, hB5⟩ := hP.2.2.1 H0.out H.out rfl
              clear mq
              have HC2 := hidOf (HC.out.keep hB5 (Nat.le_refl _))
              clear HC hB5 HM
              have HC := HC2
              clear HC2
              have HLa := hidOf (hM5)
              have HR := hidOf (HR0.out)
              have mm := meth_auto_event b
              clear hM5 HR0 HAn HBo H0 H
              go_wp2_with fail
              refine (autoEvent_any (w.heap.size + 2) b A5 ⟨true, false, ln, gs, st, sp, tk + 1⟩ _ HLa.out).mono ?_
              rintro e w9 ⟨rfl, hb9⟩
              have hC9 := HC.out.kp hb9
              have HF := hidOf (est_fin (A' := A5) (y := ⟨true, false, ln, gs, st, sp, tk + 1⟩) hC9 (HLa.out.keep hb9).wt.rows)
              obtain ⟨_, r0, r1, r2, r3, r4, r5, r6, rf⟩ := id hC9.box1
              clear HC HLa hb9 hC9 mm
              go_wp2
              refine bodyPost_ret (v := .tuple #[.agg #[.bool true, .bool false, .slice A5.a A5.n A5.c, .slice A5.a' A5.n' A5.c', .int .i64 st, .int .i64 sp, .int .i64 (tk + 1)], .int .i64 0]) (by simp [results, Try.results40, go_sem, r0, r1, r2, r3, r4, r5, r6]) rfl ?_
              rw [HR.out]
              exact ⟨A5, rfl, HF.out⟩
end Go.Proofs.Ytbhdjcggcgddfaa
