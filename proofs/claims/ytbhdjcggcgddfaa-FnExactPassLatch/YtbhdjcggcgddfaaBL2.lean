/-
  The program's latches: who stands at one, who passes it, who quits it.
-/
import Derived.Test.YtbhdjcggcgddfaaBL1
namespace Go.Proofs.Ytbhdjcggcgddfaa
open Go.RowKit Go.Maps Pl Il

set_option maxRecDepth 100000 in
set_option maxHeartbeats 2000000 in
theorem implPassLatch_any (A : Na) (x : Lt) (who : Int) (w : World) (hI : LIn w A x) (hn : A.n ≤ 2097152) (hn' : A.n' ≤ 2097152) (hw : LWf x) (hx : (Lit.int .i64 who).wf = true) :
    Calls Try.prog 60 #[.agg #[.int .i64 x.ct, .slice A.a A.n A.c, .slice A.a' A.n' A.c'], .int .i64 who] w fun e w' => LOutP w (passM x who).1 [.int .i64 (passM x who).2] e w' := by
  have hC := lctx_new hI
  have s1 : ((w.alloc (.cells #[.int .i64 x.ct, .slice A.a A.n A.c, .slice A.a' A.n' A.c'] 78)).alloc (.cells #[.int .i64 0, .slice none 0 0, .slice none 0 0] 78)).heap.size = w.heap.size + 2 := by simp
  have HL1 := hidOf hI.ints.len
  have HL2 := hidOf hI.grs.len
  have HCp := hidOf (latchBodyOf_any A x _ hC.ninX hn hn' hw)
  have HC := hidOf hC
  have S1 := hidOf s1
  clear hC s1 hI
  go_enter Try.func60, Try.ntmps60
  go_wp2_with fail
  refine (HCp.out).mono ?_
  rintro e w1 ⟨b, A1, rfl, hAn, hM, hb1⟩
  rw [S1.out] at hM
  have hC1 := HC.out.kp hb1
  have HM := hidOf hM
  have HAn := hidOf hAn
  clear HC HCp S1 hb1 hM hAn
  have HC := hidOf hC1
  clear hC1
  cases hokx : okLa x
  · have HLa := hidOf (HM.out)
    have HR := hidOf (show passM x who = (x, 1) by unfold passM; rw [if_pos hokx])
    clear hokx HM HAn
    go_wp2_with fail
    refine (latch_any (w.heap.size + 2) b A1 x _ HLa.out).mono ?_
    rintro e w9 ⟨rfl, hb9⟩
    have hC9 := HC.out.kp hb9
    have HF := hidOf (lst_fin (A' := A1) (y := x) hC9 (HLa.out.keep hb9).st.rows)
    obtain ⟨_, r0, r1, r2, rf⟩ := id hC9.box1
    clear HC HLa hb9 hC9
    go_wp2
    refine bodyPost_ret (v := .tuple #[.agg #[.int .i64 x.ct, .slice A1.a A1.n A1.c, .slice A1.a' A1.n' A1.c'], .int .i64 1]) (by simp [results, Try.results60, go_sem, r0, r1, r2]) rfl ?_
    rw [HR.out]
    exact ⟨A1, rfl, HF.out⟩
  · have hbo := okLa_parts hokx
    have hn1 : ¬ (okLa x = false) := by simp [hokx]
    have HBo := hidOf hbo
    clear hbo hokx
    go_wp2_with fail
    refine (pass_any (w.heap.size + 2) b A1 x.ln x.gs who _ HM.out.st (by rw [HAn.out.1]; exact hn) (by rw [HAn.out.2]; exact hn') hw.ln hw.gs hx HBo.out.2.1 HBo.out.2.2).mono ?_
    rintro e w4 ⟨A4, rfl, hS4, hT4⟩
    have hM4 := HM.out.to hS4 hT4
    have hC4 := HC.out.keep hT4.below (Nat.le_refl _)
    clear HC hS4 hT4 HM
    have HC := hidOf hC4
    clear hC4
    rcases turn_cases x.ln x.gs who with ⟨h0, h1⟩ | ⟨h0, h1, h2⟩ | ⟨h0, h1, h2⟩
    · rw [h0] at hM4 ⊢
      rw [if_neg (by omega)] at hM4
      have HLa := hidOf (hM4)
      have HR := hidOf (show passM x who = (x, 4) by unfold passM; rw [if_neg hn1, if_pos h1])
      clear hn1 h0 h1 hM4 HAn HBo
      go_wp2_with fail
      refine (latch_any (w.heap.size + 2) b A4 x _ HLa.out).mono ?_
      rintro e w9 ⟨rfl, hb9⟩
      have hC9 := HC.out.kp hb9
      have HF := hidOf (lst_fin (A' := A4) (y := x) hC9 (HLa.out.keep hb9).st.rows)
      obtain ⟨_, r0, r1, r2, rf⟩ := id hC9.box1
      clear HC HLa hb9 hC9
      go_wp2
      refine bodyPost_ret (v := .tuple #[.agg #[.int .i64 x.ct, .slice A4.a A4.n A4.c, .slice A4.a' A4.n' A4.c'], .int .i64 4]) (by simp [results, Try.results60, go_sem, r0, r1, r2]) rfl ?_
      rw [HR.out]
      exact ⟨A4, rfl, HF.out⟩
    · rw [h0] at hM4 ⊢
      rw [if_pos rfl] at hM4
      have HLa := hidOf (hM4)
      have HR := hidOf (show passM x who = ({ x with gs := lessL x.gs who }, 0) by unfold passM; rw [if_neg hn1, if_neg (by rw [h1]; simp), if_pos h2])
      clear hn1 h0 h1 h2 hM4 HAn HBo
      go_wp2_with fail
      refine (latch_any (w.heap.size + 2) b A4 { x with gs := lessL x.gs who } _ HLa.out).mono ?_
      rintro e w9 ⟨rfl, hb9⟩
      have hC9 := HC.out.kp hb9
      have HF := hidOf (lst_fin (A' := A4) (y := { x with gs := lessL x.gs who }) hC9 (HLa.out.keep hb9).st.rows)
      obtain ⟨_, r0, r1, r2, rf⟩ := id hC9.box1
      clear HC HLa hb9 hC9
      go_wp2
      refine bodyPost_ret (v := .tuple #[.agg #[.int .i64 x.ct, .slice A4.a A4.n A4.c, .slice A4.a' A4.n' A4.c'], .int .i64 0]) (by simp [results, Try.results60, go_sem, r0, r1, r2]) rfl ?_
      rw [HR.out]
      exact ⟨A4, rfl, HF.out⟩
    · rw [h0] at hM4 ⊢
      rw [if_neg (by omega)] at hM4
      have HLa := hidOf (hM4)
      have HR := hidOf (show passM x who = (x, 3) by unfold passM; rw [if_neg hn1, if_neg (by rw [h1]; simp), if_neg (by rw [h2]; simp)])
      clear hn1 h0 h1 h2 hM4 HAn HBo
      go_wp2_with fail
      refine (latch_any (w.heap.size + 2) b A4 x _ HLa.out).mono ?_
      rintro e w9 ⟨rfl, hb9⟩
      have hC9 := HC.out.kp hb9
      have HF := hidOf (lst_fin (A' := A4) (y := x) hC9 (HLa.out.keep hb9).st.rows)
      obtain ⟨_, r0, r1, r2, rf⟩ := id hC9.box1
      clear HC HLa hb9 hC9
      go_wp2
      refine bodyPost_ret (v := .tuple #[.agg #[.int .i64 x.ct, .slice A4.a A4.n A4.c, .slice A4.a' A4.n' A4.c'], .int .i64 3]) (by simp [results, Try.results60, go_sem, r0, r1, r2]) rfl ?_
      rw [HR.out]
      exact ⟨A4, rfl, HF.out⟩
set_option maxRecDepth 100000 in
set_option maxHeartbeats 2000000 in
theorem implQuitLatch_any (A : Na) (x : Lt) (who : Int) (w : World) (hI : LIn w A x) (hn : A.n ≤ 2097152) (hn' : A.n' ≤ 2097152) (hw : LWf x) (hx : (Lit.int .i64 who).wf = true) :
    Calls Try.prog 69 #[.agg #[.int .i64 x.ct, .slice A.a A.n A.c, .slice A.a' A.n' A.c'], .int .i64 who] w fun e w' => LOutP w (quitM x who).1 [.int .i64 (quitM x who).2] e w' := by
  have hC := lctx_new hI
  have s1 : ((w.alloc (.cells #[.int .i64 x.ct, .slice A.a A.n A.c, .slice A.a' A.n' A.c'] 78)).alloc (.cells #[.int .i64 0, .slice none 0 0, .slice none 0 0] 78)).heap.size = w.heap.size + 2 := by simp
  have HL1 := hidOf hI.ints.len
  have HL2 := hidOf hI.grs.len
  have HCp := hidOf (latchBodyOf_any A x _ hC.ninX hn hn' hw)
  have HC := hidOf hC
  have S1 := hidOf s1
  clear hC s1 hI
  go_enter Try.func69, Try.ntmps69
  go_wp2_with fail
  refine (HCp.out).mono ?_
  rintro e w1 ⟨b, A1, rfl, hAn, hM, hb1⟩
  rw [S1.out] at hM
  have hC1 := HC.out.kp hb1
  have HM := hidOf hM
  have HAn := hidOf hAn
  clear HC HCp S1 hb1 hM hAn
  have HC := hidOf hC1
  clear hC1
  cases hokx : okLa x
  · have HLa := hidOf (HM.out)
    have HR := hidOf (show quitM x who = (x, 1) by unfold quitM; rw [if_pos hokx])
    clear hokx HM HAn
    go_wp2_with fail
    refine (latch_any (w.heap.size + 2) b A1 x _ HLa.out).mono ?_
    rintro e w9 ⟨rfl, hb9⟩
    have hC9 := HC.out.kp hb9
    have HF := hidOf (lst_fin (A' := A1) (y := x) hC9 (HLa.out.keep hb9).st.rows)
    obtain ⟨_, r0, r1, r2, rf⟩ := id hC9.box1
    clear HC HLa hb9 hC9
    go_wp2
    refine bodyPost_ret (v := .tuple #[.agg #[.int .i64 x.ct, .slice A1.a A1.n A1.c, .slice A1.a' A1.n' A1.c'], .int .i64 1]) (by simp [results, Try.results69, go_sem, r0, r1, r2]) rfl ?_
    rw [HR.out]
    exact ⟨A1, rfl, HF.out⟩
  · have hbo := okLa_parts hokx
    have hn1 : ¬ (okLa x = false) := by simp [hokx]
    have HBo := hidOf hbo
    clear hbo hokx
    go_wp2_with fail
    refine (quit_any (w.heap.size + 2) b A1 x.ln x.gs who _ HM.out.st (by rw [HAn.out.1]; exact hn) (by rw [HAn.out.2]; exact hn') hw.ln hw.gs hx HBo.out.2.1 HBo.out.2.2).mono ?_
    rintro e w4 ⟨A4, rfl, hS4, hT4⟩
    have hM4 := HM.out.to hS4 hT4
    have hC4 := HC.out.keep hT4.below (Nat.le_refl _)
    clear HC hS4 hT4 HM
    have HC := hidOf hC4
    clear hC4
    rcases turn_cases x.ln x.gs who with ⟨h0, h1⟩ | ⟨h0, h1, h2⟩ | ⟨h0, h1, h2⟩
    · rw [h0]
      have HLa := hidOf (hM4)
      have HR := hidOf (show quitM x who = ({ x with ln := lessL x.ln who, gs := lessL x.gs who }, 0) by unfold quitM; rw [if_neg hn1, if_neg (by simp [h1])])
      clear hn1 h0 h1 hM4 HAn HBo
      go_wp2_with fail
      refine (latch_any (w.heap.size + 2) b A4 { x with ln := lessL x.ln who, gs := lessL x.gs who } _ HLa.out).mono ?_
      rintro e w9 ⟨rfl, hb9⟩
      have hC9 := HC.out.kp hb9
      have HF := hidOf (lst_fin (A' := A4) (y := { x with ln := lessL x.ln who, gs := lessL x.gs who }) hC9 (HLa.out.keep hb9).st.rows)
      obtain ⟨_, r0, r1, r2, rf⟩ := id hC9.box1
      clear HC HLa hb9 hC9
      go_wp2
      refine bodyPost_ret (v := .tuple #[.agg #[.int .i64 x.ct, .slice A4.a A4.n A4.c, .slice A4.a' A4.n' A4.c'], .int .i64 0]) (by simp [results, Try.results69, go_sem, r0, r1, r2]) rfl ?_
      rw [HR.out]
      exact ⟨A4, rfl, HF.out⟩
    · rw [h0]
      have HLa := hidOf (hM4)
      have HR := hidOf (show quitM x who = ({ x with ln := lessL x.ln who, gs := lessL x.gs who }, 0) by unfold quitM; rw [if_neg hn1, if_neg (by simp [h2])])
      clear hn1 h0 h1 h2 hM4 HAn HBo
      go_wp2_with fail
      refine (latch_any (w.heap.size + 2) b A4 { x with ln := lessL x.ln who, gs := lessL x.gs who } _ HLa.out).mono ?_
      rintro e w9 ⟨rfl, hb9⟩
      have hC9 := HC.out.kp hb9
      have HF := hidOf (lst_fin (A' := A4) (y := { x with ln := lessL x.ln who, gs := lessL x.gs who }) hC9 (HLa.out.keep hb9).st.rows)
      obtain ⟨_, r0, r1, r2, rf⟩ := id hC9.box1
      clear HC HLa hb9 hC9
      go_wp2
      refine bodyPost_ret (v := .tuple #[.agg #[.int .i64 x.ct, .slice A4.a A4.n A4.c, .slice A4.a' A4.n' A4.c'], .int .i64 0]) (by simp [results, Try.results69, go_sem, r0, r1, r2]) rfl ?_
      rw [HR.out]
      exact ⟨A4, rfl, HF.out⟩
    · rw [h0]
      have e1 : lessL x.ln who = x.ln := List.erase_of_not_mem (by simpa [hasL] using h1)
      have e2 : lessL x.gs who = x.gs := List.erase_of_not_mem (by simpa [hasL] using h2)
      rw [e1, e2] at hM4
      clear e1 e2
      have HLa := hidOf (hM4)
      have HR := hidOf (show quitM x who = (x, 3) by unfold quitM; rw [if_neg hn1, if_pos ⟨h1, h2⟩])
      clear hn1 h0 h1 h2 hM4 HAn HBo
      go_wp2_with fail
      refine (latch_any (w.heap.size + 2) b A4 x _ HLa.out).mono ?_
      rintro e w9 ⟨rfl, hb9⟩
      have hC9 := HC.out.kp hb9
      have HF := hidOf (lst_fin (A' := A4) (y := x) hC9 (HLa.out.keep hb9).st.rows)
      obtain ⟨_, r0, r1, r2, rf⟩ := id hC9.box1
      clear HC HLa hb9 hC9
      go_wp2
      refine bodyPost_ret (v := .tuple #[.agg #[.int .i64 x.ct, .slice A4.a A4.n A4.c, .slice A4.a' A4.n' A4.c'], .int .i64 3]) (by simp [results, Try.results69, go_sem, r0, r1, r2]) rfl ?_
      rw [HR.out]
      exact ⟨A4, rfl, HF.out⟩
set_option maxRecDepth 100000 in
set_option maxHeartbeats 2000000 in
theorem implStandAt_any (A : Na) (x : Lt) (who : Int) (w : World) (hI : LIn w A x) (hn : A.n ≤ 2097152) (hn' : A.n' ≤ 2097152) (hw : LWf x) (hx : (Lit.int .i64 who).wf = true) :
    Calls Try.prog 58 #[.agg #[.int .i64 x.ct, .slice A.a A.n A.c, .slice A.a' A.n' A.c'], .int .i64 who] w fun e w' => LOutP w (standAtM x who).1 [.int .i64 (standAtM x who).2] e w' := by
  have hC := lctx_new hI
  have s1 : ((w.alloc (.cells #[.int .i64 x.ct, .slice A.a A.n A.c, .slice A.a' A.n' A.c'] 78)).alloc (.cells #[.int .i64 0, .slice none 0 0, .slice none 0 0] 78)).heap.size = w.heap.size + 2 := by simp
  have HL1 := hidOf hI.ints.len
  have HL2 := hidOf hI.grs.len
  have HCp := hidOf (latchBodyOf_any A x _ hC.ninX hn hn' hw)
  have HC := hidOf hC
  have S1 := hidOf s1
  clear hC s1 hI
  go_enter Try.func58, Try.ntmps58
  go_wp2_with fail
  refine (HCp.out).mono ?_
  rintro e w1 ⟨b, A1, rfl, hAn, hM, hb1⟩
  rw [S1.out] at hM
  have hC1 := HC.out.kp hb1
  have HM := hidOf hM
  have HAn := hidOf hAn
  clear HC HCp S1 hb1 hM hAn
  have HC := hidOf hC1
  clear hC1
  cases hokx : okLa x
  · have HLa := hidOf (HM.out)
    have HR := hidOf (show standAtM x who = (x, 1) by unfold standAtM; rw [if_pos (.inl hokx)])
    clear hokx HM HAn
    go_wp2_with fail
    refine (latch_any (w.heap.size + 2) b A1 x _ HLa.out).mono ?_
    rintro e w9 ⟨rfl, hb9⟩
    have hC9 := HC.out.kp hb9
    have HF := hidOf (lst_fin (A' := A1) (y := x) hC9 (HLa.out.keep hb9).st.rows)
    obtain ⟨_, r0, r1, r2, rf⟩ := id hC9.box1
    clear HC HLa hb9 hC9
    go_wp2
    refine bodyPost_ret (v := .tuple #[.agg #[.int .i64 x.ct, .slice A1.a A1.n A1.c, .slice A1.a' A1.n' A1.c'], .int .i64 1]) (by simp [results, Try.results58, go_sem, r0, r1, r2]) rfl ?_
    rw [HR.out]
    exact ⟨A1, rfl, HF.out⟩
  · have hbo := okLa_parts hokx
    have HBo := hidOf hbo
    clear hbo
    go_wp2_with fail
    refine (isClient_any who _).mono ?_
    rintro e w2 ⟨rfl, rfl⟩
    cases hcl : clientL who
    · have HLa := hidOf (HM.out)
      have HR := hidOf (show standAtM x who = (x, 1) by unfold standAtM; rw [if_pos (.inr hcl)])
      clear hcl hokx HM HAn HBo
      go_wp2_with fail
      refine (latch_any (w.heap.size + 2) b A1 x _ HLa.out).mono ?_
      rintro e w9 ⟨rfl, hb9⟩
      have hC9 := HC.out.kp hb9
      have HF := hidOf (lst_fin (A' := A1) (y := x) hC9 (HLa.out.keep hb9).st.rows)
      obtain ⟨_, r0, r1, r2, rf⟩ := id hC9.box1
      clear HC HLa hb9 hC9
      go_wp2
      refine bodyPost_ret (v := .tuple #[.agg #[.int .i64 x.ct, .slice A1.a A1.n A1.c, .slice A1.a' A1.n' A1.c'], .int .i64 1]) (by simp [results, Try.results58, go_sem, r0, r1, r2]) rfl ?_
      rw [HR.out]
      exact ⟨A1, rfl, HF.out⟩
    · have hn1 : ¬ (okLa x = false ∨ clientL who = false) := by simp [hokx, hcl]
      clear hokx hcl
      go_wp2_with fail
      refine (turnOf_any (w.heap.size + 2) b A1 x.ln x.gs who _ HM.out.st (by rw [HAn.out.1]; exact hn) (by rw [HAn.out.2]; exact hn') hw.ln hw.gs hx).mono ?_
      rintro e w4 ⟨rfl, hb4⟩
      have hM4 := HM.out.keep hb4
      have hC4 := HC.out.kp hb4
      clear HC hb4 HM
      have HC := hidOf hC4
      have HM := hidOf hM4
      clear hC4 hM4
      rcases turn_cases x.ln x.gs who with ⟨h0, h1⟩ | ⟨h0, h1, h2⟩ | ⟨h0, h1, h2⟩
      · rw [h0]
        have HLa := hidOf (HM.out)
        have HR := hidOf (show standAtM x who = (x, 5) by unfold standAtM; rw [if_neg hn1, if_pos (.inl h1)])
        clear hn1 h0 h1 HM HAn HBo
        go_wp2_with fail
        refine (latch_any (w.heap.size + 2) b A1 x _ HLa.out).mono ?_
        rintro e w9 ⟨rfl, hb9⟩
        have hC9 := HC.out.kp hb9
        have HF := hidOf (lst_fin (A' := A1) (y := x) hC9 (HLa.out.keep hb9).st.rows)
        obtain ⟨_, r0, r1, r2, rf⟩ := id hC9.box1
        clear HC HLa hb9 hC9
        go_wp2
        refine bodyPost_ret (v := .tuple #[.agg #[.int .i64 x.ct, .slice A1.a A1.n A1.c, .slice A1.a' A1.n' A1.c'], .int .i64 5]) (by simp [results, Try.results58, go_sem, r0, r1, r2]) rfl ?_
        rw [HR.out]
        exact ⟨A1, rfl, HF.out⟩
      · rw [h0]
        have HLa := hidOf (HM.out)
        have HR := hidOf (show standAtM x who = (x, 5) by unfold standAtM; rw [if_neg hn1, if_pos (.inr h2)])
        clear hn1 h0 h1 h2 HM HAn HBo
        go_wp2_with fail
        refine (latch_any (w.heap.size + 2) b A1 x _ HLa.out).mono ?_
        rintro e w9 ⟨rfl, hb9⟩
        have hC9 := HC.out.kp hb9
        have HF := hidOf (lst_fin (A' := A1) (y := x) hC9 (HLa.out.keep hb9).st.rows)
        obtain ⟨_, r0, r1, r2, rf⟩ := id hC9.box1
        clear HC HLa hb9 hC9
        go_wp2
        refine bodyPost_ret (v := .tuple #[.agg #[.int .i64 x.ct, .slice A1.a A1.n A1.c, .slice A1.a' A1.n' A1.c'], .int .i64 5]) (by simp [results, Try.results58, go_sem, r0, r1, r2]) rfl ?_
        rw [HR.out]
        exact ⟨A1, rfl, HF.out⟩
      · rw [h0]
        have hn2 : ¬ (hasL x.ln who = true ∨ hasL x.gs who = true) := by simp [h1, h2]
        have c2 := HM.out.ct
        clear h0 h1 h2
        by_cases hz : x.ct = 0
        · have hz' : (x.ct == 0) = true := by simp [hz]
          have HLa := hidOf (HM.out)
          have HR := hidOf (show standAtM x who = (x, 0) by unfold standAtM; rw [if_neg hn1, if_neg hn2, if_pos hz])
          clear hn1 hn2 hz HM HAn HBo
          go_wp2_with fail
          refine (latch_any (w.heap.size + 2) b A1 x _ HLa.out).mono ?_
          rintro e w9 ⟨rfl, hb9⟩
          have hC9 := HC.out.kp hb9
          have HF := hidOf (lst_fin (A' := A1) (y := x) hC9 (HLa.out.keep hb9).st.rows)
          obtain ⟨_, r0, r1, r2, rf⟩ := id hC9.box1
          clear HC HLa hb9 hC9
          go_wp2
          refine bodyPost_ret (v := .tuple #[.agg #[.int .i64 x.ct, .slice A1.a A1.n A1.c, .slice A1.a' A1.n' A1.c'], .int .i64 0]) (by simp [results, Try.results58, go_sem, r0, r1, r2]) rfl ?_
          rw [HR.out]
          exact ⟨A1, rfl, HF.out⟩
        · have hz' : (x.ct == 0) = false := by simp [hz]
          have HZ := hidOf hz
          have HN1 := hidOf hn1
          have HN2 := hidOf hn2
          clear hz hn1 hn2
          go_wp2_with fail
          refine (wait_any (w.heap.size + 2) b A1 x.ln x.gs who _ HM.out.st (by rw [HAn.out.1]; exact hn)).mono ?_
          rintro e w5 ⟨A5, rfl, hS5, hT5⟩
          have hM5 := HM.out.to hS5 hT5
          have hC5 := HC.out.keep hT5.below (Nat.le_refl _)
          clear HC hS5 hT5 HM c2
          have HC := hidOf hC5
          clear hC5
          by_cases h32 : x.ln.length = 32
          · rw [if_pos h32] at hM5 ⊢
            have HLa := hidOf (hM5)
            have HR := hidOf (show standAtM x who = (x, 2) by unfold standAtM; rw [if_neg HN1.out, if_neg HN2.out, if_neg HZ.out, if_pos h32])
            clear HN1 HN2 HZ h32 hM5 HAn HBo
            go_wp2_with fail
            refine (latch_any (w.heap.size + 2) b A5 x _ HLa.out).mono ?_
            rintro e w9 ⟨rfl, hb9⟩
            have hC9 := HC.out.kp hb9
            have HF := hidOf (lst_fin (A' := A5) (y := x) hC9 (HLa.out.keep hb9).st.rows)
            obtain ⟨_, r0, r1, r2, rf⟩ := id hC9.box1
            clear HC HLa hb9 hC9
            go_wp2
            refine bodyPost_ret (v := .tuple #[.agg #[.int .i64 x.ct, .slice A5.a A5.n A5.c, .slice A5.a' A5.n' A5.c'], .int .i64 2]) (by simp [results, Try.results58, go_sem, r0, r1, r2]) rfl ?_
            rw [HR.out]
            exact ⟨A5, rfl, HF.out⟩
          · rw [if_neg h32] at hM5 ⊢
            have HLa := hidOf (hM5)
            have HR := hidOf (show standAtM x who = ({ x with ln := x.ln ++ [who] }, 4) by unfold standAtM; rw [if_neg HN1.out, if_neg HN2.out, if_neg HZ.out, if_neg h32])
            clear HN1 HN2 HZ h32 hM5 HAn HBo
            go_wp2_with fail
            refine (latch_any (w.heap.size + 2) b A5 { x with ln := x.ln ++ [who] } _ HLa.out).mono ?_
            rintro e w9 ⟨rfl, hb9⟩
            have hC9 := HC.out.kp hb9
            have HF := hidOf (lst_fin (A' := A5) (y := { x with ln := x.ln ++ [who] }) hC9 (HLa.out.keep hb9).st.rows)
            obtain ⟨_, r0, r1, r2, rf⟩ := id hC9.box1
            clear HC HLa hb9 hC9
            go_wp2
            refine bodyPost_ret (v := .tuple #[.agg #[.int .i64 x.ct, .slice A5.a A5.n A5.c, .slice A5.a' A5.n' A5.c'], .int .i64 4]) (by simp [results, Try.results58, go_sem, r0, r1, r2]) rfl ?_
            rw [HR.out]
            exact ⟨A5, rfl, HF.out⟩
end Go.Proofs.Ytbhdjcggcgddfaa
