/-
  The program's cells: who watches, who watches no more.
-/
import Derived.Test.YtbbhaekmjnincaaBC1
namespace Go.Proofs.Ytbbhaekmjnincaa
open Go.RowKit Go.Maps Pl Il

set_option maxRecDepth 100000 in
set_option maxHeartbeats 2000000 in
theorem implWatch_any (A : Na) (x : Ct) (who : Int) (seen : Int) (w : World) (hI : CIn w A x) (hn : A.n ≤ 2097152) (hn' : A.n' ≤ 2097152) (hw : CWf x) (hwho : (Lit.int .i64 who).wf = true) (_hseen : (Lit.int .i64 seen).wf = true) :
    Calls Try.prog 9 #[.agg #[.int .i64 x.kd, .int .i64 x.nu, .string x.tx, .int .i64 x.ve, .bool x.cl, .slice A.a A.n A.c, .slice A.a' A.n' A.c'], .int .i64 who, .int .i64 seen] w fun e w' => COutP w (watchM x who seen).1 [.int .i64 (watchM x who seen).2] e w' := by
  have hC := cctx_new hI
  have s1 : ((w.alloc (.cells #[.int .i64 x.kd, .int .i64 x.nu, .string x.tx, .int .i64 x.ve, .bool x.cl, .slice A.a A.n A.c, .slice A.a' A.n' A.c'] 29)).alloc (.cells #[.int .i64 0, .int .i64 0, .string ⟨#[]⟩, .int .i64 0, .bool false, .slice none 0 0, .slice none 0 0] 29)).heap.size = w.heap.size + 2 := by simp
  have HL1 := hidOf hI.ints.len
  have HL2 := hidOf hI.grs.len
  have htx := hI.tx
  have HCp := hidOf (cellBodyOf_any A x _ hC.ninX hn hn' hw)
  have HC := hidOf hC
  have S1 := hidOf s1
  clear hC s1 hI
  go_enter Try.func9, Try.ntmps9
  go_wp2_with fail
  refine (HCp.out).mono ?_
  rintro e w1 ⟨b, A1, rfl, hAn, hM, hb1⟩
  rw [S1.out] at hM
  have hC1 := HC.out.kp hb1
  have HM := hidOf hM
  have HAn := hidOf hAn
  clear HC HCp S1 hb1 hM hAn
  have HC := hidOf hC1
  clear hC1
  cases hokx : okC x
  · have HLa := hidOf (HM.out)
    have HR := hidOf (show watchM x who seen = (x, 1) by unfold watchM; rw [if_pos (.inl hokx)])
    clear hokx HM HAn
    go_wp2_with fail
    refine (cell_any (w.heap.size + 2) b A1 x _ HLa.out).mono ?_
    rintro e w9 ⟨rfl, hb9⟩
    have hC9 := HC.out.kp hb9
    have HF := hidOf (cst_fin (A' := A1) (y := x) hC9 (HLa.out.keep hb9).st.rows htx)
    obtain ⟨_, r0, r1, r2, r3, r4, r5, r6, rf⟩ := id hC9.box1
    clear HC HLa hb9 hC9
    go_wp2
    refine bodyPost_ret (v := .tuple #[.agg #[.int .i64 x.kd, .int .i64 x.nu, .string x.tx, .int .i64 x.ve, .bool x.cl, .slice A1.a A1.n A1.c, .slice A1.a' A1.n' A1.c'], .int .i64 1]) (by simp [results, Try.results9, go_sem, r0, r1, r2, r3, r4, r5, r6]) rfl ?_
    rw [HR.out]
    exact ⟨A1, rfl, HF.out⟩
  · have HBo := hidOf (okC_parts hokx)
    have HOK := hidOf hokx
    clear hokx
    go_wp2_with fail
    refine (isClient_any who _).mono ?_
    rintro e w2 ⟨rfl, rfl⟩
    cases hcl : clientL who
    · have HLa := hidOf (HM.out)
      have HR := hidOf (show watchM x who seen = (x, 1) by unfold watchM; rw [if_pos (.inr hcl)])
      clear hcl HM HAn HBo
      go_wp2_with fail
      refine (cell_any (w.heap.size + 2) b A1 x _ HLa.out).mono ?_
      rintro e w9 ⟨rfl, hb9⟩
      have hC9 := HC.out.kp hb9
      have HF := hidOf (cst_fin (A' := A1) (y := x) hC9 (HLa.out.keep hb9).st.rows htx)
      obtain ⟨_, r0, r1, r2, r3, r4, r5, r6, rf⟩ := id hC9.box1
      clear HC HLa hb9 hC9
      go_wp2
      refine bodyPost_ret (v := .tuple #[.agg #[.int .i64 x.kd, .int .i64 x.nu, .string x.tx, .int .i64 x.ve, .bool x.cl, .slice A1.a A1.n A1.c, .slice A1.a' A1.n' A1.c'], .int .i64 1]) (by simp [results, Try.results9, go_sem, r0, r1, r2, r3, r4, r5, r6]) rfl ?_
      rw [HR.out]
      exact ⟨A1, rfl, HF.out⟩
    · go_wp2_with fail
      refine (turnOf_any (w.heap.size + 2) b A1 x.ln x.gs who _ HM.out.st (by rw [HAn.out.1]; exact hn) (by rw [HAn.out.2]; exact hn') hw.ln hw.gs hwho).mono ?_
      rintro e w4 ⟨rfl, hb4⟩
      have hM4 := HM.out.keep hb4
      have hC4 := HC.out.kp hb4
      clear HC hb4 HM
      have HC := hidOf hC4
      have HM := hidOf hM4
      clear hC4 hM4
      rcases turn_cases x.ln x.gs who with ⟨h0, h1⟩ | ⟨h0, h1, h2⟩ | ⟨h0, h1, h2⟩
      · rw [h0]
        have HLa := hidOf (HM.out)
        have HR := hidOf (show watchM x who seen = (x, 5) by unfold watchM; rw [if_neg (by rw [HOK.out, hcl]; simp), if_pos (.inl h1)])
        clear h0 h1 HM HAn HBo hcl
        go_wp2_with fail
        refine (cell_any (w.heap.size + 2) b A1 x _ HLa.out).mono ?_
        rintro e w9 ⟨rfl, hb9⟩
        have hC9 := HC.out.kp hb9
        have HF := hidOf (cst_fin (A' := A1) (y := x) hC9 (HLa.out.keep hb9).st.rows htx)
        obtain ⟨_, r0, r1, r2, r3, r4, r5, r6, rf⟩ := id hC9.box1
        clear HC HLa hb9 hC9
        go_wp2
        refine bodyPost_ret (v := .tuple #[.agg #[.int .i64 x.kd, .int .i64 x.nu, .string x.tx, .int .i64 x.ve, .bool x.cl, .slice A1.a A1.n A1.c, .slice A1.a' A1.n' A1.c'], .int .i64 5]) (by simp [results, Try.results9, go_sem, r0, r1, r2, r3, r4, r5, r6]) rfl ?_
        rw [HR.out]
        exact ⟨A1, rfl, HF.out⟩
      · rw [h0]
        have HLa := hidOf (HM.out)
        have HR := hidOf (show watchM x who seen = (x, 5) by unfold watchM; rw [if_neg (by rw [HOK.out, hcl]; simp), if_pos (.inr h2)])
        clear h0 h1 h2 HM HAn HBo hcl
        go_wp2_with fail
        refine (cell_any (w.heap.size + 2) b A1 x _ HLa.out).mono ?_
        rintro e w9 ⟨rfl, hb9⟩
        have hC9 := HC.out.kp hb9
        have HF := hidOf (cst_fin (A' := A1) (y := x) hC9 (HLa.out.keep hb9).st.rows htx)
        obtain ⟨_, r0, r1, r2, r3, r4, r5, r6, rf⟩ := id hC9.box1
        clear HC HLa hb9 hC9
        go_wp2
        refine bodyPost_ret (v := .tuple #[.agg #[.int .i64 x.kd, .int .i64 x.nu, .string x.tx, .int .i64 x.ve, .bool x.cl, .slice A1.a A1.n A1.c, .slice A1.a' A1.n' A1.c'], .int .i64 5]) (by simp [results, Try.results9, go_sem, r0, r1, r2, r3, r4, r5, r6]) rfl ?_
        rw [HR.out]
        exact ⟨A1, rfl, HF.out⟩
      · rw [h0]
        have c5 := HM.out.ve
        have c6 := HM.out.cl
        clear h0
        by_cases hv : seen < x.ve
        · have HLa := hidOf (HM.out)
          have HR := hidOf (show watchM x who seen = (x, 0) by unfold watchM; rw [if_neg (by rw [HOK.out, hcl]; simp), if_neg (by rw [h1, h2]; simp), if_pos hv])
          clear HM HAn HBo h1 h2 hcl
          go_wp2_with fail
          refine (cell_any (w.heap.size + 2) b A1 x _ HLa.out).mono ?_
          rintro e w9 ⟨rfl, hb9⟩
          have hC9 := HC.out.kp hb9
          have HF := hidOf (cst_fin (A' := A1) (y := x) hC9 (HLa.out.keep hb9).st.rows htx)
          obtain ⟨_, r0, r1, r2, r3, r4, r5, r6, rf⟩ := id hC9.box1
          clear HC HLa hb9 hC9
          go_wp2
          refine bodyPost_ret (v := .tuple #[.agg #[.int .i64 x.kd, .int .i64 x.nu, .string x.tx, .int .i64 x.ve, .bool x.cl, .slice A1.a A1.n A1.c, .slice A1.a' A1.n' A1.c'], .int .i64 0]) (by simp [results, Try.results9, go_sem, r0, r1, r2, r3, r4, r5, r6]) rfl ?_
          rw [HR.out]
          exact ⟨A1, rfl, HF.out⟩
        · obtain ⟨bc, hbc⟩ : ∃ bc, bc = x.cl := ⟨_, rfl⟩
          rw [← hbc] at c6
          have HCl := hidOf hbc
          clear hbc
          cases bc
          · go_wp2_with fail
            refine (wait_any (w.heap.size + 2) b A1 x.ln x.gs who _ HM.out.st (by rw [HAn.out.1]; exact hn)).mono ?_
            rintro e w5 ⟨A5, rfl, hS5, hT5⟩
            have hM5 := HM.out.to hS5 hT5
            have hC5 := HC.out.keep hT5.below (Nat.le_refl _)
            clear HC hS5 hT5 HM c5 c6
            have HC := hidOf hC5
            clear hC5
            by_cases h32 : x.ln.length = 32
            · rw [if_pos h32] at hM5 ⊢
              have HLa := hidOf (hM5)
              have HR := hidOf (show watchM x who seen = (x, 2) by unfold watchM; rw [if_neg (by rw [HOK.out, hcl]; simp), if_neg (by rw [h1, h2]; simp), if_neg (by omega), if_neg (by rw [← HCl.out]; simp), if_pos h32])
              clear h32 hM5 HAn HBo h1 h2 hcl HCl
              go_wp2_with fail
              refine (cell_any (w.heap.size + 2) b A5 x _ HLa.out).mono ?_
              rintro e w9 ⟨rfl, hb9⟩
              have hC9 := HC.out.kp hb9
              have HF := hidOf (cst_fin (A' := A5) (y := x) hC9 (HLa.out.keep hb9).st.rows htx)
              obtain ⟨_, r0, r1, r2, r3, r4, r5, r6, rf⟩ := id hC9.box1
              clear HC HLa hb9 hC9
              go_wp2
              refine bodyPost_ret (v := .tuple #[.agg #[.int .i64 x.kd, .int .i64 x.nu, .string x.tx, .int .i64 x.ve, .bool x.cl, .slice A5.a A5.n A5.c, .slice A5.a' A5.n' A5.c'], .int .i64 2]) (by simp [results, Try.results9, go_sem, r0, r1, r2, r3, r4, r5, r6]) rfl ?_
              rw [HR.out]
              exact ⟨A5, rfl, HF.out⟩
            · rw [if_neg h32] at hM5 ⊢
              have HLa := hidOf (hM5)
              have HR := hidOf (show watchM x who seen = ({ x with ln := x.ln ++ [who] }, 4) by unfold watchM; rw [if_neg (by rw [HOK.out, hcl]; simp), if_neg (by rw [h1, h2]; simp), if_neg (by omega), if_neg (by rw [← HCl.out]; simp), if_neg h32])
              clear h32 hM5 HAn HBo h1 h2 hcl HCl
              go_wp2_with fail
              refine (cell_any (w.heap.size + 2) b A5 { x with ln := x.ln ++ [who] } _ HLa.out).mono ?_
              rintro e w9 ⟨rfl, hb9⟩
              have hC9 := HC.out.kp hb9
              have HF := hidOf (cst_fin (A' := A5) (y := { x with ln := x.ln ++ [who] }) hC9 (HLa.out.keep hb9).st.rows htx)
              obtain ⟨_, r0, r1, r2, r3, r4, r5, r6, rf⟩ := id hC9.box1
              clear HC HLa hb9 hC9
              go_wp2
              refine bodyPost_ret (v := .tuple #[.agg #[.int .i64 x.kd, .int .i64 x.nu, .string x.tx, .int .i64 x.ve, .bool x.cl, .slice A5.a A5.n A5.c, .slice A5.a' A5.n' A5.c'], .int .i64 4]) (by simp [results, Try.results9, go_sem, r0, r1, r2, r3, r4, r5, r6]) rfl ?_
              rw [HR.out]
              exact ⟨A5, rfl, HF.out⟩
          · have HLa := hidOf (HM.out)
            have HR := hidOf (show watchM x who seen = (x, 6) by unfold watchM; rw [if_neg (by rw [HOK.out, hcl]; simp), if_neg (by rw [h1, h2]; simp), if_neg (by omega), if_pos HCl.out.symm])
            clear HM HAn HBo h1 h2 hcl
            go_wp2_with fail
            refine (cell_any (w.heap.size + 2) b A1 x _ HLa.out).mono ?_
            rintro e w9 ⟨rfl, hb9⟩
            have hC9 := HC.out.kp hb9
            have HF := hidOf (cst_fin (A' := A1) (y := x) hC9 (HLa.out.keep hb9).st.rows htx)
            obtain ⟨_, r0, r1, r2, r3, r4, r5, r6, rf⟩ := id hC9.box1
            clear HC HLa hb9 hC9
            go_wp2
            refine bodyPost_ret (v := .tuple #[.agg #[.int .i64 x.kd, .int .i64 x.nu, .string x.tx, .int .i64 x.ve, .bool x.cl, .slice A1.a A1.n A1.c, .slice A1.a' A1.n' A1.c'], .int .i64 6]) (by simp [results, Try.results9, go_sem, r0, r1, r2, r3, r4, r5, r6]) rfl ?_
            rw [HR.out]
            exact ⟨A1, rfl, HF.out⟩
end Go.Proofs.Ytbbhaekmjnincaa
