/-
  The program's cells: who has been told.
-/
import Derived.Test.YtbbhaekmjnincaaBC3
import Derived.Test.YtbbhaekmjnincaaCM9
import Derived.Deep.RegionWith
namespace Go.Proofs.Ytbbhaekmjnincaa
open Go.RowKit Go.Maps Pl Il

set_option maxRecDepth 100000 in
set_option maxHeartbeats 2000000 in
theorem implSeen_any (A : Na) (x : Ct) (who : Int) (w : World) (hI : CIn w A x) (hn : A.n ≤ 2097152) (hn' : A.n' ≤ 2097152) (hw : CWf x) (hwho : (Lit.int .i64 who).wf = true) :
    Calls Try.prog 8 #[.agg #[.int .i64 x.kd, .int .i64 x.nu, .string x.tx, .int .i64 x.ve, .bool x.cl, .slice A.a A.n A.c, .slice A.a' A.n' A.c'], .int .i64 who] w fun e w' => COutP w (seenM x who).1 [.agg #[.int .i64 (seenM x who).2.1, .int .i64 (seenM x who).2.2.1, .string (seenM x who).2.2.2.1], .int .i64 (seenM x who).2.2.2.2.1, .int .i64 (seenM x who).2.2.2.2.2] e w' := by
  have hC := cc3_new hI
  have s1 : (((w.alloc (.cells #[.int .i64 x.kd, .int .i64 x.nu, .string x.tx, .int .i64 x.ve, .bool x.cl, .slice A.a A.n A.c, .slice A.a' A.n' A.c'] 29)).alloc (.cells #[.int .i64 0, .int .i64 0, .string ⟨#[]⟩, .int .i64 0, .bool false, .slice none 0 0, .slice none 0 0] 29)).alloc (.cells #[.int .i64 0, .int .i64 0, .string ⟨#[]⟩] 25)).heap.size = w.heap.size + 3 := by simp
  have HL1 := hidOf hI.ints.len
  have HL2 := hidOf hI.grs.len
  have htx := hI.tx
  have HCp := hidOf (cellBodyOf_any A x _ hC.c.ninX hn hn' hw)
  have HC := hidOf hC
  have S1 := hidOf s1
  clear hC s1 hI
  go_enter Try.func8, Try.ntmps8
  go_wp2_with fail
  refine (HCp.out).mono ?_
  rintro e w1 ⟨b, A1, rfl, hAn, hM, hb1⟩
  rw [S1.out] at hM
  have hC1 := HC.out.kp hb1
  have HM := hidOf hM
  have HAn := hidOf hAn
  clear HC HCp S1 hb1 hM hAn
  have HC := hidOf hC1
  clear hC1
  cases hokx : okC x
  · have HLa := hidOf (HM.out)
    have HR := hidOf (show seenM x who = (x, 0, 0, ⟨#[]⟩, 0, 1) by unfold seenM; rw [if_pos hokx])
    clear hokx HM HAn
    go_wp2_with fail
    refine (cell_any (w.heap.size + 3) b A1 x _ HLa.out).mono ?_
    rintro e w9 ⟨rfl, hb9⟩
    have hC9 := HC.out.kp hb9
    have HF := hidOf (seen_fin (A' := A1) (y := x) hC9 (HLa.out.keep hb9).st.rows htx (.int .i64 0) (.int .i64 0) (.string ⟨#[]⟩))
    obtain ⟨_, r0, r1, r2, r3, r4, r5, r6, rf⟩ := id hC9.c.box1
    obtain ⟨_, e0, e1, e2, ef⟩ := id hC9.m
    clear HC HLa hb9 hC9
    go_wp2
    refine bodyPost_ret (v := .tuple #[.agg #[.int .i64 x.kd, .int .i64 x.nu, .string x.tx, .int .i64 x.ve, .bool x.cl, .slice A1.a A1.n A1.c, .slice A1.a' A1.n' A1.c'], .agg #[.int .i64 0, .int .i64 0, .string ⟨#[]⟩], .int .i64 0, .int .i64 1]) (by simp [results, Try.results8, go_sem, r0, r1, r2, r3, r4, r5, r6, e0, e1, e2]) rfl ?_
    rw [HR.out]
    exact ⟨A1, rfl, HF.out⟩
  · have HBo := hidOf (okC_parts hokx)
    have HOK := hidOf hokx
    clear hokx
    go_wp2_with fail
    refine (pass_any (w.heap.size + 3) b A1 x.ln x.gs who _ HM.out.st (by rw [HAn.out.1]; exact hn) (by rw [HAn.out.2]; exact hn') hw.ln hw.gs hwho HBo.out.2.2.1 HBo.out.2.2.2.1).mono ?_
    rintro e w4 ⟨A4, rfl, hS4, hT4⟩
    have hM4 := HM.out.to hS4 hT4
    have hC4 := HC.out.keep hT4.below (Nat.le_refl _)
    clear HC hS4 hT4 HM
    have HC := hidOf hC4
    clear hC4
    rcases turn_cases x.ln x.gs who with ⟨h0, h1⟩ | ⟨h0, h1, h2⟩ | ⟨h0, h1, h2⟩
    · rw [h0] at hM4 ⊢
      rw [if_neg (by omega)] at hM4
      have HLa := hidOf (hM4)
      have HR := hidOf (show seenM x who = (x, 0, 0, ⟨#[]⟩, 0, 4) by unfold seenM; rw [if_neg (by rw [HOK.out]; simp), if_pos h1])
      clear h0 h1 hM4 HAn HBo
      go_wp2_with fail
      refine (cell_any (w.heap.size + 3) b A4 x _ HLa.out).mono ?_
      rintro e w9 ⟨rfl, hb9⟩
      have hC9 := HC.out.kp hb9
      have HF := hidOf (seen_fin (A' := A4) (y := x) hC9 (HLa.out.keep hb9).st.rows htx (.int .i64 0) (.int .i64 0) (.string ⟨#[]⟩))
      obtain ⟨_, r0, r1, r2, r3, r4, r5, r6, rf⟩ := id hC9.c.box1
      obtain ⟨_, e0, e1, e2, ef⟩ := id hC9.m
      clear HC HLa hb9 hC9
      go_wp2
      refine bodyPost_ret (v := .tuple #[.agg #[.int .i64 x.kd, .int .i64 x.nu, .string x.tx, .int .i64 x.ve, .bool x.cl, .slice A4.a A4.n A4.c, .slice A4.a' A4.n' A4.c'], .agg #[.int .i64 0, .int .i64 0, .string ⟨#[]⟩], .int .i64 0, .int .i64 4]) (by simp [results, Try.results8, go_sem, r0, r1, r2, r3, r4, r5, r6, e0, e1, e2]) rfl ?_
      rw [HR.out]
      exact ⟨A4, rfl, HF.out⟩
    · rw [h0] at hM4 ⊢
      rw [if_pos rfl] at hM4
      go_wp2_with fail
      refine (bodyLook_any _ b A4 { x with gs := lessL x.gs who } _ hM4).mono ?_
      rintro e w5 ⟨rfl, hb5⟩
      simp only
      have hlc : lookC { x with gs := lessL x.gs who } = lookC x := rfl
      rw [hlc]
      clear hlc
      have HR0 := hidOf (show seenM x who = ({ x with gs := lessL x.gs who }, x.kd, x.nu, x.tx, x.ve, lookC x) by unfold seenM; rw [if_neg (by rw [HOK.out]; simp), if_neg (by rw [h1]; simp), if_pos h2])
      generalize lookC x = lc at HR0 ⊢
      generalize hW : w5.alloc (.cells #[.int .i64 x.kd, .int .i64 x.nu, .string x.tx] 25) = W
      have bW : Below w5.heap.size w5 W := by subst hW; exact bl_alloc (Below.refl _ _) _
      have mW : Box3 w5.heap.size (.int .i64 x.kd) (.int .i64 x.nu) (.string x.tx) W := by subst hW; exact Box3.new w5 _ _ _ _
      have hz5 : w.heap.size + 3 ≤ w5.heap.size := Nat.le_trans HC.out.sz hb5.size
      have hq1 : ¬ w5.heap.size = w.heap.size + 1 := by omega
      have hq2 : ¬ w.heap.size + 1 = w5.heap.size := by omega
      have hq3 : ¬ w5.heap.size = w.heap.size + 2 := by omega
      have hq4 : ¬ w.heap.size + 2 = w5.heap.size := by omega
      have HMW := hidOf ((hM4.keep (bl_trans hb5 bW)).keep (Below.refl _ W).drew)
      have HCW := hidOf (HC.out.kp (bl_trans hb5 bW))
      have HMm := hidOf mW
      obtain ⟨_, k0, k1, k2, _⟩ := id mW
      have HCell := hidOf (cell_any (w.heap.size + 3) b A4 { x with gs := lessL x.gs who } W.drew HMW.out)
      clear hM4 HC hb5 bW mW h0 h1 h2 HAn HBo
      go_wp2_with fail
      clear hW
      first | (go_region_with (first
        | (go_at_call 13; refine (HCell.out).mono ?_; rintro e w9 ⟨rfl, hb9⟩; have hb9' := bl_trans (Below.refl W.heap.size W).drew hb9; have hC9 := HCW.out.kp hb9'; have HF := hidOf (seen_fin (A' := A4) (y := { x with gs := lessL x.gs who }) hC9 (HMW.out.keep hb9).st.rows htx (.int .i64 x.kd) (.int .i64 x.nu) (.string x.tx)); obtain ⟨_, r0, r1, r2, r3, r4, r5, r6, rf⟩ := id hC9.c.box1; obtain ⟨_, e0, e1, e2, ef⟩ := id hC9.m; obtain ⟨_, k0', k1', k2', _⟩ := HMm.out.keep hb9'; clear hb9 hb9' hC9))) | fail
      all_goals (try go_wp2)
      all_goals refine bodyPost_ret (v := .tuple #[.agg #[.int .i64 x.kd, .int .i64 x.nu, .string x.tx, .int .i64 x.ve, .bool x.cl, .slice A4.a A4.n A4.c, .slice A4.a' A4.n' A4.c'], .agg #[.int .i64 x.kd, .int .i64 x.nu, .string x.tx], .int .i64 x.ve, .int .i64 lc]) (by simp [results, Try.results8, go_sem, r0, r1, r2, r3, r4, r5, r6, e0, e1, e2]) rfl ?_
      all_goals rw [HR0.out]
      all_goals exact ⟨A4, rfl, HF.out⟩
    · rw [h0] at hM4 ⊢
      rw [if_neg (by omega)] at hM4
      have HLa := hidOf (hM4)
      have HR := hidOf (show seenM x who = (x, 0, 0, ⟨#[]⟩, 0, 3) by unfold seenM; rw [if_neg (by rw [HOK.out]; simp), if_neg (by rw [h1]; simp), if_neg (by rw [h2]; simp)])
      clear h0 h1 h2 hM4 HAn HBo
      go_wp2_with fail
      refine (cell_any (w.heap.size + 3) b A4 x _ HLa.out).mono ?_
      rintro e w9 ⟨rfl, hb9⟩
      have hC9 := HC.out.kp hb9
      have HF := hidOf (seen_fin (A' := A4) (y := x) hC9 (HLa.out.keep hb9).st.rows htx (.int .i64 0) (.int .i64 0) (.string ⟨#[]⟩))
      obtain ⟨_, r0, r1, r2, r3, r4, r5, r6, rf⟩ := id hC9.c.box1
      obtain ⟨_, e0, e1, e2, ef⟩ := id hC9.m
      clear HC HLa hb9 hC9
      go_wp2
      refine bodyPost_ret (v := .tuple #[.agg #[.int .i64 x.kd, .int .i64 x.nu, .string x.tx, .int .i64 x.ve, .bool x.cl, .slice A4.a A4.n A4.c, .slice A4.a' A4.n' A4.c'], .agg #[.int .i64 0, .int .i64 0, .string ⟨#[]⟩], .int .i64 0, .int .i64 3]) (by simp [results, Try.results8, go_sem, r0, r1, r2, r3, r4, r5, r6, e0, e1, e2]) rfl ?_
      rw [HR.out]
      exact ⟨A4, rfl, HF.out⟩
end Go.Proofs.Ytbbhaekmjnincaa
