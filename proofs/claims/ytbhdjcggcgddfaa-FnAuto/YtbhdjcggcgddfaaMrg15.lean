/-
  The program's events: a raising is placed; one of either kind is raised.
  The program's events: one is raised.
  The program's events: one is reset.
-/
import Derived.Test.YtbhdjcggcgddfaaBE3
import Derived.Test.YtbhdjcggcgddfaaMrg4
namespace Go.Proofs.Ytbhdjcggcgddfaa
open Go.RowKit Go.Maps Pl Il

theorem wakeE_cons {y : Int} {r : List Int} (h : lineL (y :: r) = true) : wakeRest (y :: r) 1 = r ∧ wakeOut (y :: r) 1 = [y] := by
  unfold wakeRest wakeOut wakeN
  rw [h]
  simp
  split <;> simp_all <;> omega
theorem wakeE_all {xs : List Int} (h : lineL xs = true) : wakeRest xs (xs.length : Int) = [] ∧ wakeOut xs (xs.length : Int) = xs := by
  have hn : wakeN xs (xs.length : Int) = xs.length := by rw [wakeN_in (by omega)]; simp
  obtain ⟨h1, h2⟩ := wake_good h (k := (xs.length : Int)) (by omega)
  rw [h1, h2, hn]
  simp
/-- A list is answered, and the body is another one. -/
def TOut (B b : Nat) (w : World) (y : Et) (l : List Int) (e : Ending) (w' : World) : Prop := ∃ A' a m c, e = .returned (.slice a m c) ∧ EMem B b A' y w' ∧ Il.OwnAt B w' a m l ∧ FarW b A' a m ∧ Below B w w'
/-- A list and a number are answered. -/
def TOut2 (B b : Nat) (w : World) (y : Et) (l : List Int) (code : Int) (e : Ending) (w' : World) : Prop := ∃ A' a m c, e = .returned (.tuple #[.slice a m c, .int .i64 code]) ∧ EMem B b A' y w' ∧ Il.OwnAt B w' a m l ∧ FarW b A' a m ∧ Below B w w'
theorem own_nil (B : Nat) (w : World) : Il.OwnAt B w none 0 [] := ⟨⟨rfl, .inl rfl⟩, .inl rfl⟩
theorem far_nil (b : Nat) (A : Na) : FarW b A none 0 := ⟨.inl rfl, .inl rfl⟩
set_option maxHeartbeats 1000000 in
theorem placeRaising_any (B b : Nat) (A : Na) (x : Et) (w : World) (hM : EMem B b A x w) (hn : A.n ≤ 2097152) (hn' : A.n' ≤ 2097152) (hw : wfL x.ln) (hl : lineL x.ln = true) (hsp : 0 ≤ x.sp ∧ x.sp ≤ 1000000000) :
    Calls Try.prog 202 #[.pointer (some ⟨b, 0, none⟩)] w fun e w' => TOut B b w (passE x).1 (passE x).2 e w' := by
  have c0 := hM.wt.c0
  have c3 := hM.c3
  have c5 := hM.c5
  have ff := hM.wt.fr
  have hlen := hM.wt.rows.len.1
  have HM := hidOf hM
  obtain ⟨au, up, ln, gs, st, sp, tk⟩ := x
  simp only at c3 c5 hlen hw hl hsp
  clear hM
  cases ln with
  | cons y r =>
    have hp : (0 : Int) < (A.n : Int) := by simp at hlen; omega
    clear hlen
    go_enter Try.func202, Try.ntmps202
    go_wp2_with fail
    refine (letGo_any B b A (y :: r) gs 1 w HM.out.wt hn hn' hw hl (by omega)).mono ?_
    rintro e w1 ⟨A', a, m, c, rfl, hS, hO, hF, hT⟩
    rw [(wakeE_cons hl).1, (wakeE_cons hl).2] at hS
    rw [(wakeE_cons hl).2] at hO
    have HF := hidOf (And.intro (HM.out.to hS hT) (And.intro hO (And.intro hF hT.below)))
    clear hS hO hF hT HM
    go_wp2
    go_ret
    exact ⟨A', a, m, c, rfl, HF.out.1, HF.out.2.1, HF.out.2.2.1, HF.out.2.2.2⟩
  | nil =>
    have hp : ¬ (0 : Int) < (A.n : Int) := by simp at hlen; omega
    clear hlen
    cases up
    · have HF := hidOf (And.intro (HM.out.upd true) (HM.out.bset (Below.refl B w) 5 (.bool true)))
      clear HM
      go_enter Try.func202, Try.ntmps202
      go_wp2
      go_ret
      exact ⟨A, none, 0, 0, rfl, HF.out.1, own_nil _ _, far_nil _ _, HF.out.2⟩
    · have hM1 := HM.out.spilt (sp + 1)
      have d5 := hM1.c5
      have df := hM1.wt.fr
      have HF := hidOf (And.intro (hM1.upd true) (HM.out.bset (HM.out.bset (Below.refl B w) 3 (.int .i64 (sp + 1))) 5 (.bool true)))
      simp only at d5
      clear HM hM1
      go_enter Try.func202, Try.ntmps202
      go_wp2
      go_ret
      exact ⟨A, none, 0, 0, rfl, HF.out.1, own_nil _ _, far_nil _ _, HF.out.2⟩
def ARaiseP (B b : Nat) (w : World) (x : Et) (e : Ending) (w' : World) : Prop := (fullE x → TOut2 B b w x [] 2 e w') ∧ (¬ fullE x → TOut2 B b w (passE { x with st := x.st + 1 }).1 (passE { x with st := x.st + 1 }).2 0 e w')
set_option maxHeartbeats 1000000 in
theorem autoRaise_any (B b : Nat) (A : Na) (x : Et) (w : World) (hM : EMem B b A x w) (hn : A.n ≤ 2097152) (hn' : A.n' ≤ 2097152) (hw : wfL x.ln) (hl : lineL x.ln = true) (hst : 0 ≤ x.st ∧ x.st ≤ 1000000000) (hsp : 0 ≤ x.sp ∧ x.sp ≤ 1000000000) :
    Calls Try.prog 197 #[.pointer (some ⟨b, 0, none⟩)] w fun e w' => ARaiseP B b w x e w' := by
  have c0 := hM.wt.c0
  have c1 := hM.wt.c1
  have c2 := hM.c2
  have ff := hM.wt.fr
  have HL1 := hidOf hM.wt.rows.len.1
  have HL2 := hidOf hM.wt.rows.len.2
  have HM := hidOf hM
  have hM1 := hM.sets (x.st + 1)
  have HP := hidOf (placeRaising_any B b A { x with st := x.st + 1 } _ hM1 hn hn' hw hl hsp)
  have HB := hidOf (hM.bset (Below.refl B w) 2 (.int .i64 (x.st + 1)))
  clear hM hM1
  by_cases h1 : x.st = 1000000000
  · have h1' : (x.st == 1000000000) = true := by simp [h1]
    have HFu := hidOf (show fullE x from .inl h1)
    clear h1
    go_enter Try.func197, Try.ntmps197
    go_wp2
    go_ret2
    exact ⟨fun _ => ⟨A, none, 0, 0, rfl, HM.out, own_nil _ _, far_nil _ _, Below.refl _ _⟩, fun hh => absurd HFu.out hh⟩
  · have h1' : (x.st == 1000000000) = false := by simp [h1]
    by_cases h2 : (0 : Int) < (A.n : Int)
    · by_cases h3 : A.n' = 32
      · have h3' : ((A.n' : Int) == 32) = true := by simp [h3]
        have HFu := hidOf (show fullE x from .inr ⟨by rw [HL1.out]; omega, by rw [HL2.out]; exact h3⟩)
        clear h1 h3
        go_enter Try.func197, Try.ntmps197
        go_wp2
        go_ret2
        exact ⟨fun _ => ⟨A, none, 0, 0, rfl, HM.out, own_nil _ _, far_nil _ _, Below.refl _ _⟩, fun hh => absurd HFu.out hh⟩
      · have h3' : ((A.n' : Int) == 32) = false := by simp; omega
        have HFu := hidOf (show ¬ fullE x from fun h => by rcases h with h | h; exact h1 h; exact h3 (by rw [← HL2.out]; exact h.2))
        clear h1 h3
        go_enter Try.func197, Try.ntmps197
        go_wp2_with fail
        refine HP.out.mono ?_
        rintro e w1 ⟨A', a, m, c, rfl, hM1, hO, hF, hB⟩
        have HF := hidOf (And.intro hM1 (And.intro hO (And.intro hF (HB.out.trans hB))))
        clear hM1 hO hF hB HM HB HP
        go_wp2
        go_ret2
        exact ⟨fun hh => absurd hh HFu.out, fun _ => ⟨A', a, m, c, rfl, HF.out.1, HF.out.2.1, HF.out.2.2.1, HF.out.2.2.2⟩⟩
    · have h2' : decide ((0 : Int) < (A.n : Int)) = false := by simp; omega
      have HFu := hidOf (show ¬ fullE x from fun h => by rcases h with h | h; exact h1 h; have h5 := h.1; rw [HL1.out] at h5; omega)
      clear h1
      go_enter Try.func197, Try.ntmps197
      go_wp2_with fail
      refine HP.out.mono ?_
      rintro e w1 ⟨A', a, m, c, rfl, hM1, hO, hF, hB⟩
      have HF := hidOf (And.intro hM1 (And.intro hO (And.intro hF (HB.out.trans hB))))
      clear hM1 hO hF hB HM HB HP
      go_wp2
      go_ret2
      exact ⟨fun hh => absurd hh HFu.out, fun _ => ⟨A', a, m, c, rfl, HF.out.1, HF.out.2.1, HF.out.2.2.1, HF.out.2.2.2⟩⟩
def MRaiseP (B b : Nat) (w : World) (x : Et) (e : Ending) (w' : World) : Prop := (32 < x.ln.length + x.gs.length → TOut2 B b w x [] 2 e w') ∧ (¬ 32 < x.ln.length + x.gs.length → TOut2 B b w { x with up := true, ln := [], gs := x.gs ++ x.ln } x.ln 0 e w')
set_option maxHeartbeats 1000000 in
theorem manRaise_any (B b : Nat) (A : Na) (x : Et) (w : World) (hM : EMem B b A x w) (hn : A.n ≤ 2097152) (hn' : A.n' ≤ 2097152) (hw : wfL x.ln) (hl : lineL x.ln = true) :
    Calls Try.prog 189 #[.pointer (some ⟨b, 0, none⟩)] w fun e w' => MRaiseP B b w x e w' := by
  have HL1 := hidOf hM.wt.rows.len.1
  have HL2 := hidOf hM.wt.rows.len.2
  have HM := hidOf hM
  clear hM
  go_enter Try.func189, Try.ntmps189
  go_wp2_with fail
  refine (canLet_any B b A x.ln x.gs w HM.out.wt hn hn').mono ?_
  rintro e w1 ⟨rfl, hb1⟩
  have hM1 := HM.out.keep hb1
  have HB1 := hidOf (HM.out.bel hb1)
  have HM1 := hidOf hM1
  by_cases h4 : 32 < x.ln.length + x.gs.length
  · have h4' : decide (A.n + A.n' ≤ 32) = false := by have := HL1.out; have := HL2.out; simp; omega
    have H4 := hidOf h4
    rw [h4']
    clear h4 h4' hM1 hb1 HM
    go_wp2
    go_ret2
    exact ⟨fun _ => ⟨A, none, 0, 0, rfl, HM1.out, own_nil _ _, far_nil _ _, HB1.out⟩, fun hh => absurd H4.out hh⟩
  · have h4' : decide (A.n + A.n' ≤ 32) = true := by have := HL1.out; have := HL2.out; simp; omega
    have H4 := hidOf h4
    have hM2 := hM1.upd true
    have c5 := hM1.c5
    have ff := hM1.wt.fr
    have d0 := hM2.wt.c0
    have HMd := hidOf (hM2.keep (Below.refl _ _).drew)
    have HBd := hidOf ((hM1.bset HB1.out 5 (.bool true)).trans ((Below.refl B _).drew))
    have HLG := hidOf (letGo_any B b A x.ln x.gs (A.n : Int) _ HMd.out.wt hn hn' hw hl (by omega))
    rw [h4']
    clear h4 h4' hM1 hM2 hb1 HM HM1 HB1
    go_wp2_with fail
    first | (go_region_with (first | (go_at_call 113; refine (HLG.out).mono ?_; rintro e w5 ⟨A5, a5, m5, cc5, rfl, hS5, hO5, hF5, hT5⟩))) | fail
    have hln : (A.n : Int) = (x.ln.length : Int) := by rw [HL1.out]
    rw [hln, (wakeE_all hl).1, (wakeE_all hl).2] at hS5
    rw [hln, (wakeE_all hl).2] at hO5
    have HF := hidOf (And.intro (HMd.out.to hS5 hT5) (And.intro hO5 (And.intro hF5 (HBd.out.trans hT5.below))))
    clear hS5 hO5 hF5 hT5 HMd HBd HLG hln
    go_wp2
    go_ret2
    exact ⟨fun hh => absurd hh H4.out, fun _ => ⟨A5, a5, m5, cc5, rfl, HF.out.1, HF.out.2.1, HF.out.2.2.1, HF.out.2.2.2⟩⟩
end Go.Proofs.Ytbhdjcggcgddfaa
namespace Go.Proofs.Ytbhdjcggcgddfaa
open Go.RowKit Go.Maps Pl Il

theorem passE_kind (x : Et) : (passE x).1.au = x.au := by
  obtain ⟨au, up, ln, gs, st, sp, tk⟩ := x
  unfold passE
  cases ln with
  | nil => cases up <;> rfl
  | cons a r => rfl
set_option maxRecDepth 100000 in
set_option maxHeartbeats 4000000 in
theorem implRaise_any (A : Na) (x : Et) (w : World) (hI : EIn w A x) (hn : A.n ≤ 2097152) (hn' : A.n' ≤ 2097152) (hw : EWf x) :
    Calls Try.prog 35 #[.agg #[.bool x.au, .bool x.up, .slice A.a A.n A.c, .slice A.a' A.n' A.c', .int .i64 x.st, .int .i64 x.sp, .int .i64 x.tk]] w fun e w' => EOutT w (raiseM x).1 (raiseM x).2.1 (raiseM x).2.2 e w' := by
  obtain ⟨au, up, ln, gs, st, sp, tk⟩ := x
  have hC := ectx_new hI
  have s1 : ((w.alloc (.cells #[.bool au, .bool up, .slice A.a A.n A.c, .slice A.a' A.n' A.c', .int .i64 st, .int .i64 sp, .int .i64 tk] 46)).alloc (.cells #[.bool false, .bool false, .slice none 0 0, .slice none 0 0, .int .i64 0, .int .i64 0, .int .i64 0] 46)).heap.size = w.heap.size + 2 := by simp
  have HL1 := hidOf hI.ints.len
  have HL2 := hidOf hI.grs.len
  have HCp := hidOf (flagOf_any A ⟨au, up, ln, gs, st, sp, tk⟩ _ hC.ninX hn hn' hw)
  have HC := hidOf hC
  have S1 := hidOf s1
  have hwl := hw.ln
  have hwg := hw.gs
  simp only at HL1 HL2 hwl hwg
  clear hC s1 hI
  go_enter Try.func35, Try.ntmps35
  go_wp2_with fail
  refine (HCp.out).mono ?_
  rintro e w1 ⟨b, A1, rfl, hAn, hM, hb1⟩
  rw [S1.out] at hM
  have hC1 := HC.out.kp hb1
  have HM := hidOf hM
  have HAn := hidOf hAn
  clear HC HCp S1 hb1 hM hAn
  have HC := hidOf hC1
  clear hC1
  cases au
  · cases hokx : okE ⟨false, up, ln, gs, st, sp, tk⟩
    · have HLa := hidOf (HM.out)
      have HR := hidOf (show raiseM ⟨false, up, ln, gs, st, sp, tk⟩ = (⟨false, up, ln, gs, st, sp, tk⟩, [], 1) by unfold raiseM; rw [if_pos hokx])
      have mm := meth_man_event b
      have HOw := hidOf (own_nil (w.heap.size + 2) w1)
      have HAp := hidOf (show Apart3 A1.a A1.n A1.a' A1.n' none 0 from .inl rfl)
      clear hokx HM HAn
      go_wp2_with fail
      refine (event_any (w.heap.size + 2) b A1 ⟨false, up, ln, gs, st, sp, tk⟩ _ HLa.out).mono ?_
      rintro e w9 ⟨rfl, hb9⟩
      have hC9 := HC.out.kp hb9
      have HF := hidOf (est_finT (A' := A1) (y := ⟨false, up, ln, gs, st, sp, tk⟩) hC9 (HLa.out.keep hb9).wt.rows (HOw.out.keep hb9))
      obtain ⟨_, r0, r1, r2, r3, r4, r5, r6, rf⟩ := id hC9.box1
      clear HC HLa hb9 hC9 mm HOw
      go_wp2
      refine bodyPost_ret (v := .tuple #[.agg #[.bool false, .bool up, .slice A1.a A1.n A1.c, .slice A1.a' A1.n' A1.c', .int .i64 st, .int .i64 sp, .int .i64 tk], .slice none 0 0, .int .i64 1]) (by simp [results, Try.results35, go_sem, r0, r1, r2, r3, r4, r5, r6]) rfl ?_
      rw [HR.out]
      exact ⟨A1, none, 0, 0, rfl, HF.out.1, HF.out.2.1, HF.out.2.2.1, HAp.out, HF.out.2.2.2⟩
    · have hn1 : ¬ (okE ⟨false, up, ln, gs, st, sp, tk⟩ = false) := by rw [hokx]; simp
      have hbo := okE_parts hokx
      simp only at hbo
      have HBo := hidOf hbo
      clear hbo
      clear hokx
      by_cases h4 : 32 < ln.length + gs.length
      · have HR0 := hidOf (show raiseM ⟨false, up, ln, gs, st, sp, tk⟩ = (⟨false, up, ln, gs, st, sp, tk⟩, [], 2) by unfold raiseM; rw [if_neg hn1, if_neg (by simp), if_pos h4])
        have H4 := hidOf h4
        clear hn1 h4
        have mq := meth_man_raise b
        go_wp2_with fail
        refine (manRaise_any (w.heap.size + 2) b A1 ⟨false, up, ln, gs, st, sp, tk⟩ _ HM.out (by rw [HAn.out.1]; exact hn) (by rw [HAn.out.2]; exact hn') hwl HBo.out.1.1).mono ?_
        rintro e w5 hP
        obtain ⟨A5, a5, m5, cc5, rfl, hM5, hO5, hF5, hB5⟩ := hP.1 H4.out
        clear mq
        have HC2 := hidOf (HC.out.keep hB5 (Nat.le_refl _))
        clear HC hB5 HM
        have HC := HC2
        clear HC2
        have HLa := hidOf (hM5)
        have HR := hidOf (HR0.out)
        have mm := meth_man_event b
        have HOw := hidOf (hO5)
        have HAp := hidOf (show Apart3 A5.a A5.n A5.a' A5.n' a5 m5 from hF5.1)
        clear hM5 hO5 hF5 HR0 HAn HBo H4
        go_wp2_with fail
        refine (event_any (w.heap.size + 2) b A5 ⟨false, up, ln, gs, st, sp, tk⟩ _ HLa.out).mono ?_
        rintro e w9 ⟨rfl, hb9⟩
        have hC9 := HC.out.kp hb9
        have HF := hidOf (est_finT (A' := A5) (y := ⟨false, up, ln, gs, st, sp, tk⟩) hC9 (HLa.out.keep hb9).wt.rows (HOw.out.keep hb9))
        obtain ⟨_, r0, r1, r2, r3, r4, r5, r6, rf⟩ := id hC9.box1
        clear HC HLa hb9 hC9 mm HOw
        go_wp2
        refine bodyPost_ret (v := .tuple #[.agg #[.bool false, .bool up, .slice A5.a A5.n A5.c, .slice A5.a' A5.n' A5.c', .int .i64 st, .int .i64 sp, .int .i64 tk], .slice a5 m5 cc5, .int .i64 2]) (by simp [results, Try.results35, go_sem, r0, r1, r2, r3, r4, r5, r6]) rfl ?_
        rw [HR.out]
        exact ⟨A5, a5, m5, cc5, rfl, HF.out.1, HF.out.2.1, HF.out.2.2.1, HAp.out, HF.out.2.2.2⟩
      · have HR0 := hidOf (show raiseM ⟨false, up, ln, gs, st, sp, tk⟩ = (⟨false, true, [], gs ++ ln, st, sp, tk⟩, ln, 0) by unfold raiseM; rw [if_neg hn1, if_neg (by simp), if_neg h4])
        have H4 := hidOf h4
        clear hn1 h4
        have mq := meth_man_raise b
        go_wp2_with fail
        refine (manRaise_any (w.heap.size + 2) b A1 ⟨false, up, ln, gs, st, sp, tk⟩ _ HM.out (by rw [HAn.out.1]; exact hn) (by rw [HAn.out.2]; exact hn') hwl HBo.out.1.1).mono ?_
        rintro e w5 hP
        obtain ⟨A5, a5, m5, cc5, rfl, hM5, hO5, hF5, hB5⟩ := hP.2 H4.out
        clear mq
        have HC2 := hidOf (HC.out.keep hB5 (Nat.le_refl _))
        clear HC hB5 HM
        have HC := HC2
        clear HC2
        have HLa := hidOf (hM5)
        have HR := hidOf (HR0.out)
        have mm := meth_man_event b
        have HOw := hidOf (hO5)
        have HAp := hidOf (show Apart3 A5.a A5.n A5.a' A5.n' a5 m5 from hF5.1)
        clear hM5 hO5 hF5 HR0 HAn HBo H4
        go_wp2_with fail
        refine (event_any (w.heap.size + 2) b A5 ⟨false, true, [], gs ++ ln, st, sp, tk⟩ _ HLa.out).mono ?_
        rintro e w9 ⟨rfl, hb9⟩
        have hC9 := HC.out.kp hb9
        have HF := hidOf (est_finT (A' := A5) (y := ⟨false, true, [], gs ++ ln, st, sp, tk⟩) hC9 (HLa.out.keep hb9).wt.rows (HOw.out.keep hb9))
        obtain ⟨_, r0, r1, r2, r3, r4, r5, r6, rf⟩ := id hC9.box1
        clear HC HLa hb9 hC9 mm HOw
        go_wp2
        refine bodyPost_ret (v := .tuple #[.agg #[.bool false, .bool true, .slice A5.a A5.n A5.c, .slice A5.a' A5.n' A5.c', .int .i64 st, .int .i64 sp, .int .i64 tk], .slice a5 m5 cc5, .int .i64 0]) (by simp [results, Try.results35, go_sem, r0, r1, r2, r3, r4, r5, r6]) rfl ?_
        rw [HR.out]
        exact ⟨A5, a5, m5, cc5, rfl, HF.out.1, HF.out.2.1, HF.out.2.2.1, HAp.out, HF.out.2.2.2⟩
  · cases hokx : okE ⟨true, up, ln, gs, st, sp, tk⟩
    · have HLa := hidOf (HM.out)
      have HR := hidOf (show raiseM ⟨true, up, ln, gs, st, sp, tk⟩ = (⟨true, up, ln, gs, st, sp, tk⟩, [], 1) by unfold raiseM; rw [if_pos hokx])
      have mm := meth_auto_event b
      have HOw := hidOf (own_nil (w.heap.size + 2) w1)
      have HAp := hidOf (show Apart3 A1.a A1.n A1.a' A1.n' none 0 from .inl rfl)
      clear hokx HM HAn
      go_wp2_with fail
      refine (autoEvent_any (w.heap.size + 2) b A1 ⟨true, up, ln, gs, st, sp, tk⟩ _ HLa.out).mono ?_
      rintro e w9 ⟨rfl, hb9⟩
      have hC9 := HC.out.kp hb9
      have HF := hidOf (est_finT (A' := A1) (y := ⟨true, up, ln, gs, st, sp, tk⟩) hC9 (HLa.out.keep hb9).wt.rows (HOw.out.keep hb9))
      obtain ⟨_, r0, r1, r2, r3, r4, r5, r6, rf⟩ := id hC9.box1
      clear HC HLa hb9 hC9 mm HOw
      go_wp2
      refine bodyPost_ret (v := .tuple #[.agg #[.bool true, .bool up, .slice A1.a A1.n A1.c, .slice A1.a' A1.n' A1.c', .int .i64 st, .int .i64 sp, .int .i64 tk], .slice none 0 0, .int .i64 1]) (by simp [results, Try.results35, go_sem, r0, r1, r2, r3, r4, r5, r6]) rfl ?_
      rw [HR.out]
      exact ⟨A1, none, 0, 0, rfl, HF.out.1, HF.out.2.1, HF.out.2.2.1, HAp.out, HF.out.2.2.2⟩
    · have hn1 : ¬ (okE ⟨true, up, ln, gs, st, sp, tk⟩ = false) := by rw [hokx]; simp
      have hbo := okE_parts hokx
      simp only at hbo
      have HBo := hidOf hbo
      clear hbo
      clear hokx
      by_cases h4 : fullE ⟨true, up, ln, gs, st, sp, tk⟩
      · have HR0 := hidOf (show raiseM ⟨true, up, ln, gs, st, sp, tk⟩ = (⟨true, up, ln, gs, st, sp, tk⟩, [], 2) by unfold raiseM; rw [if_neg hn1, if_pos rfl, if_pos h4])
        have H4 := hidOf h4
        clear hn1 h4
        have mq := meth_auto_raise b
        go_wp2_with fail
        refine (autoRaise_any (w.heap.size + 2) b A1 ⟨true, up, ln, gs, st, sp, tk⟩ _ HM.out (by rw [HAn.out.1]; exact hn) (by rw [HAn.out.2]; exact hn') hwl HBo.out.1.1 HBo.out.2.1 HBo.out.2.2.1).mono ?_
        rintro e w5 hP
        obtain ⟨A5, a5, m5, cc5, rfl, hM5, hO5, hF5, hB5⟩ := hP.1 H4.out
        clear mq
        have HC2 := hidOf (HC.out.keep hB5 (Nat.le_refl _))
        clear HC hB5 HM
        have HC := HC2
        clear HC2
        have HLa := hidOf (hM5)
        have HR := hidOf (HR0.out)
        have mm := meth_auto_event b
        have HOw := hidOf (hO5)
        have HAp := hidOf (show Apart3 A5.a A5.n A5.a' A5.n' a5 m5 from hF5.1)
        clear hM5 hO5 hF5 HR0 HAn HBo H4
        go_wp2_with fail
        refine (autoEvent_any (w.heap.size + 2) b A5 ⟨true, up, ln, gs, st, sp, tk⟩ _ HLa.out).mono ?_
        rintro e w9 ⟨rfl, hb9⟩
        have hC9 := HC.out.kp hb9
        have HF := hidOf (est_finT (A' := A5) (y := ⟨true, up, ln, gs, st, sp, tk⟩) hC9 (HLa.out.keep hb9).wt.rows (HOw.out.keep hb9))
        obtain ⟨_, r0, r1, r2, r3, r4, r5, r6, rf⟩ := id hC9.box1
        clear HC HLa hb9 hC9 mm HOw
        go_wp2
        refine bodyPost_ret (v := .tuple #[.agg #[.bool true, .bool up, .slice A5.a A5.n A5.c, .slice A5.a' A5.n' A5.c', .int .i64 st, .int .i64 sp, .int .i64 tk], .slice a5 m5 cc5, .int .i64 2]) (by simp [results, Try.results35, go_sem, r0, r1, r2, r3, r4, r5, r6]) rfl ?_
        rw [HR.out]
        exact ⟨A5, a5, m5, cc5, rfl, HF.out.1, HF.out.2.1, HF.out.2.2.1, HAp.out, HF.out.2.2.2⟩
      · have HR0 := hidOf (show raiseM ⟨true, up, ln, gs, st, sp, tk⟩ = ((passE ⟨true, up, ln, gs, st + 1, sp, tk⟩).1, (passE ⟨true, up, ln, gs, st + 1, sp, tk⟩).2, 0) by unfold raiseM; rw [if_neg hn1, if_pos rfl, if_neg h4])
        have H4 := hidOf h4
        have HKd := hidOf (passE_kind ⟨true, up, ln, gs, st + 1, sp, tk⟩)
        clear hn1 h4
        have mq := meth_auto_raise b
        go_wp2_with fail
        refine (autoRaise_any (w.heap.size + 2) b A1 ⟨true, up, ln, gs, st, sp, tk⟩ _ HM.out (by rw [HAn.out.1]; exact hn) (by rw [HAn.out.2]; exact hn') hwl HBo.out.1.1 HBo.out.2.1 HBo.out.2.2.1).mono ?_
        rintro e w5 hP
        obtain ⟨A5, a5, m5, cc5, rfl, hM5, hO5, hF5, hB5⟩ := hP.2 H4.out
        clear mq
        have HC2 := hidOf (HC.out.keep hB5 (Nat.le_refl _))
        clear HC hB5 HM
        have HC := HC2
        clear HC2
        simp only at hM5 hO5
        generalize passE ⟨true, up, ln, gs, st + 1, sp, tk⟩ = pp at hM5 hO5 HR0 HKd
        obtain ⟨⟨pau, pup, pln, pgs, pst, psp, ptk⟩, pl⟩ := pp
        simp only at hM5 hO5 HR0 HKd
        obtain rfl : pau = true := HKd.out
        have HLa := hidOf (hM5)
        have HR := hidOf (HR0.out)
        have mm := meth_auto_event b
        have HOw := hidOf (hO5)
        have HAp := hidOf (show Apart3 A5.a A5.n A5.a' A5.n' a5 m5 from hF5.1)
        clear hM5 hO5 hF5 HR0 HAn HBo H4 HKd
        go_wp2_with fail
        refine (autoEvent_any (w.heap.size + 2) b A5 ⟨true, pup, pln, pgs, pst, psp, ptk⟩ _ HLa.out).mono ?_
        rintro e w9 ⟨rfl, hb9⟩
        have hC9 := HC.out.kp hb9
        have HF := hidOf (est_finT (A' := A5) (y := ⟨true, pup, pln, pgs, pst, psp, ptk⟩) hC9 (HLa.out.keep hb9).wt.rows (HOw.out.keep hb9))
        obtain ⟨_, r0, r1, r2, r3, r4, r5, r6, rf⟩ := id hC9.box1
        clear HC HLa hb9 hC9 mm HOw
        go_wp2
        refine bodyPost_ret (v := .tuple #[.agg #[.bool true, .bool pup, .slice A5.a A5.n A5.c, .slice A5.a' A5.n' A5.c', .int .i64 pst, .int .i64 psp, .int .i64 ptk], .slice a5 m5 cc5, .int .i64 0]) (by simp [results, Try.results35, go_sem, r0, r1, r2, r3, r4, r5, r6]) rfl ?_
        rw [HR.out]
        exact ⟨A5, a5, m5, cc5, rfl, HF.out.1, HF.out.2.1, HF.out.2.2.1, HAp.out, HF.out.2.2.2⟩
end Go.Proofs.Ytbhdjcggcgddfaa
namespace Go.Proofs.Ytbhdjcggcgddfaa
open Go.RowKit Go.Maps Pl Il

set_option maxRecDepth 100000 in
set_option maxHeartbeats 4000000 in
theorem implReset_any (A : Na) (x : Et) (w : World) (hI : EIn w A x) (hn : A.n ≤ 2097152) (hn' : A.n' ≤ 2097152) (hw : EWf x) :
    Calls Try.prog 36 #[.agg #[.bool x.au, .bool x.up, .slice A.a A.n A.c, .slice A.a' A.n' A.c', .int .i64 x.st, .int .i64 x.sp, .int .i64 x.tk]] w fun e w' => EOutP w (resetM x).1 [.int .i64 (resetM x).2] e w' := by
  obtain ⟨au, up, ln, gs, st, sp, tk⟩ := x
  have hC := ectx_new hI
  have s1 : ((w.alloc (.cells #[.bool au, .bool up, .slice A.a A.n A.c, .slice A.a' A.n' A.c', .int .i64 st, .int .i64 sp, .int .i64 tk] 46)).alloc (.cells #[.bool false, .bool false, .slice none 0 0, .slice none 0 0, .int .i64 0, .int .i64 0, .int .i64 0] 46)).heap.size = w.heap.size + 2 := by simp
  have HL1 := hidOf hI.ints.len
  have HL2 := hidOf hI.grs.len
  have HCp := hidOf (flagOf_any A ⟨au, up, ln, gs, st, sp, tk⟩ _ hC.ninX hn hn' hw)
  have HC := hidOf hC
  have S1 := hidOf s1
  have hwl := hw.ln
  have hwg := hw.gs
  simp only at HL1 HL2 hwl hwg
  clear hC s1 hI
  go_enter Try.func36, Try.ntmps36
  go_wp2_with fail
  refine (HCp.out).mono ?_
  rintro e w1 ⟨b, A1, rfl, hAn, hM, hb1⟩
  rw [S1.out] at hM
  have hC1 := HC.out.kp hb1
  have HM := hidOf hM
  have HAn := hidOf hAn
  clear HC HCp S1 hb1 hM hAn
  have HC := hidOf hC1
  clear hC1
  cases au
  · cases hokx : okE ⟨false, up, ln, gs, st, sp, tk⟩
    · have HLa := hidOf (HM.out)
      have HR := hidOf (show resetM ⟨false, up, ln, gs, st, sp, tk⟩ = (⟨false, up, ln, gs, st, sp, tk⟩, 1) by unfold resetM; rw [if_pos hokx])
      have mm := meth_man_event b
      clear hokx HM HAn
      go_wp2_with fail
      refine (event_any (w.heap.size + 2) b A1 ⟨false, up, ln, gs, st, sp, tk⟩ _ HLa.out).mono ?_
      rintro e w9 ⟨rfl, hb9⟩
      have hC9 := HC.out.kp hb9
      have HF := hidOf (est_fin (A' := A1) (y := ⟨false, up, ln, gs, st, sp, tk⟩) hC9 (HLa.out.keep hb9).wt.rows)
      obtain ⟨_, r0, r1, r2, r3, r4, r5, r6, rf⟩ := id hC9.box1
      clear HC HLa hb9 hC9 mm
      go_wp2
      refine bodyPost_ret (v := .tuple #[.agg #[.bool false, .bool up, .slice A1.a A1.n A1.c, .slice A1.a' A1.n' A1.c', .int .i64 st, .int .i64 sp, .int .i64 tk], .int .i64 1]) (by simp [results, Try.results36, go_sem, r0, r1, r2, r3, r4, r5, r6]) rfl ?_
      rw [HR.out]
      exact ⟨A1, rfl, HF.out⟩
    · have hn1 : ¬ (okE ⟨false, up, ln, gs, st, sp, tk⟩ = false) := by rw [hokx]; simp
      have hbo := okE_parts hokx
      simp only at hbo
      have HBo := hidOf hbo
      clear hbo
      clear hokx
      have HR0 := hidOf (show resetM ⟨false, up, ln, gs, st, sp, tk⟩ = (⟨false, false, ln, gs, st, sp, tk⟩, 0) by unfold resetM; rw [if_neg hn1, if_neg (by simp)])
      clear hn1
      have mq := meth_man_reset b
      go_wp2_with fail
      refine (manReset_any (w.heap.size + 2) b A1 ⟨false, up, ln, gs, st, sp, tk⟩ _ HM.out).mono ?_
      rintro e w5 hP
      obtain ⟨A5, rfl, hM5, hB5⟩ := hP
      clear mq
      have HC2 := hidOf (HC.out.keep hB5 (Nat.le_refl _))
      clear HC hB5 HM
      have HC := HC2
      clear HC2
      have HLa := hidOf (hM5)
      have HR := hidOf (HR0.out)
      have mm := meth_man_event b
      clear hM5 HR0 HAn HBo
      go_wp2_with fail
      refine (event_any (w.heap.size + 2) b A5 ⟨false, false, ln, gs, st, sp, tk⟩ _ HLa.out).mono ?_
      rintro e w9 ⟨rfl, hb9⟩
      have hC9 := HC.out.kp hb9
      have HF := hidOf (est_fin (A' := A5) (y := ⟨false, false, ln, gs, st, sp, tk⟩) hC9 (HLa.out.keep hb9).wt.rows)
      obtain ⟨_, r0, r1, r2, r3, r4, r5, r6, rf⟩ := id hC9.box1
      clear HC HLa hb9 hC9 mm
      go_wp2
      refine bodyPost_ret (v := .tuple #[.agg #[.bool false, .bool false, .slice A5.a A5.n A5.c, .slice A5.a' A5.n' A5.c', .int .i64 st, .int .i64 sp, .int .i64 tk], .int .i64 0]) (by simp [results, Try.results36, go_sem, r0, r1, r2, r3, r4, r5, r6]) rfl ?_
      rw [HR.out]
      exact ⟨A5, rfl, HF.out⟩
  · cases hokx : okE ⟨true, up, ln, gs, st, sp, tk⟩
    · have HLa := hidOf (HM.out)
      have HR := hidOf (show resetM ⟨true, up, ln, gs, st, sp, tk⟩ = (⟨true, up, ln, gs, st, sp, tk⟩, 1) by unfold resetM; rw [if_pos hokx])
      have mm := meth_auto_event b
      clear hokx HM HAn
      go_wp2_with fail
      refine (autoEvent_any (w.heap.size + 2) b A1 ⟨true, up, ln, gs, st, sp, tk⟩ _ HLa.out).mono ?_
      rintro e w9 ⟨rfl, hb9⟩
      have hC9 := HC.out.kp hb9
      have HF := hidOf (est_fin (A' := A1) (y := ⟨true, up, ln, gs, st, sp, tk⟩) hC9 (HLa.out.keep hb9).wt.rows)
      obtain ⟨_, r0, r1, r2, r3, r4, r5, r6, rf⟩ := id hC9.box1
      clear HC HLa hb9 hC9 mm
      go_wp2
      refine bodyPost_ret (v := .tuple #[.agg #[.bool true, .bool up, .slice A1.a A1.n A1.c, .slice A1.a' A1.n' A1.c', .int .i64 st, .int .i64 sp, .int .i64 tk], .int .i64 1]) (by simp [results, Try.results36, go_sem, r0, r1, r2, r3, r4, r5, r6]) rfl ?_
      rw [HR.out]
      exact ⟨A1, rfl, HF.out⟩
    · have hn1 : ¬ (okE ⟨true, up, ln, gs, st, sp, tk⟩ = false) := by rw [hokx]; simp
      have hbo := okE_parts hokx
      simp only at hbo
      have HBo := hidOf hbo
      clear hbo
      clear hokx
      cases up
      · have HR0 := hidOf (show resetM ⟨true, false, ln, gs, st, sp, tk⟩ = (⟨true, false, ln, gs, st, sp, tk⟩, 0) by unfold resetM; rw [if_neg hn1, if_neg (by simp)])
        clear hn1
        have mq := meth_auto_reset b
        go_wp2_with fail
        refine (autoReset_any (w.heap.size + 2) b A1 ⟨true, false, ln, gs, st, sp, tk⟩ _ HM.out HBo.out.2.2.1).mono ?_
        rintro e w5 hP
        obtain ⟨A5, rfl, hM5, hB5⟩ := hP.1 rfl
        clear mq
        have HC2 := hidOf (HC.out.keep hB5 (Nat.le_refl _))
        clear HC hB5 HM
        have HC := HC2
        clear HC2
        have HLa := hidOf (hM5)
        have HR := hidOf (HR0.out)
        have mm := meth_auto_event b
        clear hM5 HR0 HAn HBo
        go_wp2_with fail
        refine (autoEvent_any (w.heap.size + 2) b A5 ⟨true, false, ln, gs, st, sp, tk⟩ _ HLa.out).mono ?_
        rintro e w9 ⟨rfl, hb9⟩
        have hC9 := HC.out.kp hb9
        have HF := hidOf (est_fin (A' := A5) (y := ⟨true, false, ln, gs, st, sp, tk⟩) hC9 (HLa.out.keep hb9).wt.rows)
        obtain ⟨_, r0, r1, r2, r3, r4, r5, r6, rf⟩ := id hC9.box1
        clear HC HLa hb9 hC9 mm
        go_wp2
        refine bodyPost_ret (v := .tuple #[.agg #[.bool true, .bool false, .slice A5.a A5.n A5.c, .slice A5.a' A5.n' A5.c', .int .i64 st, .int .i64 sp, .int .i64 tk], .int .i64 0]) (by simp [results, Try.results36, go_sem, r0, r1, r2, r3, r4, r5, r6]) rfl ?_
        rw [HR.out]
        exact ⟨A5, rfl, HF.out⟩
      · by_cases h : sp = 1000000000
        · have HR0 := hidOf (show resetM ⟨true, true, ln, gs, st, sp, tk⟩ = (⟨true, true, ln, gs, st, sp, tk⟩, 2) by unfold resetM; rw [if_neg hn1, if_pos (by simp), if_pos (by simp only; omega)])
          have H := hidOf h
          clear hn1 h
          have mq := meth_auto_reset b
          go_wp2_with fail
          refine (autoReset_any (w.heap.size + 2) b A1 ⟨true, true, ln, gs, st, sp, tk⟩ _ HM.out HBo.out.2.2.1).mono ?_
          rintro e w5 hP
          obtain ⟨A5, rfl, hM5, hB5⟩ := hP.2.1 rfl H.out
          clear mq
          have HC2 := hidOf (HC.out.keep hB5 (Nat.le_refl _))
          clear HC hB5 HM
          have HC := HC2
          clear HC2
          have HLa := hidOf (hM5)
          have HR := hidOf (HR0.out)
          have mm := meth_auto_event b
          clear hM5 HR0 HAn HBo H
          go_wp2_with fail
          refine (autoEvent_any (w.heap.size + 2) b A5 ⟨true, true, ln, gs, st, sp, tk⟩ _ HLa.out).mono ?_
          rintro e w9 ⟨rfl, hb9⟩
          have hC9 := HC.out.kp hb9
          have HF := hidOf (est_fin (A' := A5) (y := ⟨true, true, ln, gs, st, sp, tk⟩) hC9 (HLa.out.keep hb9).wt.rows)
          obtain ⟨_, r0, r1, r2, r3, r4, r5, r6, rf⟩ := id hC9.box1
          clear HC HLa hb9 hC9 mm
          go_wp2
          refine bodyPost_ret (v := .tuple #[.agg #[.bool true, .bool true, .slice A5.a A5.n A5.c, .slice A5.a' A5.n' A5.c', .int .i64 st, .int .i64 sp, .int .i64 tk], .int .i64 2]) (by simp [results, Try.results36, go_sem, r0, r1, r2, r3, r4, r5, r6]) rfl ?_
          rw [HR.out]
          exact ⟨A5, rfl, HF.out⟩
        · have HR0 := hidOf (show resetM ⟨true, true, ln, gs, st, sp, tk⟩ = (⟨true, false, ln, gs, st, sp + 1, tk⟩, 0) by unfold resetM; rw [if_neg hn1, if_pos (by simp), if_neg (by have := HBo.out.2.2.1; simp only; omega)])
          have H := hidOf h
          clear hn1 h
          have mq := meth_auto_reset b
          go_wp2_with fail
          refine (autoReset_any (w.heap.size + 2) b A1 ⟨true, true, ln, gs, st, sp, tk⟩ _ HM.out HBo.out.2.2.1).mono ?_
          rintro e w5 hP
          obtain ⟨A5, rfl, hM5, hB5⟩ := hP.2.2 rfl H.out
          clear mq
          have HC2 := hidOf (HC.out.keep hB5 (Nat.le_refl _))
          clear HC hB5 HM
          have HC := HC2
          clear HC2
          have HLa := hidOf (hM5)
          have HR := hidOf (HR0.out)
          have mm := meth_auto_event b
          clear hM5 HR0 HAn HBo H
          go_wp2_with fail
          refine (autoEvent_any (w.heap.size + 2) b A5 ⟨true, false, ln, gs, st, sp + 1, tk⟩ _ HLa.out).mono ?_
          rintro e w9 ⟨rfl, hb9⟩
          have hC9 := HC.out.kp hb9
          have HF := hidOf (est_fin (A' := A5) (y := ⟨true, false, ln, gs, st, sp + 1, tk⟩) hC9 (HLa.out.keep hb9).wt.rows)
          obtain ⟨_, r0, r1, r2, r3, r4, r5, r6, rf⟩ := id hC9.box1
          clear HC HLa hb9 hC9 mm
          go_wp2
          refine bodyPost_ret (v := .tuple #[.agg #[.bool true, .bool false, .slice A5.a A5.n A5.c, .slice A5.a' A5.n' A5.c', .int .i64 st, .int .i64 (sp + 1), .int .i64 tk], .int .i64 0]) (by simp [results, Try.results36, go_sem, r0, r1, r2, r3, r4, r5, r6]) rfl ?_
          rw [HR.out]
          exact ⟨A5, rfl, HF.out⟩
end Go.Proofs.Ytbhdjcggcgddfaa
