/-
  The program's events: who steps back from one.
-/
import Derived.Test.YtbhdjcggcgddfaaMrg15
import Derived.Test.YtbhdjcggcgddfaaMrg4
namespace Go.Proofs.Ytbhdjcggcgddfaa
open Go.RowKit Go.Maps Pl Il

def MStepP (B b : Nat) (w : World) (x : Et) (who : Int) (e : Ending) (w' : World) : Prop := (turnL x.ln x.gs who = 3 → TOut2 B b w { x with ln := lessL x.ln who, gs := lessL x.gs who } [] 3 e w') ∧ (turnL x.ln x.gs who ≠ 3 → TOut2 B b w { x with ln := lessL x.ln who, gs := lessL x.gs who } [] 0 e w')
theorem manStepBack_any (B b : Nat) (A : Na) (x : Et) (who : Int) (w : World) (hM : EMem B b A x w) (hn : A.n ≤ 2097152) (hn' : A.n' ≤ 2097152) (hw : EWf x) (hx : (Lit.int .i64 who).wf = true) (hl : lineL x.ln = true) (hl' : lineL x.gs = true) :
    Calls Try.prog 193 #[.pointer (some ⟨b, 0, none⟩), .int .i64 who] w fun e w' => MStepP B b w x who e w' := by
  have HM := hidOf hM
  clear hM
  go_enter Try.func193, Try.ntmps193
  go_wp2_with fail
  refine (quit_any B b A x.ln x.gs who w HM.out.wt hn hn' hw.ln hw.gs hx hl hl').mono ?_
  rintro e w1 ⟨A', rfl, hS, hT⟩
  have HF := hidOf (And.intro (HM.out.to hS hT) hT.below)
  clear hS hT HM
  obtain ⟨tt, htt⟩ : ∃ tt, turnL x.ln x.gs who = tt := ⟨_, rfl⟩
  rw [htt]
  have HTT := hidOf htt
  clear htt
  by_cases ht : tt = 3
  · rw [if_pos ht]
    have HT := hidOf ht
    clear ht
    go_wp2
    go_ret2
    exact ⟨fun _ => ⟨A', none, 0, 0, rfl, HF.out.1, own_nil _ _, far_nil _ _, HF.out.2⟩, fun hh => absurd (HTT.out.trans HT.out) hh⟩
  · rw [if_neg ht]
    have HT := hidOf ht
    clear ht
    go_wp2
    go_ret2
    exact ⟨fun hh => absurd (HTT.out.symm.trans hh) HT.out, fun _ => ⟨A', none, 0, 0, rfl, HF.out.1, own_nil _ _, far_nil _ _, HF.out.2⟩⟩
def AStepP (B b : Nat) (w : World) (x : Et) (who : Int) (e : Ending) (w' : World) : Prop := (turnL x.ln x.gs who = 3 → TOut2 B b w x [] 3 e w') ∧ (turnL x.ln x.gs who = 4 → TOut2 B b w { x with ln := lessL x.ln who, gs := lessL x.gs who } [] 0 e w') ∧ (turnL x.ln x.gs who = 0 → x.up = true → x.sp = 1000000000 → TOut2 B b w x [] 2 e w') ∧
  (turnL x.ln x.gs who = 0 → ¬ (x.up = true ∧ x.sp = 1000000000) → TOut2 B b w (passE { x with ln := lessL x.ln who, gs := lessL x.gs who }).1 (passE { x with ln := lessL x.ln who, gs := lessL x.gs who }).2 0 e w')
theorem wf_less {xs : List Int} (h : wfL xs) (x : Int) : wfL (lessL xs x) := fun y hy => h y (List.mem_of_mem_erase hy)
set_option maxHeartbeats 1000000 in
theorem autoStepBack_any (B b : Nat) (A : Na) (x : Et) (who : Int) (w : World) (hM : EMem B b A x w) (hn : A.n ≤ 2097152) (hn' : A.n' ≤ 2097152) (hw : EWf x) (hx : (Lit.int .i64 who).wf = true) (hl : lineL x.ln = true) (hl' : lineL x.gs = true) (hsp : 0 ≤ x.sp ∧ x.sp ≤ 1000000000) :
    Calls Try.prog 201 #[.pointer (some ⟨b, 0, none⟩), .int .i64 who] w fun e w' => AStepP B b w x who e w' := by
  have HL1 := hidOf hM.wt.rows.len.1
  have HL2 := hidOf hM.wt.rows.len.2
  have HM := hidOf hM
  clear hM
  go_enter Try.func201, Try.ntmps201
  go_wp2_with fail
  refine (turnOf_any B b A x.ln x.gs who w HM.out.wt hn hn' hw.ln hw.gs hx).mono ?_
  rintro e w1 ⟨rfl, hb1⟩
  have HM1 := hidOf (HM.out.keep hb1)
  have HB1 := hidOf (HM.out.bel hb1)
  have c5 := HM1.out.c5
  have c3 := HM1.out.c3
  have HRm := hidOf (remove_any B b A x.ln x.gs who w1 HM1.out.wt hn hn' hw.ln hw.gs hx hl hl')
  clear HM hb1
  rcases turn_cases x.ln x.gs who with ⟨h0, h1⟩ | ⟨h0, h1, h2⟩ | ⟨h0, h1, h2⟩
  · rw [h0]
    have H0 := hidOf h0
    clear h0 h1
    go_wp2_with fail
    refine HRm.out.mono ?_
    rintro e w2 ⟨A', rfl, hS, hT⟩
    have HF := hidOf (And.intro (HM1.out.to hS hT) (HB1.out.trans hT.below))
    clear hS hT HM1 HB1 HRm c5 c3
    go_wp2
    go_ret2
    exact ⟨fun hh => absurd (H0.out.symm.trans hh) (by omega), fun _ => ⟨A', none, 0, 0, rfl, HF.out.1, own_nil _ _, far_nil _ _, HF.out.2⟩, fun hh => absurd (H0.out.symm.trans hh) (by omega), fun hh => absurd (H0.out.symm.trans hh) (by omega)⟩
  · rw [h0]
    have H0 := hidOf h0
    have hle : lessL x.ln who = x.ln := less_not h1
    have HLe := hidOf hle
    clear h0 h1 h2
    have hfin : ∀ (e : Ending) (w2 : World), (∃ A', e = .returned (.tuple #[]) ∧ WSt B b A' (lessL x.ln who) (lessL x.gs who) w2 ∧ WTo B b w1 w2) → ∃ A', EMem B b A' { x with ln := lessL x.ln who, gs := lessL x.gs who } w2 ∧ Below B w w2 ∧ A'.n ≤ 2097152 ∧ A'.n' ≤ 2097152 := by
      rintro e w2 ⟨A', _, hS, hT⟩
      have hM2 := HM1.out.to hS hT
      have h7 := hS.rows.len
      have h8 := less_len x.ln who
      have h9 := less_len x.gs who
      have h10 := HL1.out
      have h11 := HL2.out
      exact ⟨A', hM2, HB1.out.trans hT.below, by omega, by omega⟩
    by_cases hf : x.up = true ∧ x.sp = 1000000000
    · rw [hf.1] at c5
      have h' : (x.sp == 1000000000) = true := by simp [hf.2]
      have HFu := hidOf hf
      clear hf hfin HRm
      go_wp2
      go_ret2
      exact ⟨fun hh => absurd (H0.out.symm.trans hh) (by omega), fun hh => absurd (H0.out.symm.trans hh) (by omega), fun _ _ _ => ⟨A, none, 0, 0, rfl, HM1.out, own_nil _ _, far_nil _ _, HB1.out⟩, fun _ hh => absurd HFu.out hh⟩
    · have HFu := hidOf hf
      cases hup : x.up
      · rw [hup] at c5
        clear hf hup
        go_wp2_with fail
        refine HRm.out.mono ?_
        rintro e w2 hq
        obtain ⟨A', hM2, hB2, hk1, hk2⟩ := hfin e w2 hq
        obtain ⟨_, rfl, _, _⟩ := hq
        have HB2 := hidOf hB2
        clear HM1 HB1 HRm c5 c3 hfin hB2
        go_wp2_with fail
        refine (placeRaising_any B b A' { x with ln := lessL x.ln who, gs := lessL x.gs who } w2 hM2 hk1 hk2 (wf_less hw.ln who) (by simp only; rw [HLe.out]; exact hl) hsp).mono ?_
        rintro e w3 ⟨A5, a5, m5, cc5, rfl, hM5, hO5, hF5, hB5⟩
        have HF := hidOf (And.intro hM5 (And.intro hO5 (And.intro hF5 (HB2.out.trans hB5))))
        clear hM5 hO5 hF5 hB5 hM2 HB2
        go_wp2
        go_ret2
        exact ⟨fun hh => absurd (H0.out.symm.trans hh) (by omega), fun hh => absurd (H0.out.symm.trans hh) (by omega), fun _ hu hs => absurd ⟨hu, hs⟩ HFu.out, fun _ _ => ⟨A5, a5, m5, cc5, rfl, HF.out.1, HF.out.2.1, HF.out.2.2.1, HF.out.2.2.2⟩⟩
      · rw [hup] at c5
        have h' : (x.sp == 1000000000) = false := by
          simp only [beq_eq_false_iff_ne, ne_eq]
          exact fun h => hf ⟨hup, h⟩
        clear hf hup
        go_wp2_with fail
        refine HRm.out.mono ?_
        rintro e w2 hq
        obtain ⟨A', hM2, hB2, hk1, hk2⟩ := hfin e w2 hq
        obtain ⟨_, rfl, _, _⟩ := hq
        have HB2 := hidOf hB2
        clear HM1 HB1 HRm c5 c3 hfin hB2
        go_wp2_with fail
        refine (placeRaising_any B b A' { x with ln := lessL x.ln who, gs := lessL x.gs who } w2 hM2 hk1 hk2 (wf_less hw.ln who) (by simp only; rw [HLe.out]; exact hl) hsp).mono ?_
        rintro e w3 ⟨A5, a5, m5, cc5, rfl, hM5, hO5, hF5, hB5⟩
        have HF := hidOf (And.intro hM5 (And.intro hO5 (And.intro hF5 (HB2.out.trans hB5))))
        clear hM5 hO5 hF5 hB5 hM2 HB2
        go_wp2
        go_ret2
        exact ⟨fun hh => absurd (H0.out.symm.trans hh) (by omega), fun hh => absurd (H0.out.symm.trans hh) (by omega), fun _ hu hs => absurd ⟨hu, hs⟩ HFu.out, fun _ _ => ⟨A5, a5, m5, cc5, rfl, HF.out.1, HF.out.2.1, HF.out.2.2.1, HF.out.2.2.2⟩⟩
  · rw [h0]
    have H0 := hidOf h0
    clear h0 h1 h2 HRm
    go_wp2
    go_ret2
    exact ⟨fun _ => ⟨A, none, 0, 0, rfl, HM1.out, own_nil _ _, far_nil _ _, HB1.out⟩, fun hh => absurd (H0.out.symm.trans hh) (by omega), fun hh => absurd (H0.out.symm.trans hh) (by omega), fun hh => absurd (H0.out.symm.trans hh) (by omega)⟩
end Go.Proofs.Ytbhdjcggcgddfaa
