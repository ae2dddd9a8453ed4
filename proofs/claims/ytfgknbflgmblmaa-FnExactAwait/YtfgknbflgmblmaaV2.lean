/-
  The program's notifications: right or not, a copy.
-/
import Derived.Test.YtfgknbflgmblmaaV1
namespace Go.Proofs.Ytfgknbflgmblmaa
open Go.RowKit Go.Maps Pl Il

/-- What a call on a notification holds on to: the argument's variable, what was there ahead. -/
abbrev NS (N : Nat) (A : Na) (x : Nt) (w w' : World) : Prop :=
  w'.cell? ⟨N, 0, none⟩ = some (.bool x.pm) ∧ w'.cell? ⟨N, 1, none⟩ = some (.slice A.a A.n A.c) ∧ w'.cell? ⟨N, 2, none⟩ = some (.slice A.a' A.n' A.c') ∧ w'.cell? ⟨N, 3, none⟩ = some (.int .i64 x.on) ∧ w'.cell? ⟨N, 4, none⟩ = some (.int .i64 x.sp) ∧ w'.cell? ⟨N, 5, none⟩ = some (.int .i64 x.tk) ∧ NBox N A x w' ∧ NIn w' A x ∧ Below w.heap.size w w'
theorem NS.mk' {N : Nat} {A : Na} {x : Nt} {w w' : World} (hb : NBox N A x w') (hi : NIn w' A x) (hB : Below w.heap.size w w') : NS N A x w w' := ⟨hb.c0, hb.c1, hb.c2, hb.c3, hb.c4, hb.c5, hb, hi, hB⟩
theorem NS.keep {N : Nat} {A : Na} {x : Nt} {w u u' : World} (h : NS N A x w u) (hb : Below u.heap.size u u') : NS N A x w u' := NS.mk' (h.2.2.2.2.2.2.1.keep hb) (h.2.2.2.2.2.2.2.1.keep hb) (bl_trans h.2.2.2.2.2.2.2.2 hb)
theorem NS.drew {N : Nat} {A : Na} {x : Nt} {w u : World} (h : NS N A x w u) : NS N A x w u.drew := h.keep (Below.refl _ _).drew
theorem cnt_bd' {x : Int} (h : cnt x = true) : 0 ≤ x ∧ x ≤ 1000000000 := by simpa [cnt] using h
theorem okN_wait {x : Nt} (h : waitL x.ln (whosL x.gs) = false) : okN x = false := by simp [okN, h]
theorem okN_perm' {x : Nt} (hp : x.pm = true) (hl : 0 < x.ln.length) : okN x = false := by
  have : (x.pm && decide (0 < x.ln.length)) = true := by rw [hp, decide_eq_true hl]; rfl
  unfold okN
  rw [this]; simp
theorem okN_cnt' {x : Nt} (h : cnt x.on = false ∨ cnt x.sp = false ∨ cnt x.tk = false) : okN x = false := by
  unfold okN
  rcases h with h | h | h <;> simp [h]
theorem okN_end' {x : Nt} (hw : waitL x.ln (whosL x.gs) = true) (h3 : x.pm = true → x.ln.length = 0) (c1 : cnt x.on = true) (c2 : cnt x.sp = true) (c3 : cnt x.tk = true) : okN x = decide (x.on = heldN x) := by
  have hp : (x.pm && decide (0 < x.ln.length)) = false := by
    cases e : x.pm
    · rfl
    · rw [h3 e]; rfl
  unfold okN
  rw [hw, hp, c1, c2, c3]; rfl
theorem wait_len {ls ts : List Int} (h : waitL ls ts = true) : ls.length ≤ 32 ∧ ts.length ≤ 32 := by
  simp only [waitL, Bool.and_eq_true, lineL, decide_eq_true_eq] at h
  exact ⟨h.1.1.1, h.1.2.1⟩

theorem NS.nin {N : Nat} {A : Na} {x : Nt} {w u : World} (h : NS N A x w u) : NIn u A x := h.2.2.2.2.2.2.2.1
theorem NS.grs {N : Nat} {A : Na} {x : Nt} {w u : World} (h : NS N A x w u) : GrAt u A.a' A.n' x.gs := h.2.2.2.2.2.2.2.1.grs
theorem NS.ints {N : Nat} {A : Na} {x : Nt} {w u : World} (h : NS N A x w u) : IntsAt u A.a A.n x.ln := h.2.2.2.2.2.2.2.1.ints
set_option maxRecDepth 100000 in
set_option maxHeartbeats 4000000 in
theorem implNotifyOk_any (A : Na) (x : Nt) (w : World) (hI : NIn w A x) (hn : A.n ≤ 2097152) (hn' : A.n' ≤ 2097152) (hw : NWf x) :
    Calls Try.prog 31 #[.agg #[.bool x.pm, .slice A.a A.n A.c, .slice A.a' A.n' A.c', .int .i64 x.on, .int .i64 x.sp, .int .i64 x.tk]] w fun e w' => e = .returned (.bool (okN x)) ∧ Below w.heap.size w w' := by
  generalize hW : w.alloc (.cells #[.bool x.pm, .slice A.a A.n A.c, .slice A.a' A.n' A.c', .int .i64 x.on, .int .i64 x.sp, .int .i64 x.tk] 27) = W
  have hS : NS w.heap.size A x w W := by
    have b0 : Below w.heap.size w W := by subst hW; exact bl_alloc (Below.refl _ _) _
    exact NS.mk' (by subst hW; exact NBox.new w A x _) (hI.keep b0) b0
  have HL1 := hidOf hI.ints.len
  have HL2 := hidOf hI.grs.len
  clear hI
  obtain ⟨pm, ln, gs, on, sp, tk⟩ := x
  obtain ⟨p0, p1, p2, p3, p4, p5, _, _, _⟩ := id hS
  clear p0 p1 p2 p3 p4 p5
  go_enter Try.func31, Try.ntmps31
  cases h1 : waitL ln (whosL gs)
  · have hr := hidOf (okN_wait (x := ⟨pm, ln, gs, on, sp, tk⟩) h1)
    obtain ⟨p0, p1, p2, p3, p4, p5, _, _, _⟩ := id hS
    have CW := hidOf (whosOf_any A.a' A.n' A.c' gs W.drew (NS.grs hS.drew) hn')
    have HS := hidOf hS
    have hun : (undef : Value) = .tuple #[] := rfl
    clear hS
    go_wp2_with fail
    first | (go_region_with (first
      | (go_at_call 67; refine (CW.out).mono ?_; rintro e w1 ⟨a1, c1, rfl, ho1, hb1⟩; have hT1 := NS.keep (HS.out.drew) hb1; have C2 := hidOf (waitersOk_any A.a A.n A.c ln a1 A.n' c1 (whosL gs) w1 (NS.ints hT1) ho1.ints hn hn' hw.ln hw.gs); have HT1 := hidOf hT1; obtain ⟨q0, q1, q2, q3, q4, q5, _, _, _⟩ := id hT1; clear hT1 ho1 hb1)
      | (go_at_call 66; refine (C2.out).mono ?_; rintro e w2 ⟨rfl, hb2⟩; rw [h1]; have hT := NS.keep (HT1.out) hb2; obtain ⟨r0, r1, r2, r3, r4, r5, _, _, hB⟩ := id hT; have HT := hidOf hT; clear hT hb2))) | fail
    all_goals go_wp2
    all_goals go_ret
    all_goals exact ⟨rbool hr.out.symm, hB⟩
  · have H1 := hidOf h1
    have hl := wait_len h1
    rw [HL1.out, whos_len, HL2.out] at hl
    cases pm
    · have H3 : Hid (false = true → ln.length = 0) := hidOf (fun h => by cases h)
      obtain ⟨p0, p1, p2, p3, p4, p5, _, _, _⟩ := id hS
      have CW := hidOf (whosOf_any A.a' A.n' A.c' gs W.drew (NS.grs hS.drew) hn')
      have HS := hidOf hS
      have hun : (undef : Value) = .tuple #[] := rfl
      clear hS
      go_wp2_with fail
      first | (go_region_with (first
        | (go_at_call 67; refine (CW.out).mono ?_; rintro e w1 ⟨a1, c1, rfl, ho1, hb1⟩; have hT1 := NS.keep (HS.out.drew) hb1; have C2 := hidOf (waitersOk_any A.a A.n A.c ln a1 A.n' c1 (whosL gs) w1 (NS.ints hT1) ho1.ints hn hn' hw.ln hw.gs); have HT1 := hidOf hT1; obtain ⟨q0, q1, q2, q3, q4, q5, _, _, _⟩ := id hT1; clear hT1 ho1 hb1)
        | (go_at_call 66; refine (C2.out).mono ?_; rintro e w2 ⟨rfl, hb2⟩; rw [h1]; have hT := NS.keep (HT1.out) hb2; obtain ⟨r0, r1, r2, r3, r4, r5, _, _, hB⟩ := id hT; have HT := hidOf hT; clear hT hb2))) | fail
      all_goals
        cases c1 : cnt on
        · have hr := hidOf (okN_cnt' (x := ⟨false, ln, gs, on, sp, tk⟩) (.inl c1))
          go_wp2_with (go_at_call 68; refine (isCount_any _ _).mono ?_; rintro e w5 ⟨rfl, rfl⟩; first | rw [c1] | skip)
          go_ret
          exact ⟨rbool hr.out.symm, hB⟩
        · cases c2 : cnt sp
          · have hr := hidOf (okN_cnt' (x := ⟨false, ln, gs, on, sp, tk⟩) (.inr (.inl c2)))
            go_wp2_with (go_at_call 68; refine (isCount_any _ _).mono ?_; rintro e w5 ⟨rfl, rfl⟩; first | rw [c1] | rw [c2])
            go_ret
            exact ⟨rbool hr.out.symm, hB⟩
          · cases c3 : cnt tk
            · have hr := hidOf (okN_cnt' (x := ⟨false, ln, gs, on, sp, tk⟩) (.inr (.inr c3)))
              go_wp2_with (go_at_call 68; refine (isCount_any _ _).mono ?_; rintro e w5 ⟨rfl, rfl⟩; first | rw [c1] | rw [c2] | rw [c3])
              go_ret
              exact ⟨rbool hr.out.symm, hB⟩
            · have hr := hidOf (okN_end' (x := ⟨false, ln, gs, on, sp, tk⟩) H1.out (fun h => by first | exact H3.out h | exact H3.out trivial) c1 c2 c3)
              go_wp2_with (go_at_call 68; refine (isCount_any _ _).mono ?_; rintro e w5 ⟨rfl, rfl⟩; first | rw [c1] | rw [c2] | rw [c3])
              go_region_held3 (fun w' => NS w.heap.size A ⟨false, ln, gs, on, sp, tk⟩ w w') (first | (exact HT.out.drew) | assumption | (exact NS.keep (by assumption) (by assumption)))
                (first
                  | (go_at_call 69; refine (tellingsHeld_any A ⟨false, ln, gs, on, sp, tk⟩ _ (NS.nin (by assumption)) (by omega) c2 c3).mono ?_; rintro e w6 ⟨rfl, hb6⟩))
              rename_i hU
              have hBU := hU.2.2.2.2.2.2.2.2
              go_wp2
              go_ret
              exact ⟨rbool (by rw [hr.out, Bool.eq_iff_iff]; simp), hBU⟩
    · by_cases h3 : (0 : Int) < (A.n : Int)
      · have hr := hidOf (okN_perm' (x := ⟨true, ln, gs, on, sp, tk⟩) rfl (by rw [HL1.out]; omega))
        go_wp2_with fail
        first | (go_region_held3 (fun w' => NS w.heap.size A ⟨true, ln, gs, on, sp, tk⟩ w w') (first | (exact hS.drew) | assumption | (exact NS.keep (by assumption) (by assumption)))
          (first
            | (go_at_call 67; refine (whosOf_any A.a' A.n' A.c' gs _ (NS.grs (by assumption)) hn').mono ?_; rintro e w1 ⟨a1, c1, rfl, ho1, hb1⟩)
            | (go_at_call 66; refine (waitersOk_any A.a A.n A.c ln a1 A.n' c1 (whosL gs) _ (NS.ints (by assumption)) ho1.ints hn hn' hw.ln hw.gs).mono ?_; rintro e w2 ⟨rfl, hb2⟩; rw [h1]))) | fail
        rename_i hT
        obtain ⟨r0, r1, r2, r3, r4, r5, _, _, hB⟩ := id hT
        have HT := hidOf hT
        clear hT hb2 hb1 ho1
        go_wp2
        go_ret
        exact ⟨rbool hr.out.symm, hB⟩
      · have H3 : Hid (true = true → ln.length = 0) := hidOf (fun _ => by rw [HL1.out]; omega)
        go_wp2_with fail
        first | (go_region_held3 (fun w' => NS w.heap.size A ⟨true, ln, gs, on, sp, tk⟩ w w') (first | (exact hS.drew) | assumption | (exact NS.keep (by assumption) (by assumption)))
          (first
            | (go_at_call 67; refine (whosOf_any A.a' A.n' A.c' gs _ (NS.grs (by assumption)) hn').mono ?_; rintro e w1 ⟨a1, c1, rfl, ho1, hb1⟩)
            | (go_at_call 66; refine (waitersOk_any A.a A.n A.c ln a1 A.n' c1 (whosL gs) _ (NS.ints (by assumption)) ho1.ints hn hn' hw.ln hw.gs).mono ?_; rintro e w2 ⟨rfl, hb2⟩; rw [h1]))) | fail
        rename_i hT
        obtain ⟨r0, r1, r2, r3, r4, r5, _, _, hB⟩ := id hT
        have HT := hidOf hT
        clear hT hb2 hb1 ho1
        cases c1 : cnt on
        · have hr := hidOf (okN_cnt' (x := ⟨true, ln, gs, on, sp, tk⟩) (.inl c1))
          go_wp2_with (go_at_call 68; refine (isCount_any _ _).mono ?_; rintro e w5 ⟨rfl, rfl⟩; first | rw [c1] | skip)
          go_ret
          exact ⟨rbool hr.out.symm, hB⟩
        · cases c2 : cnt sp
          · have hr := hidOf (okN_cnt' (x := ⟨true, ln, gs, on, sp, tk⟩) (.inr (.inl c2)))
            go_wp2_with (go_at_call 68; refine (isCount_any _ _).mono ?_; rintro e w5 ⟨rfl, rfl⟩; first | rw [c1] | rw [c2])
            go_ret
            exact ⟨rbool hr.out.symm, hB⟩
          · cases c3 : cnt tk
            · have hr := hidOf (okN_cnt' (x := ⟨true, ln, gs, on, sp, tk⟩) (.inr (.inr c3)))
              go_wp2_with (go_at_call 68; refine (isCount_any _ _).mono ?_; rintro e w5 ⟨rfl, rfl⟩; first | rw [c1] | rw [c2] | rw [c3])
              go_ret
              exact ⟨rbool hr.out.symm, hB⟩
            · have hr := hidOf (okN_end' (x := ⟨true, ln, gs, on, sp, tk⟩) H1.out (fun h => by first | exact H3.out h | exact H3.out trivial) c1 c2 c3)
              go_wp2_with (go_at_call 68; refine (isCount_any _ _).mono ?_; rintro e w5 ⟨rfl, rfl⟩; first | rw [c1] | rw [c2] | rw [c3])
              go_region_held3 (fun w' => NS w.heap.size A ⟨true, ln, gs, on, sp, tk⟩ w w') (first | (exact HT.out.drew) | assumption | (exact NS.keep (by assumption) (by assumption)))
                (first
                  | (go_at_call 69; refine (tellingsHeld_any A ⟨true, ln, gs, on, sp, tk⟩ _ (NS.nin (by assumption)) (by omega) c2 c3).mono ?_; rintro e w6 ⟨rfl, hb6⟩))
              rename_i hU
              have hBU := hU.2.2.2.2.2.2.2.2
              go_wp2
              go_ret
              exact ⟨rbool (by rw [hr.out, Bool.eq_iff_iff]; simp), hBU⟩

end Go.Proofs.Ytfgknbflgmblmaa
