/-
  The program's events: the methods of either kind.
-/
import Derived.Test.YtbhdjcggcgddfaaBE2
namespace Go.Proofs.Ytbhdjcggcgddfaa
open Go.RowKit Go.Maps Pl Il

/-- A value is answered, and the body is another one. -/
def EOut (B b : Nat) (w : World) (v : Value) (y : Et) (e : Ending) (w' : World) : Prop := ∃ A', e = .returned v ∧ EMem B b A' y w' ∧ Below B w w'
theorem EMem.bset {B b : Nat} {A : Na} {x : Et} {w0 w u : World} (h : EMem B b A x w0) (hb : Below B w u) (o : Nat) (v : Value) : Below B w (u.setCell ⟨b, o, none⟩ v) := bl_set1 hb b o h.wt.ge v
theorem EMem.bel {B b : Nat} {A : Na} {x : Et} {w u : World} (h : EMem B b A x w) (hb : Below w.heap.size w u) : Below B w u := hb.mono (Nat.le_trans h.wt.ge (Nat.le_of_lt h.wt.lt))
theorem manReset_any (B b : Nat) (A : Na) (x : Et) (w : World) (hM : EMem B b A x w) :
    Calls Try.prog 190 #[.pointer (some ⟨b, 0, none⟩)] w fun e w' => EOut B b w (.int .i64 0) { x with up := false } e w' := by
  have c5 := hM.c5
  have ff := hM.wt.fr
  have HM := hidOf (hM.upd false)
  have HB := hidOf (hM.bset (Below.refl B w) 5 (.bool false))
  clear hM
  go_enter Try.func190, Try.ntmps190
  go_wp2
  go_ret
  exact ⟨A, rfl, HM.out, HB.out⟩
def AResetP (B b : Nat) (w : World) (x : Et) (e : Ending) (w' : World) : Prop :=
  (x.up = false → EOut B b w (.int .i64 0) x e w') ∧ (x.up = true → x.sp = 1000000000 → EOut B b w (.int .i64 2) x e w') ∧ (x.up = true → ¬ x.sp = 1000000000 → EOut B b w (.int .i64 0) { x with up := false, sp := x.sp + 1 } e w')
theorem autoReset_any (B b : Nat) (A : Na) (x : Et) (w : World) (hM : EMem B b A x w) (hsp : 0 ≤ x.sp ∧ x.sp ≤ 1000000000) :
    Calls Try.prog 198 #[.pointer (some ⟨b, 0, none⟩)] w fun e w' => AResetP B b w x e w' := by
  have c5 := hM.c5
  have c3 := hM.c3
  have ff := hM.wt.fr
  cases hup : x.up
  · rw [hup] at c5
    have HU := hidOf hup
    have HM := hidOf hM
    clear hM hup
    go_enter Try.func198, Try.ntmps198
    go_wp2
    go_ret
    exact ⟨fun _ => ⟨A, rfl, HM.out, Below.refl _ _⟩, fun hh => absurd hh (by rw [HU.out]; simp), fun hh => absurd hh (by rw [HU.out]; simp)⟩
  · rw [hup] at c5
    have HU := hidOf hup
    clear hup
    by_cases h : x.sp = 1000000000
    · have h' : (x.sp == 1000000000) = true := by simp [h]
      have HM := hidOf hM
      have H := hidOf h
      clear hM h
      go_enter Try.func198, Try.ntmps198
      go_wp2
      go_ret
      exact ⟨fun hh => absurd hh (by rw [HU.out]; simp), fun _ _ => ⟨A, rfl, HM.out, Below.refl _ _⟩, fun _ hh => absurd H.out hh⟩
    · have h' : (x.sp == 1000000000) = false := by simp [h]
      have hM1 := hM.upd false
      have hM2 := hM1.spilt (x.sp + 1)
      have d3 := hM1.c3
      have df := hM1.wt.fr
      have HM := hidOf hM2
      have HB := hidOf (hM.bset (hM.bset (Below.refl B w) 5 (.bool false)) 3 (.int .i64 (x.sp + 1)))
      have H := hidOf h
      simp only at d3
      clear hM hM1 hM2 h
      go_enter Try.func198, Try.ntmps198
      go_wp2
      go_ret
      exact ⟨fun hh => absurd hh (by rw [HU.out]; simp), fun _ hh => absurd hh H.out, fun _ _ => ⟨A, rfl, HM.out, HB.out⟩⟩
def MGoOnP (B b : Nat) (w : World) (x : Et) (who : Int) (e : Ending) (w' : World) : Prop :=
  (turnL x.ln x.gs who ≠ 0 → EOut B b w (.int .i64 (turnL x.ln x.gs who)) x e w') ∧ (turnL x.ln x.gs who = 0 → EOut B b w (.int .i64 0) { x with gs := lessL x.gs who } e w')
theorem manGoOn_any (B b : Nat) (A : Na) (x : Et) (who : Int) (w : World) (hM : EMem B b A x w) (hn : A.n ≤ 2097152) (hn' : A.n' ≤ 2097152) (hw : EWf x) (hx : (Lit.int .i64 who).wf = true) (hl : lineL x.ln = true) (hl' : lineL x.gs = true) :
    Calls Try.prog 188 #[.pointer (some ⟨b, 0, none⟩), .int .i64 who] w fun e w' => MGoOnP B b w x who e w' := by
  have HM := hidOf hM
  clear hM
  go_enter Try.func188, Try.ntmps188
  go_wp2_with fail
  refine (pass_any B b A x.ln x.gs who w HM.out.wt hn hn' hw.ln hw.gs hx hl hl').mono ?_
  rintro e w1 ⟨A', rfl, hS, hT⟩
  have HF := hidOf (And.intro (HM.out.to hS hT) hT.below)
  clear hS hT HM
  obtain ⟨tt, htt⟩ : ∃ tt, turnL x.ln x.gs who = tt := ⟨_, rfl⟩
  rw [htt] at HF ⊢
  have HTT := hidOf htt
  clear htt
  by_cases ht : tt = 0
  · rw [if_pos ht] at HF
    subst ht
    go_wp2
    go_ret
    exact ⟨fun hh => absurd HTT.out hh, fun _ => ⟨A', rfl, HF.out.1, HF.out.2⟩⟩
  · rw [if_neg ht] at HF
    have HT := hidOf ht
    clear ht
    go_wp2
    go_ret
    exact ⟨fun _ => ⟨A', by first | rfl | (rw [HTT.out]; rfl), HF.out.1, HF.out.2⟩, fun hh => absurd (HTT.out.symm.trans hh) HT.out⟩
def AGoOnP (B b : Nat) (w : World) (x : Et) (who : Int) (e : Ending) (w' : World) : Prop :=
  (turnL x.ln x.gs who ≠ 0 → EOut B b w (.int .i64 (turnL x.ln x.gs who)) x e w') ∧ (turnL x.ln x.gs who = 0 → x.tk = 1000000000 → EOut B b w (.int .i64 2) x e w') ∧ (turnL x.ln x.gs who = 0 → ¬ x.tk = 1000000000 → EOut B b w (.int .i64 0) { x with ln := lessL x.ln who, gs := lessL x.gs who, tk := x.tk + 1 } e w')
theorem autoGoOn_any (B b : Nat) (A : Na) (x : Et) (who : Int) (w : World) (hM : EMem B b A x w) (hn : A.n ≤ 2097152) (hn' : A.n' ≤ 2097152) (hw : EWf x) (hx : (Lit.int .i64 who).wf = true) (hl : lineL x.ln = true) (hl' : lineL x.gs = true) (htk : 0 ≤ x.tk ∧ x.tk ≤ 1000000000) :
    Calls Try.prog 196 #[.pointer (some ⟨b, 0, none⟩), .int .i64 who] w fun e w' => AGoOnP B b w x who e w' := by
  have HM := hidOf hM
  clear hM
  go_enter Try.func196, Try.ntmps196
  go_wp2_with fail
  refine (turnOf_any B b A x.ln x.gs who w HM.out.wt hn hn' hw.ln hw.gs hx).mono ?_
  rintro e w1 ⟨rfl, hb1⟩
  have HM1 := hidOf (HM.out.keep hb1)
  have HB1 := hidOf (HM.out.bel hb1)
  clear HM hb1
  obtain ⟨tt, htt⟩ : ∃ tt, turnL x.ln x.gs who = tt := ⟨_, rfl⟩
  rw [htt]
  have HTT := hidOf htt
  clear htt
  by_cases ht : tt = 0
  · subst ht
    have c4 := HM1.out.c4
    by_cases h : x.tk = 1000000000
    · have h' : (x.tk == 1000000000) = true := by simp [h]
      have H := hidOf h
      clear h
      go_wp2
      go_ret
      exact ⟨fun hh => absurd HTT.out hh, fun _ _ => ⟨A, rfl, HM1.out, HB1.out⟩, fun _ hh => absurd H.out hh⟩
    · have h' : (x.tk == 1000000000) = false := by simp [h]
      have H := hidOf h
      clear h
      go_wp2_with fail
      refine (remove_any B b A x.ln x.gs who w1 HM1.out.wt hn hn' hw.ln hw.gs hx hl hl').mono ?_
      rintro e w2 ⟨A', rfl, hS, hT⟩
      have hM2 := HM1.out.to hS hT
      have hM3 := hM2.taken (x.tk + 1)
      have d4 := hM2.c4
      have df := hM2.wt.fr
      have HF := hidOf (And.intro hM3 (hM2.bset (HB1.out.trans hT.below) 4 (.int .i64 (x.tk + 1))))
      simp only at d4
      clear hS hT hM2 hM3 HM1 HB1 c4
      go_wp2
      go_ret
      exact ⟨fun hh => absurd HTT.out hh, fun _ hh => absurd hh H.out, fun _ _ => ⟨A', rfl, HF.out.1, HF.out.2⟩⟩
  · have ht' : (tt != 0) = true := by simp [ht]
    have HT := hidOf ht
    clear ht
    go_wp2
    go_ret
    exact ⟨fun _ => ⟨A, by first | rfl | (rw [HTT.out]; rfl), HM1.out, HB1.out⟩, fun hh => absurd (HTT.out.symm.trans hh) HT.out, fun hh => absurd (HTT.out.symm.trans hh) HT.out⟩
/-- One more waits, or the line is full. -/
def WaitP (B b : Nat) (w : World) (x : Et) (who : Int) (e : Ending) (w' : World) : Prop := (x.ln.length = 32 → EOut B b w (.int .i64 2) x e w') ∧ (¬ x.ln.length = 32 → EOut B b w (.int .i64 4) { x with ln := x.ln ++ [who] } e w')
def MStandP (B b : Nat) (w : World) (x : Et) (who : Int) (e : Ending) (w' : World) : Prop :=
  (turnL x.ln x.gs who ≠ 3 → EOut B b w (.int .i64 5) x e w') ∧ (turnL x.ln x.gs who = 3 → x.up = true → EOut B b w (.int .i64 0) x e w') ∧ (turnL x.ln x.gs who = 3 → x.up = false → WaitP B b w x who e w')
theorem manStand_any (B b : Nat) (A : Na) (x : Et) (who : Int) (w : World) (hM : EMem B b A x w) (hn : A.n ≤ 2097152) (hn' : A.n' ≤ 2097152) (hw : EWf x) (hx : (Lit.int .i64 who).wf = true) :
    Calls Try.prog 192 #[.pointer (some ⟨b, 0, none⟩), .int .i64 who] w fun e w' => MStandP B b w x who e w' := by
  have HM := hidOf hM
  clear hM
  go_enter Try.func192, Try.ntmps192
  go_wp2_with fail
  refine (turnOf_any B b A x.ln x.gs who w HM.out.wt hn hn' hw.ln hw.gs hx).mono ?_
  rintro e w1 ⟨rfl, hb1⟩
  have HM1 := hidOf (HM.out.keep hb1)
  have HB1 := hidOf (HM.out.bel hb1)
  clear HM hb1
  obtain ⟨tt, htt⟩ : ∃ tt, turnL x.ln x.gs who = tt := ⟨_, rfl⟩
  rw [htt]
  have HTT := hidOf htt
  clear htt
  have c5 := HM1.out.c5
  by_cases ht : tt = 3
  · subst ht
    cases hup : x.up
    · rw [hup] at c5
      have HU := hidOf hup
      clear hup
      go_wp2_with fail
      refine (wait_any B b A x.ln x.gs who w1 HM1.out.wt hn).mono ?_
      rintro e w2 ⟨A', rfl, hS, hT⟩
      have HF := hidOf (And.intro (HM1.out.to hS hT) (HB1.out.trans hT.below))
      clear hS hT HM1 HB1 c5
      by_cases h32 : x.ln.length = 32
      · rw [if_pos h32] at HF ⊢
        have H32 := hidOf h32
        clear h32
        go_wp2
        go_ret
        exact ⟨fun hh => absurd HTT.out hh, fun _ hh => absurd hh (by rw [HU.out]; simp), fun _ _ => ⟨fun _ => ⟨A', rfl, HF.out.1, HF.out.2⟩, fun hh => absurd H32.out hh⟩⟩
      · rw [if_neg h32] at HF ⊢
        have H32 := hidOf h32
        clear h32
        go_wp2
        go_ret
        exact ⟨fun hh => absurd HTT.out hh, fun _ hh => absurd hh (by rw [HU.out]; simp), fun _ _ => ⟨fun hh => absurd hh H32.out, fun _ => ⟨A', rfl, HF.out.1, HF.out.2⟩⟩⟩
    · rw [hup] at c5
      have HU := hidOf hup
      clear hup
      go_wp2
      go_ret
      exact ⟨fun hh => absurd HTT.out hh, fun _ _ => ⟨A, rfl, HM1.out, HB1.out⟩, fun _ hh => absurd hh (by rw [HU.out]; simp)⟩
  · have ht' : (tt != 3) = true := by simp [ht]
    have HT := hidOf ht
    clear ht
    go_wp2
    go_ret
    exact ⟨fun _ => ⟨A, by first | rfl | (rw [HTT.out]; rfl), HM1.out, HB1.out⟩, fun hh => absurd (HTT.out.symm.trans hh) HT.out, fun hh => absurd (HTT.out.symm.trans hh) HT.out⟩
def AStandP (B b : Nat) (w : World) (x : Et) (who : Int) (e : Ending) (w' : World) : Prop :=
  (turnL x.ln x.gs who ≠ 3 → EOut B b w (.int .i64 5) x e w') ∧ (turnL x.ln x.gs who = 3 → x.tk = 1000000000 → EOut B b w (.int .i64 2) x e w') ∧ (turnL x.ln x.gs who = 3 → ¬ x.tk = 1000000000 → x.up = true → EOut B b w (.int .i64 0) { x with up := false, tk := x.tk + 1 } e w') ∧ (turnL x.ln x.gs who = 3 → ¬ x.tk = 1000000000 → x.up = false → WaitP B b w x who e w')
theorem autoStand_any (B b : Nat) (A : Na) (x : Et) (who : Int) (w : World) (hM : EMem B b A x w) (hn : A.n ≤ 2097152) (hn' : A.n' ≤ 2097152) (hw : EWf x) (hx : (Lit.int .i64 who).wf = true) (htk : 0 ≤ x.tk ∧ x.tk ≤ 1000000000) :
    Calls Try.prog 200 #[.pointer (some ⟨b, 0, none⟩), .int .i64 who] w fun e w' => AStandP B b w x who e w' := by
  have HM := hidOf hM
  clear hM
  go_enter Try.func200, Try.ntmps200
  go_wp2_with fail
  refine (turnOf_any B b A x.ln x.gs who w HM.out.wt hn hn' hw.ln hw.gs hx).mono ?_
  rintro e w1 ⟨rfl, hb1⟩
  have HM1 := hidOf (HM.out.keep hb1)
  have HB1 := hidOf (HM.out.bel hb1)
  clear HM hb1
  obtain ⟨tt, htt⟩ : ∃ tt, turnL x.ln x.gs who = tt := ⟨_, rfl⟩
  rw [htt]
  have HTT := hidOf htt
  clear htt
  have c5 := HM1.out.c5
  have c4 := HM1.out.c4
  have ff := HM1.out.wt.fr
  by_cases ht : tt = 3
  · subst ht
    by_cases h : x.tk = 1000000000
    · have h' : (x.tk == 1000000000) = true := by simp [h]
      have H := hidOf h
      clear h
      go_wp2
      go_ret
      exact ⟨fun hh => absurd HTT.out hh, fun _ _ => ⟨A, rfl, HM1.out, HB1.out⟩, fun _ hh => absurd H.out hh, fun _ hh => absurd H.out hh⟩
    · have h' : (x.tk == 1000000000) = false := by simp [h]
      have H := hidOf h
      clear h
      cases hup : x.up
      · rw [hup] at c5
        have HU := hidOf hup
        clear hup
        go_wp2_with fail
        refine (wait_any B b A x.ln x.gs who w1 HM1.out.wt hn).mono ?_
        rintro e w2 ⟨A', rfl, hS, hT⟩
        have HF := hidOf (And.intro (HM1.out.to hS hT) (HB1.out.trans hT.below))
        clear hS hT HM1 HB1 c5
        by_cases h32 : x.ln.length = 32
        · rw [if_pos h32] at HF ⊢
          have H32 := hidOf h32
          clear h32
          go_wp2
          go_ret
          exact ⟨fun hh => absurd HTT.out hh, fun _ hh => absurd hh H.out, fun _ _ hh => absurd hh (by rw [HU.out]; simp), fun _ _ _ => ⟨fun _ => ⟨A', rfl, HF.out.1, HF.out.2⟩, fun hh => absurd H32.out hh⟩⟩
        · rw [if_neg h32] at HF ⊢
          have H32 := hidOf h32
          clear h32
          go_wp2
          go_ret
          exact ⟨fun hh => absurd HTT.out hh, fun _ hh => absurd hh H.out, fun _ _ hh => absurd hh (by rw [HU.out]; simp), fun _ _ _ => ⟨fun hh => absurd hh H32.out, fun _ => ⟨A', rfl, HF.out.1, HF.out.2⟩⟩⟩
      · rw [hup] at c5
        have hM2 := HM1.out.upd false
        have hM3 := hM2.taken (x.tk + 1)
        have d4 := hM2.c4
        have df := hM2.wt.fr
        have HF := hidOf (And.intro hM3 (hM2.bset (hM2.bset HB1.out 5 (.bool false)) 4 (.int .i64 (x.tk + 1))))
        have HU := hidOf hup
        simp only at d4
        clear hup hM2 hM3 HM1 HB1
        go_wp2
        go_ret
        exact ⟨fun hh => absurd HTT.out hh, fun _ hh => absurd hh H.out, fun _ _ _ => ⟨A, rfl, HF.out.1, HF.out.2⟩, fun _ _ hh => absurd hh (by rw [HU.out]; simp)⟩
  · have ht' : (tt != 3) = true := by simp [ht]
    have HT := hidOf ht
    clear ht
    go_wp2
    go_ret
    exact ⟨fun _ => ⟨A, by first | rfl | (rw [HTT.out]; rfl), HM1.out, HB1.out⟩, fun hh => absurd (HTT.out.symm.trans hh) HT.out, fun hh => absurd (HTT.out.symm.trans hh) HT.out, fun hh => absurd (HTT.out.symm.trans hh) HT.out⟩
end Go.Proofs.Ytbhdjcggcgddfaa
