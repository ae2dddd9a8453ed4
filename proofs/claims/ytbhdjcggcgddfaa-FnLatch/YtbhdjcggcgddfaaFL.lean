/-
  Walk of the law on latches.
-/
import Derived.Test.YtbhdjcggcgddfaaBL2
import Derived.Test.YtbhdjcggcgddfaaBL3
import Derived.Test.YtbhdjcggcgddfaaE0
namespace Go.Proofs.Ytbhdjcggcgddfaa
open Go.RowKit Go.Maps Pl Il Dr

theorem big_any (a : Option Addr) (n cap : Nat) (w : World) :
    Calls Try.prog 18 #[.slice a n cap] w fun e w' => e = .returned (.bool (decide (1048576 < n))) ∧ w' = w := by
  go_enter Try.func18, Try.ntmps18
  go_wp2
  go_ret
  refine ⟨rbool ?_, rfl⟩
  rw [Bool.eq_iff_iff]; simp; try omega
theorem atN_any (c : Nat) (a : Option Addr) (len cap : Nat) (i : Nat) (w : World) (hB : Bytes c w a len cap) (hi : i ≤ 1000) :
    Calls Try.prog 19 #[.slice a len cap, .int .i64 i] w fun e w' => ∃ y : Int, e = .returned (.int .i64 y) ∧ 0 ≤ y ∧ y ≤ 255 ∧ w' = w := by
  obtain ⟨hl, _, rfl | ⟨b, off, rfl, _, _, hc⟩⟩ := hB
  · have h0 : ¬ (i : Int) < 0 := by omega
    go_enter Try.func19, Try.ntmps19
    go_wp2
    go_ret
    exact ⟨_, rfl, by omega, by omega, rfl⟩
  · by_cases h0 : i < len
    · obtain ⟨n, hn, n0, n1⟩ := hc i h0
      have hi0 : (i : Int) < (len : Int) := by omega
      have hi1 : (0 : Int) ≤ (i : Int) := by omega
      clear hc
      go_enter Try.func19, Try.ntmps19
      go_wp2
      go_ret
      exact ⟨_, rfl, by omega, by omega, rfl⟩
    · have hi0 : ¬ (i : Int) < (len : Int) := by omega
      clear hc
      go_enter Try.func19, Try.ntmps19
      go_wp2
      go_ret
      exact ⟨_, rfl, by omega, by omega, rfl⟩
/-- 0, 1 and so on, k of them. -/
def upto (k : Nat) : List Int := (List.range k).map fun (i : Nat) => (i : Int)
theorem stand_upto {t : Int} (ht : 1 ≤ t ∧ t ≤ 20) {k : Nat} (hk : k < 4) : standAtM ⟨t, upto k, []⟩ (k : Int) = (⟨t, upto (k + 1), []⟩, 4) := by
  have hc : cnt t = true := by simp [cnt]; omega
  have h0 : ¬ t = 0 := by omega
  match k, hk with
  | 0, _ => simp [standAtM, okLa, hc, h0, upto, List.range_succ, waitL, lineL, lineTo, apartL, clientL, hasL]
  | 1, _ => simp [standAtM, okLa, hc, h0, upto, List.range_succ, waitL, lineL, lineTo, apartL, clientL, hasL]
  | 2, _ => simp [standAtM, okLa, hc, h0, upto, List.range_succ, waitL, lineL, lineTo, apartL, clientL, hasL]
  | 3, _ => simp [standAtM, okLa, hc, h0, upto, List.range_succ, waitL, lineL, lineTo, apartL, clientL, hasL]
theorem wf_upto (k : Nat) (hk : k ≤ 4) : wfL (upto k) := by
  intro x hx
  simp only [upto, List.mem_map, List.mem_range] at hx
  obtain ⟨i, hi, rfl⟩ := hx
  simp [Lit.wf, IntKind.min, IntKind.max, IntKind.signed, IntKind.bits]
  omega
/-- The law's latch in its variable N. -/
structure LV (w : World) (N : Nat) (A : Na) (x : Lt) (u : World) : Prop where
  box : LBox N A x u
  own : LOwn (N + 1) u A x
  below : Below w.heap.size w u
  ge : w.heap.size ≤ N
theorem LV.keep {w : World} {N : Nat} {A : Na} {x : Lt} {u u' : World} (h : LV w N A x u) (hb : Below u.heap.size u u') : LV w N A x u' := ⟨h.box.keep hb, h.own.keep hb, bl_trans h.below hb, h.ge⟩
/-- Another latch is stored. -/
theorem LV.store {w : World} {N : Nat} {A A' : Na} {x y : Lt} {u : World} (h : LV w N A x u) (ho : LOwn (N + 1) u A' y) : LV w N A' y (((u.setCell ⟨N, 0, none⟩ (.int .i64 y.ct)).setCell ⟨N, 1, none⟩ (.slice A'.a A'.n A'.c)).setCell ⟨N, 2, none⟩ (.slice A'.a' A'.n' A'.c')) :=
  ⟨((h.box.set0 (v := y.ct)).set1.set2).lists y.ln y.gs, ho.farA N (by omega) _ _ _, bl_sL h.below N h.ge _ _ _, h.ge⟩
theorem bytes_below {c : Nat} {w u : World} {a : Option Addr} {len cap : Nat} (h : Bytes c w a len cap) (hb : Below w.heap.size w u) : Bytes c u a len cap := by
  obtain ⟨hl, hm, h | ⟨b, off, rfl, hlt, hn, hc⟩⟩ := h
  · exact ⟨hl, hm, .inl h⟩
  · exact ⟨hl, hm, .inr ⟨b, off, rfl, Nat.lt_of_lt_of_le hlt hb.size, hn, fun i hi => by rw [hb.cell (p := ⟨b, off + i, none⟩) hlt]; exact hc i hi⟩⟩
theorem ok_up {t : Int} (h1 : 1 ≤ t) (h2 : t ≤ 20) : okLa ⟨t, upto 4, []⟩ = true := by
  have hc : cnt t = true := by simp [cnt]; omega
  have h0 : ¬ t = 0 := by omega
  simp [okLa, hc, h0, upto, List.range_succ, waitL, lineL, lineTo, apartL, clientL, hasL]
theorem count_over {t n : Int} (h1 : 1 ≤ t) (h2 : t ≤ 20) (hn : 1 ≤ n) (h : t < n) : countM ⟨t, upto 4, []⟩ n = (⟨t, upto 4, []⟩, [], 6) := by
  unfold countM
  rw [if_neg (by rw [ok_up h1 h2]; simp; omega), if_pos h]
theorem count_less {t n : Int} (h1 : 1 ≤ t) (h2 : t ≤ 20) (hn : 1 ≤ n) (h : n < t) : countM ⟨t, upto 4, []⟩ n = (⟨t - n, upto 4, []⟩, [], 0) := by
  unfold countM
  rw [if_neg (by rw [ok_up h1 h2]; simp; omega), if_neg (by simp only; omega), if_neg (by simp only; omega), if_pos (by simp only; omega)]
theorem count_all {t : Int} (h1 : 1 ≤ t) (h2 : t ≤ 20) : countM ⟨t, upto 4, []⟩ t = (⟨0, [], upto 4⟩, upto 4, 0) := by
  unfold countM
  rw [if_neg (by rw [ok_up h1 h2]; simp; omega), if_neg (by simp only; omega), if_neg (by simp [upto]), if_neg (by simp only; omega)]
  simp
theorem stand_end : standAtM ⟨0, [], upto 4⟩ 9 = (⟨0, [], upto 4⟩, 0) := by
  unfold standAtM
  rw [if_neg (by decide), if_neg (by decide), if_pos rfl]
theorem pass_end1 : passM ⟨0, [], upto 4⟩ 2 = (⟨0, [], [0, 1, 3]⟩, 0) := by
  unfold passM
  rw [if_neg (by decide), if_neg (by decide), if_pos (by decide)]
  rfl
theorem pass_end2 : passM ⟨0, [], [0, 1, 3]⟩ 2 = (⟨0, [], [0, 1, 3]⟩, 3) := by
  unfold passM
  rw [if_neg (by decide), if_neg (by decide), if_neg (by decide)]
theorem count_end1 : countM ⟨0, [], upto 4⟩ 1 = (⟨0, [], upto 4⟩, [], 6) := by
  unfold countM
  rw [if_neg (by decide), if_pos (by decide)]
theorem wf_013 : wfL [0, 1, 3] := by
  intro x hx
  simp at hx
  rcases hx with rfl | rfl | rfl <;> decide
/-- The law's latch while left are still to be counted. -/
def leftX (lf : Nat) : Lt := if lf = 0 then ⟨0, [], upto 4⟩ else ⟨(lf : Int), upto 4, []⟩
/-- What the second loop keeps. -/
def CR (w : World) (l i : Value) (wr : World) : Prop := ∃ (lf j : Nat) (A : Na), l = .int .i64 lf ∧ i = .int .i64 j ∧ j + lf ≤ 40 ∧ lf ≤ 20 ∧ LV w w.heap.size A (leftX lf) wr
set_option maxRecDepth 100000 in
set_option maxHeartbeats 2000000 in
theorem fnLatch_of (a : Option Addr) (len cap : Nat) (w : World) (hB : len ≤ 1048576 → Bytes w.heap.size w a len cap) :
    Calls Try.prog 11 #[.slice a len cap] w fun e w' => e = .returned (.bool true) ∧ Below w.heap.size w w' := by
  go_enter Try.func11, Try.ntmps11
  go_wp2_with fail
  refine (big_any a len cap _).mono ?_
  rintro e w1 ⟨rfl, hw1⟩
  obtain rfl : w = w1 := hw1.symm
  by_cases hbig : 1048576 < len
  · have hb' : decide (1048576 < len) = true := by simp [hbig]
    rw [hb']
    go_wp2
    go_ret
    exact ⟨rfl, Below.refl _ _⟩
  · have hb' : decide (1048576 < len) = false := by simp [hbig]
    rw [hb']
    have hBy := hB (by omega)
    clear hB hbig hb'
    go_wp2_with fail
    refine (atN_any _ a len cap 0 _ hBy (by omega)).mono ?_
    rintro e w2 ⟨y, rfl, hy0, hy1, hw2⟩
    obtain rfl : w = w2 := hw2.symm
    have ht : 1 ≤ 1 + y % 20 ∧ 1 + y % 20 ≤ 20 := by omega
    go_wp2_with fail
    generalize 1 + y % 20 = t at ht ⊢
    have hV0 : LV w w.heap.size Na.zero ⟨t, upto 0, []⟩ (w.alloc (.cells #[.int .i64 t, .slice none 0 0, .slice none 0 0] 78)) :=
      ⟨LBox.new w Na.zero ⟨t, [], []⟩ _, ⟨⟨⟨rfl, .inl rfl⟩, .inl rfl⟩, ⟨⟨rfl, .inl rfl⟩, .inl rfl⟩, .inl rfl⟩, bl_alloc (Below.refl _ _) _, Nat.le_refl _⟩
    have HV0 := hidOf hV0
    have HBy := hidOf hBy
    clear hBy hV0
    go_loopw [5] (fun i wr => ∃ (k : Nat) (A : Na), k ≤ 4 ∧ i = .int .i64 k ∧ LV w w.heap.size A ⟨t, upto k, []⟩ wr) (fun i _ => 4 - (intOf i).toNat)
    case atStart => exact ⟨0, Na.zero, by omega, rfl, HV0.out⟩
    case round =>
      rename_i wr
      obtain ⟨k, A, hk, rfl, hV⟩ := hrel
      obtain ⟨_, p0, p1, p2, pf⟩ := id hV.box
      simp only at p0 p1 p2
      by_cases hlt : k < 4
      · have hki : (k : Int) < 4 := by omega
        have hS := implStandAt_any A ⟨t, upto k, []⟩ k wr hV.own.nin (by have h7 := hV.own.one.ints.len; simp [upto] at h7; omega) (by have h7 := hV.own.two.ints.len; simp at h7; omega) ⟨wf_upto k (by omega), fun _ h => by cases h⟩ (by simp [Lit.wf, IntKind.min, IntKind.max, IntKind.signed, IntKind.bits]; omega)
        rw [stand_upto ht hlt] at hS
        have HS := hidOf hS
        have HV := hidOf hV
        clear hS hV HV0
        go_wp2_with fail
        refine HS.out.mono ?_
        rintro e w5 ⟨A5, rfl, hO5, _, hb5⟩
        simp only
        generalize hW6 : w5.alloc (.cells #[.int .i64 t, .slice A5.a A5.n A5.c, .slice A5.a' A5.n' A5.c'] 78) = W6
        have hb6 : Below w5.heap.size w5 W6 := by subst hW6; exact bl_alloc (Below.refl _ _) _
        have x6 : LBox w5.heap.size A5 ⟨t, upto (k + 1), []⟩ W6 := by subst hW6; exact LBox.new w5 A5 ⟨t, upto (k + 1), []⟩ _
        have hV6 := HV.out.keep (bl_trans hb5 hb6)
        have hlt6 := HV.out.box.lt
        have hV7 := hV6.store (y := ⟨t, upto (k + 1), []⟩) ((hO5.keep hb6).mono (by omega))
        obtain ⟨_, q0, q1, q2, _⟩ := id x6
        obtain ⟨_, z0, z1, z2, zf⟩ := id hV6.box
        simp only at q0 q1 q2 z0 z1 z2 hV7
        have HV7 := hidOf hV7
        clear p0 p1 p2 pf hV6 hV7 x6 hO5 hb5 hb6 HV HS
        go_wp2
        go_roundw
        case rel => exact ⟨k + 1, A5, by omega, by go_num, HV7.out⟩
        case measure => simp [intOf]; omega
      · obtain rfl : k = 4 := by omega
        have HV := hidOf hV
        clear hV HV0
        obtain ⟨T, hT, hTt⟩ : ∃ T : Nat, (1 ≤ T ∧ T ≤ 20) ∧ t = (T : Int) := ⟨t.toNat, by omega, by omega⟩
        subst hTt
        have hL0 : LV w w.heap.size A (leftX T) wr := by unfold leftX; rw [if_neg (by omega)]; exact HV.out
        have HL0 := hidOf hL0
        clear hL0 HV
        go_wp2_with fail
        go_loopw [8, 9] (fun l i wr => CR w l i wr) (fun l _ _ => (intOf l).toNat)
        case atStart => exact ⟨T, 1, A, rfl, rfl, by omega, by omega, HL0.out⟩
        case round =>
          clear HL0 p0 p1 p2 pf
          rename_i wr
          obtain ⟨lf, j, A, rfl, rfl, hjl, hl20, hV⟩ := hrel
          by_cases hz : lf = 0
          · subst hz
            have hx : leftX 0 = ⟨0, [], upto 4⟩ := by unfold leftX; rw [if_pos rfl]
            rw [hx] at hV
            have HV := hidOf hV
            obtain ⟨_, p0, p1, p2, pf⟩ := id hV.box
            simp only at p0 p1 p2
            clear hV hx
            have h9 : (Lit.int .i64 9).wf = true := by decide
            have h2 : (Lit.int .i64 2).wf = true := by decide
            have h1 : (Lit.int .i64 1).wf = true := by decide
            have hS := implStandAt_any A ⟨0, [], upto 4⟩ 9 wr HV.out.own.nin (by have h7 := HV.out.own.one.ints.len; simp at h7; omega) (by have h7 := HV.out.own.two.ints.len; simp [upto] at h7; omega) ⟨fun _ h => (by cases h), wf_upto 4 (by omega)⟩ h9
            rw [stand_end] at hS
            go_wp2_with fail
            refine hS.mono ?_
            rintro e w5 ⟨A5, rfl, _, _, hb5⟩
            simp only
            generalize hW6 : w5.alloc (.cells #[.int .i64 0, .slice A5.a A5.n A5.c, .slice A5.a' A5.n' A5.c'] 78) = W6
            have hb6 : Below w5.heap.size w5 W6 := by subst hW6; exact bl_alloc (Below.refl _ _) _
            have x6 : LBox w5.heap.size A5 ⟨0, [], upto 4⟩ W6 := by subst hW6; exact LBox.new w5 A5 ⟨0, [], upto 4⟩ _
            have hV6 := HV.out.keep (bl_trans hb5 hb6)
            obtain ⟨_, q0, q1, q2, _⟩ := id hV6.box
            simp only at q0 q1 q2
            have hP := implPassLatch_any A ⟨0, [], upto 4⟩ 2 W6 hV6.own.nin (by have h7 := hV6.own.one.ints.len; simp at h7; omega) (by have h7 := hV6.own.two.ints.len; simp [upto] at h7; omega) ⟨fun _ h => (by cases h), wf_upto 4 (by omega)⟩ h2
            rw [pass_end1] at hP
            have HP := hidOf hP
            have HV6 := hidOf hV6
            clear hS hP hV6 HV hb5 hb6 x6 p0 p1 p2 pf
            go_wp2_with fail
            refine HP.out.mono ?_
            rintro e w7 ⟨A7, rfl, hO7, _, hb7⟩
            simp only
            generalize hW8 : w7.alloc (.cells #[.int .i64 0, .slice A7.a A7.n A7.c, .slice A7.a' A7.n' A7.c'] 78) = W8
            have hb8 : Below w7.heap.size w7 W8 := by subst hW8; exact bl_alloc (Below.refl _ _) _
            have x8 : LBox w7.heap.size A7 ⟨0, [], [0, 1, 3]⟩ W8 := by subst hW8; exact LBox.new w7 A7 ⟨0, [], [0, 1, 3]⟩ _
            have hV8 := HV6.out.keep (bl_trans hb7 hb8)
            have hO8 := hO7.keep hb8
            have hm7 : A7.n' = 3 := by have h7 := hO7.two.ints.len; simpa using h7.symm
            obtain ⟨_, r0, r1, r2, _⟩ := id x8
            simp only at r0 r1 r2
            have hP2 := implPassLatch_any A7 ⟨0, [], [0, 1, 3]⟩ 2 W8 hO8.nin (by have h7 := hO8.one.ints.len; simp at h7; omega) (by omega) ⟨fun _ h => (by cases h), wf_013⟩ h2
            rw [pass_end2] at hP2
            have HP2 := hidOf hP2
            have HV8 := hidOf hV8
            have X8 := hidOf x8
            have Hm7 := hidOf hm7
            clear hP2 hV8 hO7 hO8 hb7 hb8 x8 HV6 HP q0 q1 q2 hm7
            go_wp2_with fail
            refine HP2.out.mono ?_
            rintro e w9 ⟨A9, rfl, _, _, hb9⟩
            simp only
            generalize hW10 : w9.alloc (.cells #[.int .i64 0, .slice A9.a A9.n A9.c, .slice A9.a' A9.n' A9.c'] 78) = W10
            have hb10 : Below w9.heap.size w9 W10 := by subst hW10; exact bl_alloc (Below.refl _ _) _
            have hV10 := HV8.out.keep (bl_trans hb9 hb10)
            have x10 := X8.out.keep (bl_trans hb9 hb10)
            obtain ⟨_, s0, s1, s2, _⟩ := id hV10.box
            simp only at s0 s1 s2
            have hC3 := implCountDown_any A ⟨0, [], upto 4⟩ 1 W10 hV10.own.nin (by have h7 := hV10.own.one.ints.len; simp at h7; omega) (by have h7 := hV10.own.two.ints.len; simp [upto] at h7; omega) ⟨fun _ h => (by cases h), wf_upto 4 (by omega)⟩ h1
            rw [count_end1] at hC3
            have HC3 := hidOf hC3
            have HV10 := hidOf hV10
            have X10 := hidOf x10
            clear hC3 hV10 hb9 hb10 x10 HV8 X8 HP2 r0 r1 r2
            go_wp2_with fail
            refine HC3.out.mono ?_
            rintro e w11 ⟨A11, a11, m11, c11, rfl, _, _, hO11, _, hb11⟩
            obtain rfl : m11 = 0 := by have h7 := hO11.ints.len; simpa using h7.symm
            simp only
            generalize hW12 : w11.alloc (.cells #[.int .i64 0, .slice A11.a A11.n A11.c, .slice A11.a' A11.n' A11.c'] 78) = W12
            have hb12 : Below w11.heap.size w11 W12 := by subst hW12; exact bl_alloc (Below.refl _ _) _
            have hV12 := HV10.out.keep (bl_trans hb11 hb12)
            obtain ⟨_, v0, v1, v2, _⟩ := X10.out.keep (bl_trans hb11 hb12)
            simp only at v0 v1 v2
            rw [Hm7.out] at v2
            have HB := hidOf hV12.below
            clear hV12 hb11 hb12 hO11 HV10 X10 HC3 s0 s1 s2
            go_wp2
            go_ret
            exact ⟨rfl, HB.out⟩
          · have hp : (0 : Int) < (lf : Int) := by omega
            have hx : leftX lf = ⟨(lf : Int), upto 4, []⟩ := by unfold leftX; rw [if_neg hz]
            rw [hx] at hV
            have HBy1 := hidOf (bytes_below HBy.out hV.below)
            have HV := hidOf hV
            clear hV hx
            go_wp2_with fail
            refine (atN_any _ a len cap j _ HBy1.out (by omega)).mono ?_
            rintro e w3 ⟨y3, rfl, hy0, hy1, hw3⟩
            obtain rfl : wr = w3 := hw3.symm
            have hn5 : 1 ≤ 1 + y3 % 5 ∧ 1 + y3 % 5 ≤ 5 := by omega
            generalize hgn : 1 + y3 % 5 = nn at hn5
            obtain ⟨_, p0, p1, p2, pf⟩ := id HV.out.box
            simp only at p0 p1 p2
            have hC := implCountDown_any A ⟨(lf : Int), upto 4, []⟩ nn wr HV.out.own.nin (by have h7 := HV.out.own.one.ints.len; simp [upto] at h7; omega) (by have h7 := HV.out.own.two.ints.len; simp at h7; omega) ⟨wf_upto 4 (by omega), fun _ h => by cases h⟩ (by simp [Lit.wf, IntKind.min, IntKind.max, IntKind.signed, IntKind.bits]; omega)
            by_cases hov : (lf : Int) < nn
            · rw [count_over (by omega) (by omega) hn5.1 hov] at hC
              have HC := hidOf hC
              clear hC
              go_wp2_with fail
              refine HC.out.mono ?_
              rintro e w5 ⟨A5, a5, m5, c5, rfl, hO5, _, hOl, _, hb5⟩
              obtain rfl : m5 = 0 := by have h7 := hOl.ints.len; simpa using h7.symm
              simp only
              generalize hW6 : w5.alloc (.cells #[.int .i64 (lf : Int), .slice A5.a A5.n A5.c, .slice A5.a' A5.n' A5.c'] 78) = W6
              have hb6 : Below w5.heap.size w5 W6 := by subst hW6; exact bl_alloc (Below.refl _ _) _
              have x6 : LBox w5.heap.size A5 ⟨(lf : Int), upto 4, []⟩ W6 := by subst hW6; exact LBox.new w5 A5 ⟨(lf : Int), upto 4, []⟩ _
              have hV6 := HV.out.keep (bl_trans hb5 hb6)
              have hlt6 := HV.out.box.lt
              have hs5 := hb5.size
              obtain ⟨_, q0, q1, q2, qf⟩ := id x6
              obtain ⟨_, z0, z1, z2, zf⟩ := id hV6.box
              simp only at q0 q1 q2 z0 z1 z2
              have hC2 := implCountDown_any A ⟨(lf : Int), upto 4, []⟩ (lf : Int) W6 hV6.own.nin (by have h7 := hV6.own.one.ints.len; simp [upto] at h7; omega) (by have h7 := hV6.own.two.ints.len; simp at h7; omega) ⟨wf_upto 4 (by omega), fun _ h => by cases h⟩ (by simp [Lit.wf, IntKind.min, IntKind.max, IntKind.signed, IntKind.bits]; omega)
              rw [count_all (by omega) (by omega)] at hC2
              have HC2 := hidOf hC2
              have HV6 := hidOf hV6
              have X6 := hidOf x6
              have hov' : (lf : Int) < nn := hov
              clear hC2 hV6 x6 hOl hO5 hb5 hb6 HV HC p0 p1 p2 pf
              go_wp2_with fail
              refine HC2.out.mono ?_
              rintro e w7 ⟨A7, a7, m7, c7, rfl, hO7, _, hOl, _, hb7⟩
              obtain rfl : m7 = 4 := by have h7 := hOl.ints.len; simpa [upto] using h7.symm
              have x7 := X6.out.keep hb7
              have hV8 := HV6.out.keep hb7
              have x8 := ((x7.set0 (v := 0)).set1 (a := A7.a) (n := A7.n) (c := A7.c)).set2 (a := A7.a') (n := A7.n') (c := A7.c')
              have hM : w.heap.size ≠ w5.heap.size := by omega
              have hVb : LBox w.heap.size A ⟨(lf : Int), upto 4, []⟩ (((w7.setCell ⟨w5.heap.size, 0, none⟩ (.int .i64 0)).setCell ⟨w5.heap.size, 1, none⟩ (.slice A7.a A7.n A7.c)).setCell ⟨w5.heap.size, 2, none⟩ (.slice A7.a' A7.n' A7.c')) := ((hV8.box.far _ 0 hM _).far _ 1 hM _).far _ 2 hM _
              have hlt7 := X6.out.lt
              have hO8 : LOwn (w.heap.size + 1) (((w7.setCell ⟨w5.heap.size, 0, none⟩ (.int .i64 0)).setCell ⟨w5.heap.size, 1, none⟩ (.slice A7.a A7.n A7.c)).setCell ⟨w5.heap.size, 2, none⟩ (.slice A7.a' A7.n' A7.c')) A7 ⟨0, [], upto 4⟩ := (hO7.farA w5.heap.size hlt7 _ _ _).mono (by omega)
              obtain ⟨_, r0, r1, r2, rf⟩ := id x7
              obtain ⟨_, s0, s1, s2, sf⟩ := id x8
              obtain ⟨_, v0, v1, v2, vf⟩ := id hVb
              have hBF := bl_sL (bl_sL hV8.below w5.heap.size (by omega) (.int .i64 0) (.slice A7.a A7.n A7.c) (.slice A7.a' A7.n' A7.c')) w.heap.size (Nat.le_refl _) (.int .i64 0) (.slice A7.a A7.n A7.c) (.slice A7.a' A7.n' A7.c')
              have hVF : LV w w.heap.size A7 ⟨0, [], upto 4⟩ _ := ⟨((hVb.set0 (v := 0)).set1.set2).lists [] (upto 4), hO8.farA w.heap.size (by omega) _ _ _, hBF, Nat.le_refl _⟩
              simp only at r0 r1 r2 s0 s1 s2 v0 v1 v2 hVF
              have HV7 := hidOf hVF
              clear hVF hBF hVb hO8 x7 x8 hV8 hOl hO7 hb7 HV6 X6 HC2
              go_wp2
              go_roundw
              case rel =>
                repeat apply Exists.intro
                refine And.intro ?_ rfl
                exact ⟨0, j + 1, A7, by first | rfl | go_num, by first | rfl | go_num, by omega, by omega, by unfold leftX; rw [if_pos rfl]; exact HV7.out⟩
              case measure => simp [intOf]; omega
            · by_cases hle : nn < (lf : Int)
              · rw [count_less (by omega) (by omega) hn5.1 hle] at hC
                obtain ⟨q, hq⟩ : ∃ q : Nat, (lf : Int) - nn = (q : Int) := ⟨((lf : Int) - nn).toNat, by omega⟩
                have hq0 : 0 < q ∧ q < lf := by omega
                rw [hq] at hC
                have HC := hidOf hC
                clear hC
                go_wp2_with fail
                refine HC.out.mono ?_
                rintro e w5 ⟨A5, a5, m5, c5, rfl, hO5, _, hOl, _, hb5⟩
                obtain rfl : m5 = 0 := by have h7 := hOl.ints.len; simpa using h7.symm
                have hov' : ¬ (lf : Int) < nn := by omega
                have hqz : ((q : Int) == 0) = false := by simp; omega
                clear hOl
                simp only
                generalize hW6 : w5.alloc (.cells #[.int .i64 q, .slice A5.a A5.n A5.c, .slice A5.a' A5.n' A5.c'] 78) = W6
                have hb6 : Below w5.heap.size w5 W6 := by subst hW6; exact bl_alloc (Below.refl _ _) _
                have x6 : LBox w5.heap.size A5 ⟨q, upto 4, []⟩ W6 := by subst hW6; exact LBox.new w5 A5 ⟨q, upto 4, []⟩ _
                have hV6 := HV.out.keep (bl_trans hb5 hb6)
                have hlt6 := HV.out.box.lt
                have hV7 := hV6.store (y := ⟨q, upto 4, []⟩) ((hO5.keep hb6).mono (by omega))
                obtain ⟨_, q0, q1, q2, _⟩ := id x6
                obtain ⟨_, z0, z1, z2, zf⟩ := id hV6.box
                simp only at q0 q1 q2 z0 z1 z2 hV7
                have HV7 := hidOf hV7
                clear p0 p1 p2 pf hV6 hV7 x6 hO5 hb5 hb6 HV HC
                go_wp2
                go_roundw
                case rel => exact ⟨_, .int .i64 (q : Int), .int .i64 ((j + 1 : Nat) : Int), ⟨q, j + 1, A5, rfl, rfl, by omega, by omega, by unfold leftX; rw [if_neg (by omega)]; exact HV7.out⟩, rfl, rfl, by go_num⟩
                case measure => simp [intOf]; omega
              · obtain rfl : nn = (lf : Int) := by omega
                rw [count_all (by omega) (by omega)] at hC
                have HC := hidOf hC
                clear hC
                go_wp2_with fail
                refine HC.out.mono ?_
                rintro e w5 ⟨A5, a5, m5, c5, rfl, hO5, _, hOl, _, hb5⟩
                obtain rfl : m5 = 4 := by have h7 := hOl.ints.len; simpa [upto] using h7.symm
                clear hOl
                simp only
                generalize hW6 : w5.alloc (.cells #[.int .i64 0, .slice A5.a A5.n A5.c, .slice A5.a' A5.n' A5.c'] 78) = W6
                have hb6 : Below w5.heap.size w5 W6 := by subst hW6; exact bl_alloc (Below.refl _ _) _
                have x6 : LBox w5.heap.size A5 ⟨0, [], upto 4⟩ W6 := by subst hW6; exact LBox.new w5 A5 ⟨0, [], upto 4⟩ _
                have hV6 := HV.out.keep (bl_trans hb5 hb6)
                have hlt6 := HV.out.box.lt
                have hV7 := hV6.store (y := ⟨0, [], upto 4⟩) ((hO5.keep hb6).mono (by omega))
                obtain ⟨_, q0, q1, q2, _⟩ := id x6
                obtain ⟨_, z0, z1, z2, zf⟩ := id hV6.box
                simp only at q0 q1 q2 z0 z1 z2 hV7
                have HV7 := hidOf hV7
                clear p0 p1 p2 pf hV6 hV7 x6 hO5 hb5 hb6 HV HC
                go_wp2
                go_roundw
                case rel =>
                  repeat apply Exists.intro
                  refine And.intro ?_ rfl
                  exact ⟨0, j + 1, A5, by first | rfl | go_num, by first | rfl | go_num, by omega, by omega, by unfold leftX; rw [if_pos rfl]; exact HV7.out⟩
                case measure => simp [intOf]; omega
end Go.Proofs.Ytbhdjcggcgddfaa
