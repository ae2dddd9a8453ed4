/-
  The specification's draws: a notification, and who withdraws
-/
import Derived.Test.YtfgknbflgmblmaaZPq14
namespace Go.Proofs.Ytfgknbflgmblmaa
open Go.RowKit Pl Il Dr
theorem l2WhoN_any (a : Option Addr) (len cap : Nat) (c : Nat) (la : Option Addr) (m cp : Nat) (xs : List Int) (w : World) (hC : Cur c a len cap w) (hI : IntsAt w la m xs) (hw : wfL xs) (hne : m = 0 ∨ ∀ b off, la = some ⟨b, off, none⟩ → b ≠ c) (hm : m ≤ 250) :
  Calls Try.prog 86 #[.pointer (some ⟨c, 0, none⟩), .slice la m cp] w fun e w' => ∃ x : Int, e = .returned (.int .i64 x) ∧ (Lit.int .i64 x).wf = true ∧ Drawn c a len cap w w' := by
 have HI := hidOf hI
 have HNe := hidOf hne
 have hlt := hC.lt
 have hC1 := hC
 clear hI hne
 by_cases h0 : m = 0
 ·have hm0 : ¬ 0 < (m : Int) := by omega
  go_enter Try.func86, Try.ntmps86
  go_wp2_with fail
  refine (once_any a len cap c 12 _ hC1 (by omega) (by omega)).mono ?_
  rintro e w2 ⟨z, rfl, hd2⟩
  cases z
  ·go_wp2_with fail
   refine (below_any a len cap c 64 _ hd2.cur (by omega) (by omega)).mono ?_
   rintro e w3 ⟨x, rfl, x0, x1, hd3⟩
   go_wp2
   go_ret
   exact ⟨_, rfl, WalkArith.wf_i64 (by omega), hd2.trans hd3⟩
  ·go_wp2_with fail
   refine (pickP_any (fun v => (Lit.int .i64 v).wf = true) a len cap c w2.heap.size 2 _ (hd2.cur.alloc _) (by simp) (by have := hd2.cur.lt; omega) (by omega) (by omega) (who_row w2)).mono ?_
   rintro e w3 ⟨x, rfl, hx, hd3⟩
   go_wp2
   go_ret
   exact ⟨_, rfl, hx, (hd2.alloc _).trans hd3⟩
 ·have hm0 : 0 < (m : Int) := by omega
  go_enter Try.func86, Try.ntmps86
  go_wp2_with fail
  refine (once_any a len cap c 2 _ hC1 (by omega) (by omega)).mono ?_
  rintro e w1 ⟨y, rfl, hd1⟩
  cases y
  ·go_wp2_with fail
   refine (once_any a len cap c 12 _ hd1.cur (by omega) (by omega)).mono ?_
   rintro e w2 ⟨z, rfl, hd2'⟩
   have hd2 := hd1.trans hd2'
   clear hd1 hd2'
   cases z
   ·go_wp2_with fail
    refine (below_any a len cap c 64 _ hd2.cur (by omega) (by omega)).mono ?_
    rintro e w3 ⟨x, rfl, x0, x1, hd3⟩
    go_wp2
    go_ret
    exact ⟨_, rfl, WalkArith.wf_i64 (by omega), hd2.trans hd3⟩
   ·go_wp2_with fail
    refine (pickP_any (fun v => (Lit.int .i64 v).wf = true) a len cap c w2.heap.size 2 _ (hd2.cur.alloc _) (by simp) (by have := hd2.cur.lt; omega) (by omega) (by omega) (who_row w2)).mono ?_
    rintro e w3 ⟨x, rfl, hx, hd3⟩
    go_wp2
    go_ret
    exact ⟨_, rfl, hx, (hd2.alloc _).trans hd3⟩
  ·go_wp2_with fail
   refine (below_any a len cap c (m : Int) _ hd1.cur (by omega) (by omega)).mono ?_
   rintro e w2 ⟨x, rfl, x0, x1, hd2⟩
   obtain ⟨k, rfl⟩ := Int.eq_ofNat_of_zero_le x0
   have hdB := hd1.trans hd2
   have hk : k < m := by omega
   obtain ⟨hl, h0' | ⟨b, off, e, hb, hc⟩⟩ := HI.out
   ·omega
   ·subst e
    have hcc := hc k hk
    have hwk := wf_at hw (k := k) (by omega)
    generalize xs.getD k 0 = y at hcc hwk
    have hbc : b ≠ c := by
     rcases HNe.out with h | h
     ·omega
     ·exact h b off rfl
    have hv : w2.cell? ⟨b, off + k, none⟩ = some (.int .i64 y) := by rw [hdB.ex.cell hb hbc]; exact hcc
    clear hc hcc HI hd1 hd2
    go_wp2
    go_ret
    exact ⟨_, rfl, hwk, hdB⟩
theorem whos_wf {gs : List (Int × Bool)} (h : wfL (whosL gs)) {k : Nat} (hk : k < gs.length) : (Lit.int .i64 (gg gs k).1).wf = true := by
  have h1 := wf_at h (k := k) (by rw [whos_len]; exact hk)
  rwa [whos_at] at h1
theorem ints_ex {c : Nat} {w w' : World} {a : Option Addr} {n : Nat} {xs : List Int} (h : IntsAt w a n xs) (hx : Ex c w w') (hne : n = 0 ∨ ∀ b off, a = some ⟨b, off, none⟩ → b ≠ c) : IntsAt w' a n xs := by
  obtain ⟨hl, h0 | ⟨b, off, e, hb, hc⟩⟩ := h
  · exact ⟨hl, .inl h0⟩
  · rcases hne with h | h
    · exact ⟨hl, .inl h⟩
    · exact ⟨hl, .inr ⟨b, off, e, Nat.lt_of_lt_of_le hb hx.size, fun i hi => by rw [hx.cell hb (h b off e)]; exact hc i hi⟩⟩
set_option maxHeartbeats 4000000 in
theorem l5Who_any (a : Option Addr) (len cap : Nat) (c : Nat) (A : Na) (x : Nt) (w : World) (hC : Cur c a len cap w) (hI : NIn w A x) (hw : NWf x) (hne : apartN A c) (hn : A.n ≤ 250) (hn' : A.n' ≤ 250) :
  Calls Try.prog 60 #[.pointer (some ⟨c, 0, none⟩), .agg #[.bool x.pm, .slice A.a A.n A.c, .slice A.a' A.n' A.c', .int .i64 x.on, .int .i64 x.sp, .int .i64 x.tk]] w fun e w' => ∃ z : Int, e = .returned (.int .i64 z) ∧ (Lit.int .i64 z).wf = true ∧ Drawn c a len cap w w' := by
 generalize hW0 : w.alloc (.cells #[.bool x.pm, .slice A.a A.n A.c, .slice A.a' A.n' A.c', .int .i64 x.on, .int .i64 x.sp, .int .i64 x.tk] 27) = W0
 have b0 : Below w.heap.size w W0 := by subst hW0; exact bl_alloc (Below.refl _ _) _
 have x0 : NBox w.heap.size A x W0 := by subst hW0; exact NBox.new w A x _
 have HD0 := hidOf (drawn_keepN (Drawn.start hC) b0)
 have HX0 := hidOf x0
 have HI := hidOf (hI.keep b0)
 have HL := hidOf hI.grs.len
 have HW := hidOf hw
 have HNe := hidOf hne
 have hlt := hC.lt
 clear hC hI hw hne b0 x0
 have hlast : ∀ (Q : World → Prop), True := fun _ => trivial
 clear hlast
 obtain ⟨_, p0, p1, p2, p3, p4, p5, pf⟩ := id HX0.out
 go_enter Try.func60, Try.ntmps60
 by_cases hpos : A.n' = 0
 ·have e0 : decide ((0 : Int) < (A.n' : Int)) = false := by simp [hpos]
  have e1 : decide (0 < A.n') = false := by simp [hpos]
  clear hpos
  go_wp2_with fail
  refine (l2WhoN_any a len cap c A.a A.n A.c x.ln _ HD0.out.cur (HI.out.ints) HW.out.ln (.inr fun b' off' e1 e2 => HNe.out.1 (by rw [e1]; simp [Value.ownBlock, e2])) hn).mono ?_
  rintro e w3 ⟨z, rfl, hz, hd3⟩
  have HF := hidOf (And.intro hz (HD0.out.trans hd3))
  clear hz hd3
  go_wp2
  go_ret
  exact ⟨z, rfl, HF.out.1, HF.out.2⟩
 have hpi : (0 : Int) < (A.n' : Int) := by omega
 go_wp2_with fail
 refine (once_any a len cap c 2 _ HD0.out.cur (by omega) (by omega)).mono ?_
 rintro e w1 ⟨b1, rfl, hd1⟩
 have HX1 := hidOf (HX0.out.dr hd1 (by omega))
 have HD1 := hidOf (HD0.out.trans hd1)
 have hI1 := ints_ex HI.out.ints hd1.ex (.inr fun b' off' e1 e2 => HNe.out.1 (by rw [e1]; simp [Value.ownBlock, e2]))
 have HI1 := hidOf hI1
 have Hd1 := hidOf hd1
 clear hI1 hd1 p0 p1 p2 p3 p4 p5 pf
 obtain ⟨_, p0, p1, p2, p3, p4, p5, pf⟩ := id HX1.out
 cases b1
 ·go_wp2_with fail
  refine (l2WhoN_any a len cap c A.a A.n A.c x.ln _ HD1.out.cur (HI1.out) HW.out.ln (.inr fun b' off' e1 e2 => HNe.out.1 (by rw [e1]; simp [Value.ownBlock, e2])) hn).mono ?_
  rintro e w3 ⟨z, rfl, hz, hd3⟩
  have HF := hidOf (And.intro hz (HD1.out.trans hd3))
  clear hz hd3
  go_wp2
  go_ret
  exact ⟨z, rfl, HF.out.1, HF.out.2⟩
 ·obtain ⟨hlen, h0' | ⟨b, off, e1, hb, hcell⟩⟩ := HI.out.grs
  ·exfalso
   omega
  have hbc : b ≠ c := fun e2 => HNe.out.2 (by rw [e1]; simp [Value.ownBlock, e2])
  have hgc : ∀ u, Drawn c a len cap w1 u → ∀ k : Nat, k < A.n' → u.cell? ⟨b, off + k * 2, none⟩ = some (.int .i64 (gg x.gs k).1) := fun u hu k hk => by rw [(Hd1.out.trans hu).ex.cell hb hbc]; exact (hcell k hk).1
  have HGc := hidOf hgc
  rw [e1] at p2
  have HXc := hidOf (fun (u : World) (hu : Drawn c a len cap w1 u) => (HX1.out.dr hu (by omega)).c2)
  have hE : (Value.slice A.a' A.n' A.c') = .slice (some ⟨b, off, none⟩) A.n' A.c' := by rw [e1]
  have HE := hidOf hE
  have hS0 : Drawn c a len cap w1 w1.drew := (Drawn.start HD1.out.cur).drew
  clear hcell hgc hb hlen e1 hE
  go_upto_region 2 with fail
  refine wp_region_noPanic ?_
  refine wp_region_held_drew (S := fun u => u.cell? ⟨w.heap.size, 2, none⟩ = some (.slice (some ⟨b, off, none⟩) A.n' A.c') ∧ Drawn c a len cap w1 u) (by kernel_rfl) ⟨by rw [HXc.out _ hS0, HE.out], hS0⟩ (fun hHeld => ?_)
  refine tK 0 ?_ rfl (by kernel_rfl) (by rfl) ?_ (by assumption) (fun _ _ _ h => h) ?_
  case refine_2 => (intro w hSw; (try dsimp only at hSw); go_simp; try with_reducible rfl)
  simp only [Act.put, List.getElem_toArray, List.getElem_cons_zero, List.setIfInBounds_toArray, List.set_cons_zero, List.set_cons_succ]
  refine tR 1 ?_
  refine tR 2 ?_
  refine tR 3 ?_
  refine tR 4 ?_
  refine tR 5 ?_
  refine tW 6 (fun K hK => ?_)
  go_simp
  refine (below_any a len cap c (A.n' : Int) _ hHeld.2.cur (by omega) (by omega)).mono ?_
  rintro e w2 ⟨z, rfl, z0, z1, hd2⟩
  obtain ⟨k, rfl⟩ := Int.eq_ofNat_of_zero_le z0
  go_wp2_with fail
  have hS2 := hHeld.2.trans hd2
  refine hK.out _ _ ⟨by rw [HXc.out _ hS2, HE.out], hS2⟩ (fun hHeld => ?_)
  clear hK K
  have hk : k < A.n' := by omega
  have hki : (0 : Int) ≤ (k : Int) ∧ (k : Int) < (A.n' : Int) := by omega
  have hc2 := HGc.out w2 hS2 k hk
  refine tR 7 ?_
  refine tR 8 ?_
  refine tW 9 (fun K hK => ?_)
  go_simp
  refine hK.out _ _ hHeld (fun hHeld => ?_)
  clear hK K
  refine tR 10 ?_
  refine wpAnyH_done (by kernel_rfl) ?_ _
  refine NoPanic.normal ?_
  have HF := hidOf (And.intro (whos_wf HW.out.gs (k := k) (by have h1 := HL.out; omega)) (HD1.out.trans hS2))
  generalize (gg x.gs k).1 = zz at HF hc2 ⊢
  go_wp2_with fail
  go_ret
  exact ⟨_, rfl, HF.out.1, HF.out.2⟩
/-- A notification is drawn, and who withdraws. -/
def NwD (w : World) (e : Ending) (w' : World) : Prop := ∃ (A : Na) (x : Nt) (z : Int), e = .returned (.tuple #[.agg #[.bool x.pm, .slice A.a A.n A.c, .slice A.a' A.n' A.c', .int .i64 x.on, .int .i64 x.sp, .int .i64 x.tk], .int .i64 z]) ∧ NRow w.heap.size w' A x ∧ lenN x ≤ 60 ∧ (Lit.int .i64 z).wf = true ∧ Below w.heap.size w w'
set_option maxRecDepth 100000 in
set_option maxHeartbeats 4000000 in
theorem drawWithdraw_any (a : Option Addr) (len cap : Nat) (w : World) (hB : Bytes w.heap.size w a len cap) :
  Calls Try.prog 27 #[.slice a len cap] w fun e w' => NwD w e w' := by
 obtain ⟨W0, hW0⟩ : ∃ W, W = w.alloc (.cells #[.bool false, .slice none 0 0, .slice none 0 0, .int .i64 0, .int .i64 0, .int .i64 0] 27) := ⟨_, rfl⟩
 have b0 : Below w.heap.size w W0 := by rw [hW0]; exact bl_alloc (Below.refl _ _) _
 have r0 : NBox w.heap.size Na.zero Nt.zero W0 := by rw [hW0]; exact NBox.newZ w _
 have s0 : W0.heap.size = w.heap.size + 1 := by rw [hW0]; simp
 go_enter Try.func27, Try.ntmps27
 go_wp2_with fail
 rw [← hW0]
 clear hW0
 refine (new_any a len cap _ (hB.laterN b0 _ (by omega))).mono ?_
 rintro e w1 ⟨rfl, hC, hb1⟩
 have r1 := r0.keep hb1
 have hb := bl_trans b0 hb1
 have hlt1 := hC.lt
 have HC := hidOf hC
 have HS := hidOf s0
 clear hb1 b0 r0 hB hC s0
 go_wp2_with fail
 refine (l5Some_any a len cap _ _ HC.out).mono ?_
 rintro e w2 ⟨A, x, rfl, hrow, hcap, hle, hd⟩
 have hs := HS.out
 have r2 := r1.dr hd (by omega)
 have hB2 : Below w.heap.size w w2 := hb.trans (hd.ex.below (by omega) hb.size)
 generalize hcN : W0.heap.size = c at hd hs HC hlt1 ⊢
 have hsm := lenN_small hrow.own hle
 have HWf := hidOf (lenN_wf hle (by omega))
 have hap : apartN A c := hrow.neN hlt1
 have HRc := hidOf (show w.heap.size ≠ c ∧ w.heap.size < c ∧ w.heap.size < w1.heap.size by omega)
 clear hs
 go_upto_region 3 with fail
 have bA := bl_alloc (Below.refl w2.heap.size w2) (.cells #[.bool x.pm, .slice A.a A.n A.c, .slice A.a' A.n' A.c', .int .i64 x.on, .int .i64 x.sp, .int .i64 x.tk] 27)
 have x3 : NBox w2.heap.size A x (w2.alloc (.cells #[.bool x.pm, .slice A.a A.n A.c, .slice A.a' A.n' A.c', .int .i64 x.on, .int .i64 x.sp, .int .i64 x.tk] 27)) := NBox.new w2 A x _
 have hrow3 := hrow.keep bA
 have r3 := r2.keep bA
 have hB3 := bl_trans hB2 bA
 have hd3 := drawn_keepN hd bA
 have hlt2 := r2.lt
 generalize w2.alloc (.cells #[.bool x.pm, .slice A.a A.n A.c, .slice A.a' A.n' A.c', .int .i64 x.on, .int .i64 x.sp, .int .i64 x.tk] 27) = W3 at x3 hrow3 r3 hB3 hd3 ⊢
 generalize hN : w2.heap.size = N at x3 hlt2 ⊢
 have hNc : N ≠ c := by have h1 := hd.cur.lt; omega
 have HX3 := hidOf x3
 have HR3 := hidOf r3
 have HW3 := hidOf hrow3
 have HD3 := hidOf hd3
 have HB3 := hidOf hB3
 have HAp := hidOf hap
 have HLe := hidOf hle
 have hlt1' := hlt1
 clear hrow hcap hle hd r1 r2 hB2 hb HC HS bA x3 hrow3 r3 hB3 hd3 hap hN hcN
 have HNi := hidOf (HW3.out.own.nin.keep (Below.refl _ W3).drew)
 refine wp_region_noPanic ?_
 have hS0 : Drawn c a len cap W3 W3.drew := (Drawn.start HD3.out.cur).drew
 obtain ⟨_, p0, p1, p2, p3, p4, p5, pf⟩ := id (HX3.out.dr hS0 hNc)
 refine wp_region_held_drew (S := fun u => u.cell? ⟨N, 0, none⟩ = some (.bool x.pm) ∧ u.cell? ⟨N, 1, none⟩ = some (.slice A.a A.n A.c) ∧ u.cell? ⟨N, 2, none⟩ = some (.slice A.a' A.n' A.c') ∧ u.cell? ⟨N, 3, none⟩ = some (.int .i64 x.on) ∧ u.cell? ⟨N, 4, none⟩ = some (.int .i64 x.sp) ∧ u.cell? ⟨N, 5, none⟩ = some (.int .i64 x.tk)) (by kernel_rfl) ⟨p0, p1, p2, p3, p4, p5⟩ (fun hHeld => ?_)
 refine tK 0 ?_ rfl (by kernel_rfl) (by rfl) ?_ (by assumption) (fun _ _ _ h => h) ?_
 case refine_2 => (intro w hSw; (try dsimp only at hSw); go_simp; try with_reducible rfl)
 simp only [Act.put, List.getElem_toArray, List.getElem_cons_zero, List.setIfInBounds_toArray, List.set_cons_zero, List.set_cons_succ]
 refine tR 1 ?_
 refine tR 2 ?_
 refine tW 3 (fun K hK => ?_)
 go_simp
 refine (l5Who_any a len cap c A x _ hS0.cur HNi.out HWf.out HAp.out (by omega) (by omega)).mono ?_
 rintro e w4 ⟨z, rfl, hz, hd4⟩
 go_wp2_with fail
 have hX4 := (HX3.out.dr hS0 hNc).dr hd4 hNc
 obtain ⟨_, n0, n1, n2, n3, n4, n5, nf⟩ := id hX4
 refine hK.out _ _ ⟨n0, n1, n2, n3, n4, n5⟩ (fun hHeld => ?_)
 clear hK K
 have hR4 := (HR3.out.dr hS0 HRc.out.1).dr hd4 HRc.out.1
 obtain ⟨_, q0, q1, q2, q3, q4, q5, qf⟩ := id hR4
 have hrow4 := (HW3.out.otherN hS0.ex HAp.out).otherN hd4.ex HAp.out
 have hneR := hrow4.neN HRc.out.2.2
 have HO := hidOf ((hrow4.otherN (grown6 w4 w.heap.size A x) hneR).mono (B' := w.heap.size) (Nat.le_of_lt HRc.out.2.2))
 have hb4 : Below w.heap.size w w4 := (HB3.out.trans (hS0.ex.below (Nat.le_of_lt HRc.out.2.1) HB3.out.size)).trans (hd4.ex.below (Nat.le_of_lt HRc.out.2.1) (Nat.le_trans HB3.out.size hS0.ex.size))
 have HB4 := hidOf (bl_set6' hb4 w.heap.size (Nat.le_refl _) (.bool x.pm) (.slice A.a A.n A.c) (.slice A.a' A.n' A.c') (.int .i64 x.on) (.int .i64 x.sp) (.int .i64 x.tk))
 have hX5 := hX4.grown (grown6 w4 w.heap.size A x) (by omega)
 obtain ⟨_, t0, t1, t2, t3, t4, t5, tf⟩ := id hX5
 refine tW 4 (fun K hK => ?_)
 go_simp
 refine hK.out _ _ ⟨t0, t1, t2, t3, t4, t5⟩ (fun hHeld => ?_)
 clear hK K
 refine tR 5 ?_
 refine wpAnyH_done (by kernel_rfl) ?_ _
 refine NoPanic.normal ?_
 clear hHeld hX4 hX5 hR4 hrow4 hneR hb4 t0 t1 t2 t3 t4 t5 tf n0 n1 n2 n3 n4 n5 nf p0 p1 p2 p3 p4 p5 pf
 go_wp2
 exact bodyPost_ret (v := .tuple #[.agg #[.bool x.pm, .slice A.a A.n A.c, .slice A.a' A.n' A.c', .int .i64 x.on, .int .i64 x.sp, .int .i64 x.tk], .int .i64 z]) (by simp [results, Try.results27, go_sem, q0, q1, q2, q3, q4, q5]) rfl ⟨A, x, z, rfl, HO.out, HLe.out, hz, HB4.out⟩
end Go.Proofs.Ytfgknbflgmblmaa
