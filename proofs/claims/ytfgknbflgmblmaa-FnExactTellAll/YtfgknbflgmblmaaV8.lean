/-
  The program's notifications: a telling of all.
-/
import Derived.Test.YtfgknbflgmblmaaV7
import Derived.Test.YtfgknbflgmblmaaNM2
import Derived.Deep.RegionHeld3
namespace Go.Proofs.Ytfgknbflgmblmaa
open Go.RowKit Go.Maps Pl Il

theorem apart_of_far {N : Nat} {A : Na} {a : Option Addr} {m : Nat} (h : FarL N A a m) : Apart3 A.a A.n A.a' A.n' a m := by
  refine h.imp id fun h b off e => ?_
  obtain ⟨_, h1, h2⟩ := h b off e
  exact ⟨h1, .inr fun b' off' e' hbb => h2 (by rw [e', hbb]; rfl)⟩
theorem ownv6 {B N m : Nat} {w : World} {a : Option Addr} {l : List Int} (h : Il.OwnAt B w a m l) (hN : N < B) (y0 y1 y2 y3 y4 y5 : Value) :
    Il.OwnAt B ((((((w.setCell ⟨N, 0, none⟩ y0).setCell ⟨N, 1, none⟩ y1).setCell ⟨N, 2, none⟩ y2).setCell ⟨N, 3, none⟩ y3).setCell ⟨N, 4, none⟩ y4).setCell ⟨N, 5, none⟩ y5) a m l :=
  (((((h.far N 0 hN y0).far N 1 hN y1).far N 2 hN y2).far N 3 hN y3).far N 4 hN y4).far N 5 hN y5
set_option maxRecDepth 100000 in
set_option maxHeartbeats 2000000 in
theorem implTellAll_any (A : Na) (x : Nt) (w : World) (hI : NIn w A x) (hn : A.n ≤ 2097152) (hn' : A.n' ≤ 2097152) (hw : NWf x) :
    Calls Try.prog 15 #[.agg #[.bool x.pm, .slice A.a A.n A.c, .slice A.a' A.n' A.c', .int .i64 x.on, .int .i64 x.sp, .int .i64 x.tk]] w fun e w' => NOutT w (tellAllM x).1 (tellAllM x).2.1 (tellAllM x).2.2 e w' := by
  have hC := nctx_new hI
  have s1 : ((w.alloc (.cells #[.bool x.pm, .slice A.a A.n A.c, .slice A.a' A.n' A.c', .int .i64 x.on, .int .i64 x.sp, .int .i64 x.tk] 27)).alloc (.cells #[.bool false, .slice none 0 0, .slice none 0 0, .int .i64 0, .int .i64 0, .int .i64 0] 27)).heap.size = w.heap.size + 2 := by simp
  have HL1 := hidOf hI.ints.len
  have HL2 := hidOf hI.grs.len
  have HCp := hidOf (copiedNotify_any A x _ hC.ninX hn hn')
  have HC := hidOf hC
  have S1 := hidOf s1
  clear hC s1 hI
  go_enter Try.func15, Try.ntmps15
  go_wp2_with fail
  refine (HCp.out).mono ?_
  rintro e w1 ⟨a1, c1, a2, c2, rfl, hR, hb1⟩
  rw [S1.out] at hR
  have hC1 := HC.out.kp hb1
  have hS := nst_new hR hC1.sz
  generalize hW2 : w1.alloc (.cells #[.bool x.pm, .slice a1 A.n c1, .slice a2 A.n' c2, .int .i64 x.on, .int .i64 x.sp, .int .i64 x.tk] 27) = W2
  have hb2 : Below w1.heap.size w1 W2 := by subst hW2; exact bl_alloc (Below.refl _ _) _
  simp only at hS
  rw [hW2] at hS
  have hC2 := hC1.kp hb2
  obtain ⟨_, p0, p1, p2, p3, p4, p5, _⟩ := id hC2.box0
  have HS := hidOf hS
  have HC2 := hidOf hC2
  clear hR hb1 hC1 hb2 hC2 hS HC HCp
  go_wp2_with fail
  refine (implNotifyOk_any A x _ HC2.out.ninX hn hn' hw).mono ?_
  rintro e w3 ⟨rfl, hb3⟩
  have hC := HC2.out.kp hb3
  have hS := HS.out.keep hb3
  clear p0 p1 p2 p3 p4 p5 hW2 hb3 HS HC2
  obtain ⟨A1, hA1⟩ : ∃ A1 : Na, A1 = ⟨a1, A.n, c1, a2, A.n', c2⟩ := ⟨_, rfl⟩
  rw [← hA1] at hS
  have hAn : A1.n = A.n ∧ A1.n' = A.n' := by rw [hA1]; exact ⟨rfl, rfl⟩
  have HAn := hidOf hAn
  clear hA1 hAn
  generalize hN : w1.heap.size = N at *
  clear hN
  obtain ⟨_, p0, p1, p2, p3, p4, p5, _⟩ := id hC.box0
  have HC := hidOf hC
  have HS := hidOf hS
  clear hC hS
  cases hok : okN x
  · clear p0 p1 p2 p3 p4 p5
    obtain ⟨_, z0, z1, z2, z3, z4, z5, _⟩ := id (HS.out).box
    obtain ⟨_, r0, r1, r2, r3, r4, r5, rf⟩ := id (HC.out).box1
    have HF := hidOf (nst_fin (HC.out) (HS.out))
    have HR := hidOf (show tellAllM x = (x, [], 1) by unfold tellAllM; rw [if_pos hok])
    clear hok HC HS
    go_wp2
    refine bodyPost_ret (v := .tuple #[.agg #[.bool x.pm, .slice A1.a A1.n A1.c, .slice A1.a' A1.n' A1.c', .int .i64 x.on, .int .i64 x.sp, .int .i64 x.tk], .slice none 0 0, .int .i64 1]) (by simp [results, Try.results15, go_sem, r0, r1, r2, r3, r4, r5]) rfl ?_
    rw [HR.out]
    exact ⟨A1, none, 0, 0, rfl, HF.out.1, HF.out.2.1, ⟨⟨rfl, .inl rfl⟩, .inl rfl⟩, .inl rfl, HF.out.2.2⟩
  · obtain ⟨k1, kg, k3, k4, k5, k6, k7, k8⟩ := okN_parts hok
    have HK8 := hidOf k8
    clear k8
    rw [HL1.out] at k3
    rw [HL2.out] at k4
    have HOK := hidOf hok
    have HK1 := hidOf k1
    have HKg := hidOf (nodup_line kg)
    clear hok k1 kg
    by_cases h4 : 32 < x.ln.length + x.gs.length
    · have h5 : (32 : Int) < (A.n : Int) + (A.n' : Int) := by have := HL1.out; have := HL2.out; omega
      obtain ⟨_, z0, z1, z2, z3, z4, z5, _⟩ := id (HS.out).box
      obtain ⟨_, r0, r1, r2, r3, r4, r5, rf⟩ := id (HC.out).box1
      have HF := hidOf (nst_fin (HC.out) (HS.out))
      have HR := hidOf (show tellAllM x = (x, [], 2) by
        unfold tellAllM
        rw [if_neg (by rw [HOK.out]; simp), if_pos h4])
      clear HC HS h4
      go_wp2
      refine bodyPost_ret (v := .tuple #[.agg #[.bool x.pm, .slice A1.a A1.n A1.c, .slice A1.a' A1.n' A1.c', .int .i64 x.on, .int .i64 x.sp, .int .i64 x.tk], .slice none 0 0, .int .i64 2]) (by simp [results, Try.results15, go_sem, r0, r1, r2, r3, r4, r5]) rfl ?_
      rw [HR.out]
      exact ⟨A1, none, 0, 0, rfl, HF.out.1, HF.out.2.1, ⟨⟨rfl, .inl rfl⟩, .inl rfl⟩, .inl rfl, HF.out.2.2⟩
    · have h5 : ¬ (32 : Int) < (A.n : Int) + (A.n' : Int) := by have := HL1.out; have := HL2.out; omega
      have h5' : decide ((32 : Int) < (A.n : Int) + (A.n' : Int)) = false := by simp; omega
      have hres : tellAllM x = (allM x, x.ln, 0) := by
        unfold tellAllM
        rw [if_neg (by rw [HOK.out]; simp), if_neg h4]
      have HRes := hidOf hres
      clear hres h4
      go_wp2_with fail
      refine (grantFirst_any _ N A1 x (A.n : Int) false _ HS.out (by have := HAn.out; omega) (by have := HAn.out; omega) hw.ln).mono ?_
      rintro e w4 ⟨A4, al, ml, cl, rfl, hS4, hO4, hF4, hb4⟩
      have hln : (A.n : Int) = (x.ln.length : Int) := by rw [HL1.out]
      rw [hln, (wake_whole HK1.out).1, (wake_whole HK1.out).2] at hS4
      rw [hln, (wake_whole HK1.out).2] at hO4
      have hC4 := HC.out.keep hb4 (Nat.le_refl _)
      have HO := hidOf ((ownv6 hO4 (N := w.heap.size + 1) (by omega) (.bool x.pm) (.slice A4.a A4.n A4.c) (.slice A4.a' A4.n' A4.c') (.int .i64 x.on) (.int .i64 x.sp) (.int .i64 x.tk)).mono (B' := w.heap.size) (by omega))
      have HA := hidOf (apart_of_far hF4)
      obtain ⟨_, z0, z1, z2, z3, z4, z5, _⟩ := id (hS4).box
      obtain ⟨_, r0, r1, r2, r3, r4, r5, rf⟩ := id (hC4).box1
      have HF := hidOf (nst_fin (hC4) (hS4))
      have HR := hidOf (HRes.out)
      clear HS HC HRes hS4 hC4 hb4 hO4 hF4 hln p0 p1 p2 p3 p4 p5
      go_wp2
      refine bodyPost_ret (v := .tuple #[.agg #[.bool x.pm, .slice A4.a A4.n A4.c, .slice A4.a' A4.n' A4.c', .int .i64 x.on, .int .i64 x.sp, .int .i64 x.tk], .slice al ml cl, .int .i64 0]) (by simp [results, Try.results15, go_sem, r0, r1, r2, r3, r4, r5]) rfl ?_
      rw [HR.out]
      exact ⟨A4, al, ml, cl, rfl, HF.out.1, HF.out.2.1, HO.out, HA.out, HF.out.2.2⟩
end Go.Proofs.Ytfgknbflgmblmaa
