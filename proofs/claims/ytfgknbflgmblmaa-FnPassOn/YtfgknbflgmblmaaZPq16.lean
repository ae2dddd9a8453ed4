/-
  Two notifications that read the same are told to be the same
-/
import Derived.Test.YtfgknbflgmblmaaZPq13
namespace Go.Proofs.Ytfgknbflgmblmaa
open Go.RowKit Pl Il
theorem cellN {w w' : World} {p : Addr} {x : Value} (h : w.cell? p = some x) (hb : Below w.heap.size w w') : w'.cell? p = some x := by
  rw [hb.cell (World.block_lt_of_cell? w _ h)]; exact h
theorem twoNote (w : World) (A B : Na) (x : Nt) : NBox w.heap.size A x ((w.alloc (.cells #[.bool x.pm, .slice A.a A.n A.c, .slice A.a' A.n' A.c', .int .i64 x.on, .int .i64 x.sp, .int .i64 x.tk] 27)).alloc (.cells #[.bool x.pm, .slice B.a B.n B.c, .slice B.a' B.n' B.c', .int .i64 x.on, .int .i64 x.sp, .int .i64 x.tk] 27)).drew ∧ NBox (w.heap.size + 1) B x ((w.alloc (.cells #[.bool x.pm, .slice A.a A.n A.c, .slice A.a' A.n' A.c', .int .i64 x.on, .int .i64 x.sp, .int .i64 x.tk] 27)).alloc (.cells #[.bool x.pm, .slice B.a B.n B.c, .slice B.a' B.n' B.c', .int .i64 x.on, .int .i64 x.sp, .int .i64 x.tk] 27)).drew ∧ Below w.heap.size w ((w.alloc (.cells #[.bool x.pm, .slice A.a A.n A.c, .slice A.a' A.n' A.c', .int .i64 x.on, .int .i64 x.sp, .int .i64 x.tk] 27)).alloc (.cells #[.bool x.pm, .slice B.a B.n B.c, .slice B.a' B.n' B.c', .int .i64 x.on, .int .i64 x.sp, .int .i64 x.tk] 27)).drew := by
  have h := (NBox.new (w.alloc (.cells #[.bool x.pm, .slice A.a A.n A.c, .slice A.a' A.n' A.c', .int .i64 x.on, .int .i64 x.sp, .int .i64 x.tk] 27)) B x 27).keep (Below.refl _ _).drew
  have e : (w.alloc (.cells #[.bool x.pm, .slice A.a A.n A.c, .slice A.a' A.n' A.c', .int .i64 x.on, .int .i64 x.sp, .int .i64 x.tk] 27)).heap.size = w.heap.size + 1 := by simp
  rw [e] at h
  exact ⟨((NBox.new w A x _).alloc _).keep (Below.refl _ _).drew, h, (bl_alloc (bl_alloc (Below.refl _ _) _) _).drew⟩
theorem eqLN_self (xs : List Int) : eqL xs xs = true := by simp [eqL]
set_option maxRecDepth 100000 in
set_option maxHeartbeats 8000000 in
theorem l15Notes_same (g1 g2 : Nat) (A B : Na) (x : Nt) (w : World) (hX : NBox g1 A x w) (hY : NBox g2 B x w) (hI : NIn w A x) (hJ : NIn w B x) (h1 : A.n ≤ 2097152) (h2 : A.n' ≤ 2097152) (h3 : B.n ≤ 2097152) (h4 : B.n' = A.n') :
  Calls Try.prog 61 #[.slice (some ⟨g1, 0, none⟩) 1 1, .slice (some ⟨g2, 0, none⟩) 1 1] w fun e w' => e = .returned (.bool true) ∧ Below w.heap.size w w' := by
 obtain ⟨Ba, Bn, Bc, Ba', Bn', Bc'⟩ := B
 simp only at h3 h4
 subst h4
 have HX := hidOf hX
 have HY := hidOf hY
 have HI := hidOf hI
 have HJ := hidOf hJ
 clear hX hY hI hJ
 go_enter Try.func61, Try.ntmps61
 go_wp2_with fail
 go_loopw [5] (fun i wr => ∃ k : Nat, k ≤ 1 ∧ i = .int .i64 (k : Int) ∧ Below w.heap.size w wr) (fun i _ => 1 - (intOf i).toNat)
 case atStart => exact ⟨0, by omega, rfl, Below.refl _ _⟩
 case round =>
  rename World => wr
  obtain ⟨k, hk, rfl, hB⟩ := hrel
  rcases Nat.lt_or_ge k 1 with hlt | hge
  ·obtain rfl : k = 0 := by omega
   obtain ⟨_, l0, l1, l2, l3, l4, l5, lf⟩ := id (HX.out.keep hB)
   obtain ⟨_, r0, r1, r2, r3, r4, r5, rf⟩ := id (HY.out.keep hB)
   simp only at r0 r1 r2 r3 r4 r5
   have l0a : ∀ o o', ((wr.alloc o).alloc o').cell? _ = some _ := fun o o' => cellN (cellN l0 (bl_alloc (Below.refl _ _) o)) (bl_alloc (Below.refl _ _) o')
   have l0b : ∀ o, (wr.alloc o).cell? _ = some _ := fun o => cellN l0 (bl_alloc (Below.refl _ _) o)
   have l1a : ∀ o o', ((wr.alloc o).alloc o').cell? _ = some _ := fun o o' => cellN (cellN l1 (bl_alloc (Below.refl _ _) o)) (bl_alloc (Below.refl _ _) o')
   have l1b : ∀ o, (wr.alloc o).cell? _ = some _ := fun o => cellN l1 (bl_alloc (Below.refl _ _) o)
   have l2a : ∀ o o', ((wr.alloc o).alloc o').cell? _ = some _ := fun o o' => cellN (cellN l2 (bl_alloc (Below.refl _ _) o)) (bl_alloc (Below.refl _ _) o')
   have l2b : ∀ o, (wr.alloc o).cell? _ = some _ := fun o => cellN l2 (bl_alloc (Below.refl _ _) o)
   have l3a : ∀ o o', ((wr.alloc o).alloc o').cell? _ = some _ := fun o o' => cellN (cellN l3 (bl_alloc (Below.refl _ _) o)) (bl_alloc (Below.refl _ _) o')
   have l3b : ∀ o, (wr.alloc o).cell? _ = some _ := fun o => cellN l3 (bl_alloc (Below.refl _ _) o)
   have l4a : ∀ o o', ((wr.alloc o).alloc o').cell? _ = some _ := fun o o' => cellN (cellN l4 (bl_alloc (Below.refl _ _) o)) (bl_alloc (Below.refl _ _) o')
   have l4b : ∀ o, (wr.alloc o).cell? _ = some _ := fun o => cellN l4 (bl_alloc (Below.refl _ _) o)
   have l5a : ∀ o o', ((wr.alloc o).alloc o').cell? _ = some _ := fun o o' => cellN (cellN l5 (bl_alloc (Below.refl _ _) o)) (bl_alloc (Below.refl _ _) o')
   have l5b : ∀ o, (wr.alloc o).cell? _ = some _ := fun o => cellN l5 (bl_alloc (Below.refl _ _) o)
   have r0a : ∀ o o', ((wr.alloc o).alloc o').cell? _ = some _ := fun o o' => cellN (cellN r0 (bl_alloc (Below.refl _ _) o)) (bl_alloc (Below.refl _ _) o')
   have r0b : ∀ o, (wr.alloc o).cell? _ = some _ := fun o => cellN r0 (bl_alloc (Below.refl _ _) o)
   have r1a : ∀ o o', ((wr.alloc o).alloc o').cell? _ = some _ := fun o o' => cellN (cellN r1 (bl_alloc (Below.refl _ _) o)) (bl_alloc (Below.refl _ _) o')
   have r1b : ∀ o, (wr.alloc o).cell? _ = some _ := fun o => cellN r1 (bl_alloc (Below.refl _ _) o)
   have r2a : ∀ o o', ((wr.alloc o).alloc o').cell? _ = some _ := fun o o' => cellN (cellN r2 (bl_alloc (Below.refl _ _) o)) (bl_alloc (Below.refl _ _) o')
   have r2b : ∀ o, (wr.alloc o).cell? _ = some _ := fun o => cellN r2 (bl_alloc (Below.refl _ _) o)
   have r3a : ∀ o o', ((wr.alloc o).alloc o').cell? _ = some _ := fun o o' => cellN (cellN r3 (bl_alloc (Below.refl _ _) o)) (bl_alloc (Below.refl _ _) o')
   have r3b : ∀ o, (wr.alloc o).cell? _ = some _ := fun o => cellN r3 (bl_alloc (Below.refl _ _) o)
   have r4a : ∀ o o', ((wr.alloc o).alloc o').cell? _ = some _ := fun o o' => cellN (cellN r4 (bl_alloc (Below.refl _ _) o)) (bl_alloc (Below.refl _ _) o')
   have r4b : ∀ o, (wr.alloc o).cell? _ = some _ := fun o => cellN r4 (bl_alloc (Below.refl _ _) o)
   have r5a : ∀ o o', ((wr.alloc o).alloc o').cell? _ = some _ := fun o o' => cellN (cellN r5 (bl_alloc (Below.refl _ _) o)) (bl_alloc (Below.refl _ _) o')
   have r5b : ∀ o, (wr.alloc o).cell? _ = some _ := fun o => cellN r5 (bl_alloc (Below.refl _ _) o)
   have HIr := hidOf (HI.out.keep hB)
   have HJr := hidOf (HJ.out.keep hB)
   have HBr := hidOf hB
   clear hB hk hlt
   go_upto_region 6 with fail
   go_cut [6, 7] from 14 to 88 (fun s6 s7 wz => ∃ P Q : Nat, s6 = .pointer (some ⟨P, 0, none⟩) ∧ s7 = .pointer (some ⟨Q, 0, none⟩) ∧ NBox P A x wz ∧ NBox Q ⟨Ba, Bn, Bc, Ba', A.n', Bc'⟩ x wz ∧ Below wr.heap.size wr wz)
   case first =>
    go_big_region
    ·go_wp2_with fail
     go_meet
     obtain ⟨k1, k2, k3⟩ := twoNote wr A ⟨Ba, Bn, Bc, Ba', A.n', Bc'⟩ x
     exact ⟨_, _, rfl, rfl, k1, k2, k3⟩
    ·go_wp2_with fail
     go_meet
     obtain ⟨k1, k2, k3⟩ := twoNote wr ⟨Ba, Bn, Bc, Ba', A.n', Bc'⟩ A x
     exact ⟨_, _, rfl, rfl, k2, k1, k3⟩
   case rest =>
    rename World => wz
    obtain ⟨P, Q, rfl, rfl, hP, hQ, hBz⟩ := hcut
    clear l0 l1 l2 l3 l4 l5 r0 r1 r2 r3 r4 r5 l0a l1a l2a l3a l4a l5a r0a r1a r2a r3a r4a r5a l0b l1b l2b l3b l4b l5b r0b r1b r2b r3b r4b r5b lf rf
    obtain ⟨_, l0, l1, l2, l3, l4, l5, lf⟩ := id hP
    obtain ⟨_, r0, r1, r2, r3, r4, r5, rf⟩ := id hQ
    simp only at r0 r1 r2 r3 r4 r5
    have HP := hidOf hP
    have HQ := hidOf hQ
    have HIz := hidOf (HIr.out.keep hBz)
    have HJz := hidOf (HJr.out.keep hBz)
    have HBz := hidOf (bl_trans HBr.out hBz)
    have e0 : (x.pm != x.pm) = false := by simp
    clear hP hQ hBz HIr HJr HBr
    go_wp2_with fail
    refine (l15Ints_any A.a Ba A.n Bn A.c Bc x.ln x.ln _ HIz.out.ints HJz.out.ints h1 h3).mono ?_
    rintro e w5 ⟨rfl, hb5⟩
    rw [eqLN_self]
    clear l0 l1 l2 l3 l4 l5 lf r0 r1 r2 r3 r4 r5 rf e0
    obtain ⟨_, l0, l1, l2, l3, l4, l5, lf⟩ := id (HP.out.keep hb5)
    obtain ⟨_, r0, r1, r2, r3, r4, r5, rf⟩ := id (HQ.out.keep hb5)
    simp only at r0 r1 r2 r3 r4 r5
    have HP5 := hidOf (HP.out.keep hb5)
    have HQ5 := hidOf (HQ.out.keep hb5)
    have HI5 := hidOf (HIz.out.keep hb5)
    have HJ5 := hidOf (HJz.out.keep hb5)
    have HB5 := hidOf (bl_trans HBz.out hb5)
    have e1 : (x.on != x.on) = false := by simp
    have e2 : (x.sp != x.sp) = false := by simp
    have e3 : (x.tk != x.tk) = false := by simp
    have e4 : ((A.n' : Int) != (A.n' : Int)) = false := by simp
    clear hb5 HP HQ HIz HJz HBz
    go_wp2_with fail
    go_loopw [8] (fun i wx => ∃ k : Nat, k ≤ A.n' ∧ i = .int .i64 (k : Int) ∧ Below w5.heap.size w5 wx) (fun i _ => A.n' - (intOf i).toNat)
    case atStart => exact ⟨0, Nat.zero_le _, rfl, Below.refl _ _⟩
    case round =>
     rename World => wx
     obtain ⟨k, hk, rfl, hB⟩ := hrel
     clear l0 l1 l2 l3 l4 l5 lf r0 r1 r2 r3 r4 r5 rf e1 e2 e3 e4
     obtain ⟨_, l0, l1, l2, l3, l4, l5, lf⟩ := id (HP5.out.keep hB)
     obtain ⟨_, r0, r1, r2, r3, r4, r5, rf⟩ := id (HQ5.out.keep hB)
     simp only at r0 r1 r2 r3 r4 r5
     by_cases hlt : k < A.n'
     ·have hki : (0 : Int) ≤ (k : Int) ∧ (k : Int) < (A.n' : Int) := by omega
      obtain ⟨_, hr | ⟨b, off, e1, hb, hcell⟩⟩ := HI5.out.grs
      ·omega
      obtain ⟨_, hr' | ⟨b', off', e2, hb', hcell'⟩⟩ := HJ5.out.grs
      ·simp only at hr'; omega
      simp only at e2
      subst e2
      rw [e1] at l2
      obtain ⟨c0, c1⟩ := hcell k hlt
      obtain ⟨d0, d1⟩ := hcell' k hlt
      obtain ⟨⟨y1, yb⟩, hy⟩ : ∃ y, gg x.gs k = y := ⟨_, rfl⟩
      rw [hy] at c0 c1 d0 d1
      simp only at c0 c1 d0 d1
      have c0 := cellN c0 hB
      have c1 := cellN c1 hB
      have d0 := cellN d0 hB
      have d1 := cellN d1 hB
      have HBx := hidOf hB
      have hq := fun w => neqG y1 y1 yb yb false (by simp) w
      clear hcell hcell' hy hB e1 hb hb'
      go_wp2_with fail
      go_quiet (fail)
      go_wp2_with fail
      go_roundw
      case rel => exact ⟨k + 1, hlt, by go_num, bl_drewN HBx.out _⟩
      case measure => simp [intOf]; omega
     ·have hki : ¬ (k : Int) < (A.n' : Int) := by omega
      have HBx := hidOf (bl_trans HB5.out hB)
      clear hB
      go_wp2_with fail
      go_roundw
      case rel => exact ⟨1, by omega, rfl, HBx.out⟩
      case measure => simp [intOf]
  ·obtain rfl : k = 1 := by omega
   have HBr := hidOf hB
   clear hB
   go_wp2_with fail
   go_ret
   exact ⟨rfl, HBr.out⟩
set_option maxRecDepth 100000 in
set_option maxHeartbeats 4000000 in
theorem noteSame_any (A B : Na) (x : Nt) (w : World) (hI : NIn w A x) (hJ : NIn w B x) (h1 : A.n ≤ 2097152) (h2 : A.n' ≤ 2097152) (h3 : B.n ≤ 2097152) :
  Calls Try.prog 28 #[.agg #[.bool x.pm, .slice A.a A.n A.c, .slice A.a' A.n' A.c', .int .i64 x.on, .int .i64 x.sp, .int .i64 x.tk], .agg #[.bool x.pm, .slice B.a B.n B.c, .slice B.a' B.n' B.c', .int .i64 x.on, .int .i64 x.sp, .int .i64 x.tk]] w fun e w' => e = .returned (.bool true) ∧ Below w.heap.size w w' := by
 have h4 : B.n' = A.n' := by have k1 := hI.grs.len; have k2 := hJ.grs.len; omega
 obtain ⟨W0, hW0⟩ : ∃ W, W = (w.alloc (.cells #[.bool x.pm, .slice A.a A.n A.c, .slice A.a' A.n' A.c', .int .i64 x.on, .int .i64 x.sp, .int .i64 x.tk] 27)).alloc (.cells #[.bool x.pm, .slice B.a B.n B.c, .slice B.a' B.n' B.c', .int .i64 x.on, .int .i64 x.sp, .int .i64 x.tk] 27) := ⟨_, rfl⟩
 have b0 : Below w.heap.size w W0 := by rw [hW0]; exact bl_alloc (bl_alloc (Below.refl _ _) _) _
 have x0 : NBox w.heap.size A x W0 := by rw [hW0]; exact (NBox.new w A x _).alloc _
 have y0 : NBox (w.heap.size + 1) B x W0 := by
  rw [hW0]
  have h := NBox.new (w.alloc (.cells #[.bool x.pm, .slice A.a A.n A.c, .slice A.a' A.n' A.c', .int .i64 x.on, .int .i64 x.sp, .int .i64 x.tk] 27)) B x 27
  simpa using h
 have hba : Below W0.heap.size W0 (W0.alloc (.cells #[.bool x.pm, .slice A.a A.n A.c, .slice A.a' A.n' A.c', .int .i64 x.on, .int .i64 x.sp, .int .i64 x.tk] 27)) := bl_alloc (Below.refl _ _) _
 have hbb : Below W0.heap.size W0 ((W0.alloc (.cells #[.bool x.pm, .slice A.a A.n A.c, .slice A.a' A.n' A.c', .int .i64 x.on, .int .i64 x.sp, .int .i64 x.tk] 27)).alloc (.cells #[.bool x.pm, .slice B.a B.n B.c, .slice B.a' B.n' B.c', .int .i64 x.on, .int .i64 x.sp, .int .i64 x.tk] 27)) := bl_alloc hba _
 have hX : NBox W0.heap.size A x ((W0.alloc (.cells #[.bool x.pm, .slice A.a A.n A.c, .slice A.a' A.n' A.c', .int .i64 x.on, .int .i64 x.sp, .int .i64 x.tk] 27)).alloc (.cells #[.bool x.pm, .slice B.a B.n B.c, .slice B.a' B.n' B.c', .int .i64 x.on, .int .i64 x.sp, .int .i64 x.tk] 27)) := (NBox.new W0 A x _).alloc _
 have hY : NBox (W0.heap.size + 1) B x ((W0.alloc (.cells #[.bool x.pm, .slice A.a A.n A.c, .slice A.a' A.n' A.c', .int .i64 x.on, .int .i64 x.sp, .int .i64 x.tk] 27)).alloc (.cells #[.bool x.pm, .slice B.a B.n B.c, .slice B.a' B.n' B.c', .int .i64 x.on, .int .i64 x.sp, .int .i64 x.tk] 27)) := by
  have h := NBox.new (W0.alloc (.cells #[.bool x.pm, .slice A.a A.n A.c, .slice A.a' A.n' A.c', .int .i64 x.on, .int .i64 x.sp, .int .i64 x.tk] 27)) B x 27
  simpa using h
 have HC := hidOf (l15Notes_same W0.heap.size (W0.heap.size + 1) A B x _ hX hY ((hI.keep b0).keep hbb) ((hJ.keep b0).keep hbb) h1 h2 h3 h4)
 have HB := hidOf (bl_trans b0 hbb)
 obtain ⟨_, p0, p1, p2, p3, p4, p5, pf⟩ := id x0
 obtain ⟨_, q0, q1, q2, q3, q4, q5, qf⟩ := id y0
 have q0a : ∀ o, (W0.alloc o).cell? _ = some _ := fun o => cellN q0 (bl_alloc (Below.refl _ _) o)
 have q1a : ∀ o, (W0.alloc o).cell? _ = some _ := fun o => cellN q1 (bl_alloc (Below.refl _ _) o)
 have q2a : ∀ o, (W0.alloc o).cell? _ = some _ := fun o => cellN q2 (bl_alloc (Below.refl _ _) o)
 have q3a : ∀ o, (W0.alloc o).cell? _ = some _ := fun o => cellN q3 (bl_alloc (Below.refl _ _) o)
 have q4a : ∀ o, (W0.alloc o).cell? _ = some _ := fun o => cellN q4 (bl_alloc (Below.refl _ _) o)
 have q5a : ∀ o, (W0.alloc o).cell? _ = some _ := fun o => cellN q5 (bl_alloc (Below.refl _ _) o)
 clear hI hJ b0 x0 y0 hba hbb hX hY h4
 go_enter Try.func28, Try.ntmps28
 go_upto_region 1 with fail
 try rw [← hW0]
 clear hW0
 go_wp2_with fail
 refine (HC.out).mono ?_
 rintro e w3 ⟨rfl, hb3⟩
 have HF := hidOf (bl_trans HB.out hb3)
 clear hb3
 go_wp2_with fail
 go_ret
 exact ⟨rfl, HF.out⟩
end Go.Proofs.Ytfgknbflgmblmaa
