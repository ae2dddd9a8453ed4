/-
  The specification's draws: a notification that some have come to
-/
import Derived.Test.YtfgknbflgmblmaaZPq9
import Derived.Test.YtfgknbflgmblmaaZPq11
namespace Go.Proofs.Ytfgknbflgmblmaa
open Go.RowKit Pl Il Dr
theorem lenN_small {B : Nat} {w : World} {A : Na} {x : Nt} (h : NOwn B w A x) {k : Nat} (hk : lenN x ≤ k) : A.n ≤ k ∧ A.n' ≤ k := by
  have h1 := h.one.ints.len
  have h2 := h.two.gr.len
  have h3 := lenN_ge x
  omega
theorem note_box (w : World) : NBox w.heap.size Na.zero Nt.zero (w.alloc (.cells #[.bool false, .slice none 0 0, .slice none 0 0, .int .i64 0, .int .i64 0, .int .i64 0] 27)) := NBox.newZ w _
theorem NKS.nin {c : Nat} {a : Option Addr} {len cap : Nat} {w : World} {N R : Nat} {A : Na} {x : Nt} {u : World} (h : NKS c a len cap w N R A x u) : NIn u A x := h.kv.own.own.nin
theorem zeroA (N : Nat) : apartN Na.zero N := ⟨fun e => by simp [Na.zero, Value.ownBlock] at e, fun e => by simp [Na.zero, Value.ownBlock] at e⟩
theorem zeroU (N : Nat) : underN Na.zero N := ⟨fun q e => by simp [Na.zero, Value.ownBlock] at e, fun q e => by simp [Na.zero, Value.ownBlock] at e⟩
/-- A notification was drawn. -/
def NoteD (c : Nat) (a : Option Addr) (len cap K : Nat) (w : World) (e : Ending) (w' : World) : Prop := ∃ (A : Na) (x : Nt), e = .returned (.agg #[.bool x.pm, .slice A.a A.n A.c, .slice A.a' A.n' A.c', .int .i64 x.on, .int .i64 x.sp, .int .i64 x.tk]) ∧ NRow w.heap.size w' A x ∧ A.n ≤ A.c ∧ lenN x ≤ K ∧ Drawn c a len cap w w'
set_option maxRecDepth 100000 in
set_option maxHeartbeats 8000000 in
theorem l5Notify_any (a : Option Addr) (len cap : Nat) (c most : Nat) (w : World) (hC : Cur c a len cap w) (hmost : most ≤ 20) :
  Calls Try.prog 83 #[.pointer (some ⟨c, 0, none⟩), .int .i64 (most : Int)] w fun e w' => NoteD c a len cap 20 w e w' := by
 have hlt := hC.lt
 obtain ⟨W0, hW0⟩ : ∃ W, W = w.alloc (.cells #[.bool false, .slice none 0 0, .slice none 0 0, .int .i64 0, .int .i64 0, .int .i64 0] 27) := ⟨_, rfl⟩
 obtain ⟨W1, hW1⟩ : ∃ W, W = W0.alloc (.cells #[.bool false, .slice none 0 0, .slice none 0 0, .int .i64 0, .int .i64 0, .int .i64 0] 27) := ⟨_, rfl⟩
 have s0 : W0.heap.size = w.heap.size + 1 := by rw [hW0]; simp
 have b0 : Below w.heap.size w W0 := by rw [hW0]; exact bl_alloc (Below.refl _ _) _
 have b1 : Below W0.heap.size W0 W1 := by rw [hW1]; exact bl_alloc (Below.refl _ _) _
 have r0 : NBox w.heap.size Na.zero Nt.zero W0 := by rw [hW0]; exact NBox.newZ w _
 have x1 : NBox (w.heap.size + 1) Na.zero Nt.zero W1 := by rw [hW1, ← s0]; exact NBox.newZ W0 _
 have hV : NKv c a len cap w (w.heap.size + 1) W1.heap.size Na.zero Nt.zero W1 :=
  ⟨drawn_keepN (drawn_keepN (Drawn.start hC) b0) b1, x1, ⟨⟨rfl, .inl ⟨rfl, rfl⟩⟩, ⟨rfl, .inl ⟨rfl, rfl⟩⟩⟩, zeroA _, zeroU _, Nat.le_refl _, by omega, hC, Nat.le_refl _, x1.lt, r0.keep b1⟩
 have HV0 := hidOf hV
 clear hV s0 b0 b1 r0 x1 hC
 go_enter Try.func83, Try.ntmps83
 go_wp2_with fail
 rw [← hW0, ← hW1]
 clear hW0 hW1
 go_loopw [6] (fun i wr => ∃ (j R : Nat) (A : Na) (x : Nt), j ≤ most ∧ i = .int .i64 j ∧ lenN x ≤ j ∧ NKv c a len cap w (w.heap.size + 1) R A x wr) (fun i _ => most - (intOf i).toNat)
 case atStart => exact ⟨0, _, _, _, Nat.zero_le _, rfl, Nat.le_of_eq lenN_zero, HV0.out⟩
 case round =>
  rename_i wr
  obtain ⟨j, R, A, x, hj, rfl, hlx, hV⟩ := hrel
  clear HV0
  have hsm := lenN_small hV.own.own hlx
  have HL := hidOf hlx
  clear hlx
  by_cases hjm : j < most
  ·have hji : (j : Int) < (most : Int) := by omega
   have HVo := hidOf hV
   clear hV
   go_wp2_with fail
   refine (below_any a len cap c _ _ HVo.out.dr.cur (by omega) (by omega)).mono ?_
   rintro e w2 ⟨q, rfl, q0, q1, hd2⟩
   have HV := hidOf (HVo.out.draw hd2).up
   clear hd2 HVo
   obtain ⟨_, p0, p1, p2, p3, p4, p5, pf⟩ := id HV.out.box
   by_cases hq0 : q = 0
   ·subst hq0
    go_wp2_with fail
    refine (specTellOne_anyR A x _ HV.out.own.own.nin (by omega) (by omega) HV.out.cap').mono ?_
    rintro e w5 ⟨A5, rfl, hO5, hc5, hb5⟩
    have hln := lenN_tellOne x
    generalize (tellOneM x).1 = y at hO5 hln ⊢
    generalize (tellOneM x).2.1 = v1
    generalize (tellOneM x).2.2 = v2
    have hX := NxN.ofAlloc (HV.out.keep hb5).s hO5 hc5 (Nat.le_refl _)
    generalize hW6 : w5.alloc (.cells #[.bool y.pm, .slice A5.a A5.n A5.c, .slice A5.a' A5.n' A5.c', .int .i64 y.on, .int .i64 y.sp, .int .i64 y.tk] 27) = W6 at hX
    obtain ⟨_, n0, n1, n2, n3, n4, n5, nf⟩ := id hX.nxt
    obtain ⟨_, o0, o1, o2, o3, o4, o5, of⟩ := id hX.box
    have HP := hidOf hX.put
    clear hX hO5 hb5 HV p0 p1 p2 p3 p4 p5 pf
    go_wp2
    go_roundw
    case rel => exact ⟨j + 1, _, _, _, by omega, by go_num, by have := HL.out; omega, HP.out⟩
    case measure => simp [intOf]; omega
   have eq0 : (q == 0) = false := by simp [hq0]
   by_cases hq1 : q = 1
   ·subst hq1
    go_wp2_with fail
    refine (once_any a len cap c _ _ HV.out.dr.cur (by omega) (by omega)).mono ?_
    rintro e w3 ⟨b, rfl, hd3⟩
    have HV3 := hidOf (HV.out.draw hd3).up
    clear hd3 HV p0 p1 p2 p3 p4 p5 pf
    cases b
    ·go_wp2
     go_roundw
     case rel => exact ⟨j + 1, _, _, _, by omega, by go_num, by have := HL.out; omega, HV3.out⟩
     case measure => simp [intOf]; omega
    ·obtain ⟨_, p0, p1, p2, p3, p4, p5, pf⟩ := id HV3.out.box
     go_wp2_with fail
     refine (specTellAll_anyR A x _ HV3.out.own.own.nin (by omega) (by omega) HV3.out.cap').mono ?_
     rintro e w5 ⟨A5, a6, m6, c6, rfl, hO5, hc5, _, _, hb5⟩
     have hln := lenN_tellAll x
     generalize (tellAllM x).1 = y at hO5 hln ⊢
     generalize (tellAllM x).2.2 = v2
     have hX := NxN.ofAlloc (HV3.out.keep hb5).s hO5 hc5 (Nat.le_refl _)
     generalize hW6 : w5.alloc (.cells #[.bool y.pm, .slice A5.a A5.n A5.c, .slice A5.a' A5.n' A5.c', .int .i64 y.on, .int .i64 y.sp, .int .i64 y.tk] 27) = W6 at hX
     obtain ⟨_, n0, n1, n2, n3, n4, n5, nf⟩ := id hX.nxt
     obtain ⟨_, o0, o1, o2, o3, o4, o5, of⟩ := id hX.box
     have HP := hidOf hX.put
     clear hX hO5 hb5 HV3 p0 p1 p2 p3 p4 p5 pf
     go_wp2
     go_roundw
     case rel => exact ⟨j + 1, _, _, _, by omega, by go_num, by have := HL.out; omega, HP.out⟩
     case measure => simp [intOf]; omega
   have eq1 : (q == 1) = false := by simp [hq1]
   by_cases hq2 : q = 2
   ·subst hq2
    by_cases hpos : A.n' = 0
    ·have e0 : ¬ (0 : Int) < (A.n' : Int) := by omega
     go_wp2
     go_roundw
     case rel => exact ⟨j + 1, _, _, _, by omega, by go_num, by have := HL.out; omega, HV.out⟩
     case measure => simp [intOf]; omega
    have hpos' : (0 : Int) < (A.n' : Int) := by omega
    go_wp2_with fail
    have hS := HV.out.s
    have hcr := hS.kv.dr.cur.lt
    obtain ⟨aa, nn, cc, aa', nn', cc'⟩ := A
    simp only at hsm hpos hS p0 p1 p2 p3 p4 p5
    obtain h0 | ⟨gb, go, hga, hgl, hgcell⟩ := hS.kv.own.own.two.gr.row
    ·simp only at h0; omega
    simp only at hga
    subst hga
    have hgc : ∀ u, NKS c a len cap w (w.heap.size + 1) w2.heap.size ⟨aa, nn, cc, some ⟨gb, go, none⟩, nn', cc'⟩ x u → ∀ zn : Nat, zn < nn' → u.cell? ⟨gb, go + zn * 2, none⟩ = some (.int .i64 (gg x.gs zn).1) := fun u hu zn hz => by
     obtain h0 | ⟨b2, o2, e2, _, hc2⟩ := hu.kv.own.own.two.gr.row
     ·simp only at h0; omega
     ·cases e2; exact (hc2 zn hz).1
    have HB := hidOf (fun (z : Int) (u : World) (z0 : 0 < z) (z1 : z ≤ 256) (hu : Cur c a len cap u) => below_any a len cap c z u hu z0 z1)
    have HST := hidOf (fun (z : Int) (u : World) (hu : NIn u ⟨aa, nn, cc, some ⟨gb, go, none⟩, nn', cc'⟩ x) => specResume_anyR ⟨aa, nn, cc, some ⟨gb, go, none⟩, nn', cc'⟩ x z u hu (by simp only; omega) (by simp only; omega) hS.kv.cap')
    have hls := HL.out
    clear HV hgcell
    go_cut [13, 14] from 21 to 104 (fun s18 _ wx => ∃ (M : Nat) (A7 : Na) (y : Nt), s18 = .pointer (some ⟨M, 0, none⟩) ∧ lenN y ≤ j + 1 ∧ NxN c a len cap w (w.heap.size + 1) M ⟨aa, nn, cc, some ⟨gb, go, none⟩, nn', cc'⟩ x A7 y wx)
    case first =>
     refine wp_region_noPanic ?_
     refine wp_region_held_drew (S := fun w' => NKS c a len cap w (w.heap.size + 1) w2.heap.size ⟨aa, nn, cc, some ⟨gb, go, none⟩, nn', cc'⟩ x w') (by kernel_rfl) hS.drew (fun hHeld => ?_)
     refine tK 0 ?_ rfl (by kernel_rfl) (by rfl) ?_ (by assumption) (fun _ _ _ h => h) ?_
     case refine_2 => (intro w hSw; (try dsimp only at hSw); go_simp; try with_reducible rfl)
     simp only [Act.put, List.getElem_toArray, List.getElem_cons_zero, List.setIfInBounds_toArray, List.set_cons_zero, List.set_cons_succ]
     refine tR 1 ?_
     refine tR 2 ?_
     refine tR 3 ?_
     refine tR 4 ?_
     refine tR 5 ?_
     refine tR 6 ?_
     refine wpAnyH_ready (rs := [7, 15]) (by kernel_rfl) (by simp) ?_
     refine AllReadyH.cons rfl (fun K hK => ?_) (AllReadyH.cons rfl (fun K hK => ?_) AllReadyH.nil)
     ·go_simp
      refine (HB.out _ _ (by omega) (by omega) hHeld.curs).mono ?_
      rintro e w5 ⟨z, rfl, z0, z1, hd5⟩
      obtain ⟨zn, rfl⟩ : ∃ zn : Nat, z = zn := ⟨z.toNat, by omega⟩
      go_wp2_with fail
      have hS1 := NKS.draw hHeld hd5
      have hz5 := hS1.kv.le
      refine hK.out _ _ hS1 (fun hHeld => ?_)
      clear hK K
      refine tR 8 ?_
      refine tR 9 ?_
      refine tK 10 ?_ rfl (by kernel_rfl) (by rfl) ?_ (by assumption) (fun _ _ _ h => h) ?_
      case refine_2 => (intro w hSw; have hcg := hgc w hSw zn (by omega); (try dsimp only at hSw); go_simp; try with_reducible rfl)
      simp only [Act.put, zGA, zG0, zGC, zSA, zS0, zSC]
      refine wpAnyH_ready (rs := [11, 15]) (by kernel_rfl) (by simp) ?_
      refine AllReadyH.cons rfl (fun K hK => ?_) (AllReadyH.cons rfl (fun K hK => ?_) AllReadyH.nil)
      ·go_simp
       refine (HST.out _ _ hHeld.nin).mono ?_
       rintro e w7 ⟨A7, rfl, ho7, hc7, hb7⟩
       have hn7 := lenN_resume x (gg x.gs zn).1
       generalize (resumeM x (gg x.gs zn).1).1 = y at ho7 hn7 ⊢
       generalize (resumeM x (gg x.gs zn).1).2 = v2
       go_wp2_with fail
       have hS2 := NKS.keep hHeld hb7
       have hz7 := hS2.kv.le
       refine hK.out _ _ hS2 (fun hHeld => ?_)
       clear hK K
       refine tR 12 ?_
       refine tR 13 ?_
       refine tR 14 ?_
       refine tW 15 (fun K hK => ?_)
       go_simp
       refine hK.out _ _ (hS2.alloc _) (fun hHeld => ?_)
       clear hK K
       refine tW 16 (fun K hK => ?_)
       go_simp
       refine hK.out _ _ (hS2.alloc _) (fun hHeld => ?_)
       clear hK K
       refine tR 17 ?_
       refine wpAnyH_done (by kernel_rfl) ?_ _
       refine NoPanic.normal ?_
       go_wp2_with fail
       go_meet
       exact ⟨_, _, _, rfl, by omega, NxN.ofAlloc hS2 ho7 hc7 (by omega)⟩
      ·go_simp
       have Z1 := note_box w5
       refine hK.out _ _ (hS1.alloc _) (fun hHeld => ?_)
       clear hK K
       refine tW 11 (fun K hK => ?_)
       go_simp
       refine (HST.out _ _ hHeld.nin).mono ?_
       rintro e w7 ⟨A7, rfl, ho7, hc7, hb7⟩
       have hn7 := lenN_resume x (gg x.gs zn).1
       generalize (resumeM x (gg x.gs zn).1).1 = y at ho7 hn7 ⊢
       generalize (resumeM x (gg x.gs zn).1).2 = v2
       go_wp2_with fail
       have hS2 := NKS.keep hHeld hb7
       have hz7 := hS2.kv.le
       have hZl := Z1.lt
       have Z2 := Z1.keep hb7
       refine hK.out _ _ hS2 (fun hHeld => ?_)
       clear hK K
       refine tR 12 ?_
       refine tR 13 ?_
       refine tR 14 ?_
       obtain ⟨kl, k0, k1, k2, k3, k4, k5, kf⟩ := id Z2
       refine tW 16 (fun K hK => ?_)
       go_simp
       refine hK.out _ _ (NKS.store6 hS2 (by omega) A7 y) (fun hHeld => ?_)
       clear hK K
       refine tR 17 ?_
       refine wpAnyH_done (by kernel_rfl) ?_ _
       refine NoPanic.normal ?_
       go_wp2_with fail
       go_meet
       exact ⟨_, _, _, rfl, by omega, NxN.ofStore hS2 Z2 (by omega) ho7 hc7 (by omega)⟩
     ·go_simp
      have Z0 := (note_box w2).keep (Below.refl _ _).drew
      refine hK.out _ _ ((hS.alloc _).drew) (fun hHeld => ?_)
      clear hK K
      refine tW 7 (fun K hK => ?_)
      go_simp
      refine (HB.out _ _ (by omega) (by omega) hHeld.curs).mono ?_
      rintro e w5 ⟨z, rfl, z0, z1, hd5⟩
      obtain ⟨zn, rfl⟩ : ∃ zn : Nat, z = zn := ⟨z.toNat, by omega⟩
      go_wp2_with fail
      have hS1 := NKS.draw hHeld hd5
      have hz5 := hS1.kv.le
      have Z1 := Z0.dr hd5 (by omega)
      refine hK.out _ _ hS1 (fun hHeld => ?_)
      clear hK K
      refine tR 8 ?_
      refine tR 9 ?_
      refine tK 10 ?_ rfl (by kernel_rfl) (by rfl) ?_ (by assumption) (fun _ _ _ h => h) ?_
      case refine_2 => (intro w hSw; have hcg := hgc w hSw zn (by omega); (try dsimp only at hSw); go_simp; try with_reducible rfl)
      simp only [Act.put, zGA, zG0, zGC, zSA, zS0, zSC]
      refine tW 11 (fun K hK => ?_)
      go_simp
      refine (HST.out _ _ hHeld.nin).mono ?_
      rintro e w7 ⟨A7, rfl, ho7, hc7, hb7⟩
      have hn7 := lenN_resume x (gg x.gs zn).1
      generalize (resumeM x (gg x.gs zn).1).1 = y at ho7 hn7 ⊢
      generalize (resumeM x (gg x.gs zn).1).2 = v2
      go_wp2_with fail
      have hS2 := NKS.keep hHeld hb7
      have hz7 := hS2.kv.le
      have hZl := Z1.lt
      have Z2 := Z1.keep hb7
      refine hK.out _ _ hS2 (fun hHeld => ?_)
      clear hK K
      refine tR 12 ?_
      refine tR 13 ?_
      refine tR 14 ?_
      obtain ⟨kl, k0, k1, k2, k3, k4, k5, kf⟩ := id Z2
      refine tW 16 (fun K hK => ?_)
      go_simp
      refine hK.out _ _ (NKS.store6 hS2 (by omega) A7 y) (fun hHeld => ?_)
      clear hK K
      refine tR 17 ?_
      refine wpAnyH_done (by kernel_rfl) ?_ _
      refine NoPanic.normal ?_
      go_wp2_with fail
      go_meet
      exact ⟨_, _, _, rfl, by omega, NxN.ofStore hS2 Z2 (by omega) ho7 hc7 (by omega)⟩
    case rest =>
     obtain ⟨M, A7, y, rfl, hn4, hX⟩ := hcut
     obtain ⟨_, n0, n1, n2, n3, n4', n5, nf⟩ := id hX.nxt
     obtain ⟨_, o0, o1, o2, o3, o4, o5, of⟩ := id hX.box
     have HP := hidOf hX.put
     have hne := hX.ne
     clear hX HB HST hS hgc p0 p1 p2 p3 p4 p5 pf
     go_wp2
     go_roundw
     case rel => exact ⟨j + 1, _, _, _, by omega, by go_num, by omega, HP.out⟩
     case measure => simp [intOf]; omega
   have eq2 : (q == 2) = false := by simp [hq2]
   by_cases hq3 : q = 3
   ·subst hq3
    by_cases hpos : A.n' = 0
    ·have e0 : ¬ (0 : Int) < (A.n' : Int) := by omega
     go_wp2
     go_roundw
     case rel => exact ⟨j + 1, _, _, _, by omega, by go_num, by have := HL.out; omega, HV.out⟩
     case measure => simp [intOf]; omega
    have hpos' : (0 : Int) < (A.n' : Int) := by omega
    go_wp2_with fail
    refine (once_any a len cap c _ _ HV.out.dr.cur (by omega) (by omega)).mono ?_
    rintro e w3 ⟨b, rfl, hd3⟩
    have HV3 := hidOf (HV.out.draw hd3).up
    clear hd3 HV p0 p1 p2 p3 p4 p5 pf
    cases b
    ·go_wp2
     go_roundw
     case rel => exact ⟨j + 1, _, _, _, by omega, by go_num, by have := HL.out; omega, HV3.out⟩
     case measure => simp [intOf]; omega
    obtain ⟨_, p0, p1, p2, p3, p4, p5, pf⟩ := id HV3.out.box
    go_wp2_with fail
    have hS := HV3.out.s
    have hcr := hS.kv.dr.cur.lt
    obtain ⟨aa, nn, cc, aa', nn', cc'⟩ := A
    simp only at hsm hpos hS p0 p1 p2 p3 p4 p5
    obtain h0 | ⟨gb, go, hga, hgl, hgcell⟩ := hS.kv.own.own.two.gr.row
    ·simp only at h0; omega
    simp only at hga
    subst hga
    have hgc : ∀ u, NKS c a len cap w (w.heap.size + 1) w3.heap.size ⟨aa, nn, cc, some ⟨gb, go, none⟩, nn', cc'⟩ x u → ∀ zn : Nat, zn < nn' → u.cell? ⟨gb, go + zn * 2, none⟩ = some (.int .i64 (gg x.gs zn).1) := fun u hu zn hz => by
     obtain h0 | ⟨b2, o2, e2, _, hc2⟩ := hu.kv.own.own.two.gr.row
     ·simp only at h0; omega
     ·cases e2; exact (hc2 zn hz).1
    have HB := hidOf (fun (z : Int) (u : World) (z0 : 0 < z) (z1 : z ≤ 256) (hu : Cur c a len cap u) => below_any a len cap c z u hu z0 z1)
    have HST := hidOf (fun (z : Int) (u : World) (hu : NIn u ⟨aa, nn, cc, some ⟨gb, go, none⟩, nn', cc'⟩ x) => specWithdraw_anyR ⟨aa, nn, cc, some ⟨gb, go, none⟩, nn', cc'⟩ x z u hu (by simp only; omega) (by simp only; omega) hS.kv.cap')
    have hls := HL.out
    clear HV3 hgcell
    go_cut [15, 16, 17] from 21 to 104 (fun s18 _ _ wx => ∃ (M : Nat) (A7 : Na) (y : Nt), s18 = .pointer (some ⟨M, 0, none⟩) ∧ lenN y ≤ j + 1 ∧ NxN c a len cap w (w.heap.size + 1) M ⟨aa, nn, cc, some ⟨gb, go, none⟩, nn', cc'⟩ x A7 y wx)
    case first =>
     refine wp_region_noPanic ?_
     refine wp_region_held_drew (S := fun w' => NKS c a len cap w (w.heap.size + 1) w3.heap.size ⟨aa, nn, cc, some ⟨gb, go, none⟩, nn', cc'⟩ x w') (by kernel_rfl) hS.drew (fun hHeld => ?_)
     refine tK 0 ?_ rfl (by kernel_rfl) (by rfl) ?_ (by assumption) (fun _ _ _ h => h) ?_
     case refine_2 => (intro w hSw; (try dsimp only at hSw); go_simp; try with_reducible rfl)
     simp only [Act.put, List.getElem_toArray, List.getElem_cons_zero, List.setIfInBounds_toArray, List.set_cons_zero, List.set_cons_succ]
     refine tR 1 ?_
     refine tR 2 ?_
     refine tR 3 ?_
     refine tR 4 ?_
     refine tR 5 ?_
     refine tR 6 ?_
     refine wpAnyH_ready (rs := [7, 16]) (by kernel_rfl) (by simp) ?_
     refine AllReadyH.cons rfl (fun K hK => ?_) (AllReadyH.cons rfl (fun K hK => ?_) AllReadyH.nil)
     ·go_simp
      refine (HB.out _ _ (by omega) (by omega) hHeld.curs).mono ?_
      rintro e w5 ⟨z, rfl, z0, z1, hd5⟩
      obtain ⟨zn, rfl⟩ : ∃ zn : Nat, z = zn := ⟨z.toNat, by omega⟩
      go_wp2_with fail
      have hS1 := NKS.draw hHeld hd5
      have hz5 := hS1.kv.le
      refine hK.out _ _ hS1 (fun hHeld => ?_)
      clear hK K
      refine tR 8 ?_
      refine tR 9 ?_
      refine tK 10 ?_ rfl (by kernel_rfl) (by rfl) ?_ (by assumption) (fun _ _ _ h => h) ?_
      case refine_2 => (intro w hSw; have hcg := hgc w hSw zn (by omega); (try dsimp only at hSw); go_simp; try with_reducible rfl)
      simp only [Act.put, zGA, zG0, zGC, zSA, zS0, zSC]
      refine wpAnyH_ready (rs := [11, 16]) (by kernel_rfl) (by simp) ?_
      refine AllReadyH.cons rfl (fun K hK => ?_) (AllReadyH.cons rfl (fun K hK => ?_) AllReadyH.nil)
      ·go_simp
       refine (HST.out _ _ hHeld.nin).mono ?_
       rintro e w7 ⟨A7, rfl, ho7, hc7, hb7⟩
       have hn7 := lenN_withdraw x (gg x.gs zn).1 (less_len _ _)
       generalize (withdrawM x (gg x.gs zn).1).1 = y at ho7 hn7 ⊢
       generalize (withdrawM x (gg x.gs zn).1).2.1 = v1
       generalize (withdrawM x (gg x.gs zn).1).2.2 = v2
       go_wp2_with fail
       have hS2 := NKS.keep hHeld hb7
       have hz7 := hS2.kv.le
       refine hK.out _ _ hS2 (fun hHeld => ?_)
       clear hK K
       refine tR 12 ?_
       refine tR 13 ?_
       refine tR 14 ?_
       refine tR 15 ?_
       refine tW 16 (fun K hK => ?_)
       go_simp
       refine hK.out _ _ (hS2.alloc _) (fun hHeld => ?_)
       clear hK K
       refine tW 17 (fun K hK => ?_)
       go_simp
       refine hK.out _ _ (hS2.alloc _) (fun hHeld => ?_)
       clear hK K
       refine tR 18 ?_
       refine tR 19 ?_
       refine wpAnyH_done (by kernel_rfl) ?_ _
       refine NoPanic.normal ?_
       go_wp2_with fail
       go_meet
       exact ⟨_, _, _, rfl, by omega, NxN.ofAlloc hS2 ho7 hc7 (by omega)⟩
      ·go_simp
       have Z1 := note_box w5
       refine hK.out _ _ (hS1.alloc _) (fun hHeld => ?_)
       clear hK K
       refine tW 11 (fun K hK => ?_)
       go_simp
       refine (HST.out _ _ hHeld.nin).mono ?_
       rintro e w7 ⟨A7, rfl, ho7, hc7, hb7⟩
       have hn7 := lenN_withdraw x (gg x.gs zn).1 (less_len _ _)
       generalize (withdrawM x (gg x.gs zn).1).1 = y at ho7 hn7 ⊢
       generalize (withdrawM x (gg x.gs zn).1).2.1 = v1
       generalize (withdrawM x (gg x.gs zn).1).2.2 = v2
       go_wp2_with fail
       have hS2 := NKS.keep hHeld hb7
       have hz7 := hS2.kv.le
       have hZl := Z1.lt
       have Z2 := Z1.keep hb7
       refine hK.out _ _ hS2 (fun hHeld => ?_)
       clear hK K
       refine tR 12 ?_
       refine tR 13 ?_
       refine tR 14 ?_
       refine tR 15 ?_
       obtain ⟨kl, k0, k1, k2, k3, k4, k5, kf⟩ := id Z2
       refine tW 17 (fun K hK => ?_)
       go_simp
       refine hK.out _ _ (NKS.store6 hS2 (by omega) A7 y) (fun hHeld => ?_)
       clear hK K
       refine tR 18 ?_
       refine tR 19 ?_
       refine wpAnyH_done (by kernel_rfl) ?_ _
       refine NoPanic.normal ?_
       go_wp2_with fail
       go_meet
       exact ⟨_, _, _, rfl, by omega, NxN.ofStore hS2 Z2 (by omega) ho7 hc7 (by omega)⟩
     ·go_simp
      have Z0 := (note_box w3).keep (Below.refl _ _).drew
      refine hK.out _ _ ((hS.alloc _).drew) (fun hHeld => ?_)
      clear hK K
      refine tW 7 (fun K hK => ?_)
      go_simp
      refine (HB.out _ _ (by omega) (by omega) hHeld.curs).mono ?_
      rintro e w5 ⟨z, rfl, z0, z1, hd5⟩
      obtain ⟨zn, rfl⟩ : ∃ zn : Nat, z = zn := ⟨z.toNat, by omega⟩
      go_wp2_with fail
      have hS1 := NKS.draw hHeld hd5
      have hz5 := hS1.kv.le
      have Z1 := Z0.dr hd5 (by omega)
      refine hK.out _ _ hS1 (fun hHeld => ?_)
      clear hK K
      refine tR 8 ?_
      refine tR 9 ?_
      refine tK 10 ?_ rfl (by kernel_rfl) (by rfl) ?_ (by assumption) (fun _ _ _ h => h) ?_
      case refine_2 => (intro w hSw; have hcg := hgc w hSw zn (by omega); (try dsimp only at hSw); go_simp; try with_reducible rfl)
      simp only [Act.put, zGA, zG0, zGC, zSA, zS0, zSC]
      refine tW 11 (fun K hK => ?_)
      go_simp
      refine (HST.out _ _ hHeld.nin).mono ?_
      rintro e w7 ⟨A7, rfl, ho7, hc7, hb7⟩
      have hn7 := lenN_withdraw x (gg x.gs zn).1 (less_len _ _)
      generalize (withdrawM x (gg x.gs zn).1).1 = y at ho7 hn7 ⊢
      generalize (withdrawM x (gg x.gs zn).1).2.1 = v1
      generalize (withdrawM x (gg x.gs zn).1).2.2 = v2
      go_wp2_with fail
      have hS2 := NKS.keep hHeld hb7
      have hz7 := hS2.kv.le
      have hZl := Z1.lt
      have Z2 := Z1.keep hb7
      refine hK.out _ _ hS2 (fun hHeld => ?_)
      clear hK K
      refine tR 12 ?_
      refine tR 13 ?_
      refine tR 14 ?_
      refine tR 15 ?_
      obtain ⟨kl, k0, k1, k2, k3, k4, k5, kf⟩ := id Z2
      refine tW 17 (fun K hK => ?_)
      go_simp
      refine hK.out _ _ (NKS.store6 hS2 (by omega) A7 y) (fun hHeld => ?_)
      clear hK K
      refine tR 18 ?_
      refine tR 19 ?_
      refine wpAnyH_done (by kernel_rfl) ?_ _
      refine NoPanic.normal ?_
      go_wp2_with fail
      go_meet
      exact ⟨_, _, _, rfl, by omega, NxN.ofStore hS2 Z2 (by omega) ho7 hc7 (by omega)⟩
    case rest =>
     obtain ⟨M, A7, y, rfl, hn4, hX⟩ := hcut
     obtain ⟨_, n0, n1, n2, n3, n4', n5, nf⟩ := id hX.nxt
     obtain ⟨_, o0, o1, o2, o3, o4, o5, of⟩ := id hX.box
     have HP := hidOf hX.put
     have hne := hX.ne
     clear hX HB HST hS hgc p0 p1 p2 p3 p4 p5 pf
     go_wp2
     go_roundw
     case rel => exact ⟨j + 1, _, _, _, by omega, by go_num, by omega, HP.out⟩
     case measure => simp [intOf]; omega
   have eq3 : (q == 3) = false := by simp [hq3]
   have hS := HV.out.s
   have hcr := HV.out.dr.cur.lt
   have hb1 := hidOf (note_box w2)
   have HB := hidOf (fun (z : Int) (u : World) (z0 : 0 < z) (z1 : z ≤ 256) (hu : Cur c a len cap u) => below_any a len cap c z u hu z0 z1)
   have HST := hidOf (fun (z : Int) (u : World) (hu : NIn u A x) => specAwait_anyR A x z u hu (by omega) (by omega) HV.out.cap')
   have hls := HL.out
   clear HV
   go_upto_region 6 with fail
   go_cut [18, 19] from 21 to 104 (fun s18 _ wx => ∃ (M : Nat) (A7 : Na) (y : Nt), s18 = .pointer (some ⟨M, 0, none⟩) ∧ lenN y ≤ j + 1 ∧ NxN c a len cap w (w.heap.size + 1) M A x A7 y wx)
   case first =>
    refine wp_region_noPanic ?_
    refine wp_region_held_drew (S := fun w' => NKS c a len cap w (w.heap.size + 1) w2.heap.size A x w') (by kernel_rfl) hS.drew (fun hHeld => ?_)
    refine tK 0 ?_ rfl (by kernel_rfl) (by rfl) ?_ (by assumption) (fun _ _ _ h => h) ?_
    case refine_2 => (intro w hSw; (try dsimp only at hSw); go_simp; try with_reducible rfl)
    simp only [Act.put, List.getElem_toArray, List.getElem_cons_zero, List.setIfInBounds_toArray, List.set_cons_zero, List.set_cons_succ]
    refine tR 1 ?_
    refine wpAnyH_ready (rs := [2, 7]) (by kernel_rfl) (by simp) ?_
    refine AllReadyH.cons rfl (fun K hK => ?_) (AllReadyH.cons rfl (fun K hK => ?_) AllReadyH.nil)
    ·go_simp
     refine (HB.out _ _ (by omega) (by omega) hHeld.curs).mono ?_
     rintro e w5 ⟨z, rfl, z0, z1, hd5⟩
     go_wp2_with fail
     have hS1 := NKS.draw hHeld hd5
     have hz5 : w2.heap.size ≤ w5.heap.size := hS1.kv.le
     refine hK.out _ _ hS1 (fun hHeld => ?_)
     clear hK K
     refine wpAnyH_ready (rs := [3, 7]) (by kernel_rfl) (by simp) ?_
     refine AllReadyH.cons rfl (fun K hK => ?_) (AllReadyH.cons rfl (fun K hK => ?_) AllReadyH.nil)
     ·go_simp
      refine (HST.out _ _ hHeld.nin).mono ?_
      rintro e w7 ⟨A7, rfl, ho7, hc7, hb7⟩
      have hn7 := lenN_await x z (WalkArith.wf_i64 (by omega))
      generalize (awaitM x z).1 = y at ho7 hn7 ⊢
      generalize (awaitM x z).2 = v2
      go_wp2_with fail
      have hS2 := NKS.keep hHeld hb7
      have hz7 : w2.heap.size ≤ w7.heap.size := hS2.kv.le
      refine hK.out _ _ hS2 (fun hHeld => ?_)
      clear hK K
      refine tR 4 ?_
      refine tR 5 ?_
      refine tR 6 ?_
      refine tW 7 (fun K hK => ?_)
      go_simp
      refine hK.out _ _ (hS2.alloc _) (fun hHeld => ?_)
      clear hK K
      refine tW 8 (fun K hK => ?_)
      go_simp
      refine hK.out _ _ (hS2.alloc _) (fun hHeld => ?_)
      clear hK K
      refine tR 9 ?_
      refine wpAnyH_done (by kernel_rfl) ?_ _
      refine NoPanic.normal ?_
      go_wp2_with fail
      go_meet
      exact ⟨_, _, _, rfl, by omega, NxN.ofAlloc hS2 ho7 hc7 (by omega)⟩
     ·go_simp
      have Z1 := note_box w5
      refine hK.out _ _ (hS1.alloc _) (fun hHeld => ?_)
      clear hK K
      refine tW 3 (fun K hK => ?_)
      go_simp
      refine (HST.out _ _ hHeld.nin).mono ?_
      rintro e w7 ⟨A7, rfl, ho7, hc7, hb7⟩
      have hn7 := lenN_await x z (WalkArith.wf_i64 (by omega))
      generalize (awaitM x z).1 = y at ho7 hn7 ⊢
      generalize (awaitM x z).2 = v2
      go_wp2_with fail
      have hS2 := NKS.keep hHeld hb7
      have hz7 : w2.heap.size ≤ w7.heap.size := hS2.kv.le
      have hZl := Z1.lt
      have Z2 := Z1.keep hb7
      refine hK.out _ _ hS2 (fun hHeld => ?_)
      clear hK K
      refine tR 4 ?_
      refine tR 5 ?_
      refine tR 6 ?_
      obtain ⟨kl, k0, k1, k2, k3, k4, k5, kf⟩ := id Z2
      refine tW 8 (fun K hK => ?_)
      go_simp
      refine hK.out _ _ (NKS.store6 hS2 (by omega) A7 y) (fun hHeld => ?_)
      clear hK K
      refine tR 9 ?_
      refine wpAnyH_done (by kernel_rfl) ?_ _
      refine NoPanic.normal ?_
      go_wp2_with fail
      go_meet
      exact ⟨_, _, _, rfl, by omega, NxN.ofStore hS2 Z2 (by omega) ho7 hc7 (by omega)⟩
    ·go_simp
     have Z0 := (note_box w2).keep (Below.refl _ _).drew
     refine hK.out _ _ ((hS.alloc _).drew) (fun hHeld => ?_)
     clear hK K
     refine tW 2 (fun K hK => ?_)
     go_simp
     refine (HB.out _ _ (by omega) (by omega) hHeld.curs).mono ?_
     rintro e w5 ⟨z, rfl, z0, z1, hd5⟩
     go_wp2_with fail
     have hS1 := NKS.draw hHeld hd5
     have hz5 : w2.heap.size ≤ w5.heap.size := hS1.kv.le
     have Z1 := Z0.dr hd5 (by omega)
     refine hK.out _ _ hS1 (fun hHeld => ?_)
     clear hK K
     refine tW 3 (fun K hK => ?_)
     go_simp
     refine (HST.out _ _ hHeld.nin).mono ?_
     rintro e w7 ⟨A7, rfl, ho7, hc7, hb7⟩
     have hn7 := lenN_await x z (WalkArith.wf_i64 (by omega))
     generalize (awaitM x z).1 = y at ho7 hn7 ⊢
     generalize (awaitM x z).2 = v2
     go_wp2_with fail
     have hS2 := NKS.keep hHeld hb7
     have hz7 : w2.heap.size ≤ w7.heap.size := hS2.kv.le
     have hZl := Z1.lt
     have Z2 := Z1.keep hb7
     refine hK.out _ _ hS2 (fun hHeld => ?_)
     clear hK K
     refine tR 4 ?_
     refine tR 5 ?_
     refine tR 6 ?_
     obtain ⟨kl, k0, k1, k2, k3, k4, k5, kf⟩ := id Z2
     refine tW 8 (fun K hK => ?_)
     go_simp
     refine hK.out _ _ (NKS.store6 hS2 (by omega) A7 y) (fun hHeld => ?_)
     clear hK K
     refine tR 9 ?_
     refine wpAnyH_done (by kernel_rfl) ?_ _
     refine NoPanic.normal ?_
     go_wp2_with fail
     go_meet
     exact ⟨_, _, _, rfl, by omega, NxN.ofStore hS2 Z2 (by omega) ho7 hc7 (by omega)⟩
   case rest =>
    obtain ⟨M, A7, y, rfl, hn4, hX⟩ := hcut
    obtain ⟨_, n0, n1, n2, n3, n4', n5, nf⟩ := id hX.nxt
    obtain ⟨_, o0, o1, o2, o3, o4, o5, of⟩ := id hX.box
    have HP := hidOf hX.put
    have hne := hX.ne
    clear hX HB HST hS hb1
    go_wp2
    go_roundw
    case rel => exact ⟨j + 1, _, _, _, by omega, by go_num, by omega, HP.out⟩
    case measure => simp [intOf]; omega
  ·have hji : ¬ (j : Int) < (most : Int) := by omega
   obtain ⟨_, o0, o1, o2, o3, o4, o5, of⟩ := id hV.box
   obtain ⟨_, r0, r1, r2, r3, r4, r5, rf⟩ := id hV.res
   have hne : ¬ w.heap.size = w.heap.size + 1 := by omega
   have HD := hidOf (hV.dr.store6 hV.cur w.heap.size (Nat.le_refl _) A x)
   have HO := hidOf ((hV.own.otherN (grown6 wr w.heap.size A x) (hV.own.neN (by omega))).mono (B' := w.heap.size) (by omega))
   have hcp := hV.cap'
   clear hV
   go_wp2
   exact bodyPost_ret (v := .agg #[.bool x.pm, .slice A.a A.n A.c, .slice A.a' A.n' A.c', .int .i64 x.on, .int .i64 x.sp, .int .i64 x.tk]) (by simp [results, Try.results83, go_sem, r0, r1, r2, r3, r4, r5]) rfl ⟨A, x, rfl, HO.out, hcp, by have := HL.out; omega, HD.out⟩
end Go.Proofs.Ytfgknbflgmblmaa
