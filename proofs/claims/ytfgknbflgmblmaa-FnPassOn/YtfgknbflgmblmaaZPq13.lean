/-
  The specification's draws: a notification, right or spoilt
-/
import Derived.Test.YtfgknbflgmblmaaZPq12
namespace Go.Proofs.Ytfgknbflgmblmaa
open Go.RowKit Pl Il Dr
theorem Drawn.belowN {c : Nat} {a : Option Addr} {len cap : Nat} {w u u' : World} (h : Drawn c a len cap w u) (hC : Cur c a len cap w) (hb : Below w.heap.size u u') (hs : u.heap.size ≤ u'.heap.size) : Drawn c a len cap w u' := by
  have hc := hC.lt
  refine ⟨⟨by have := h.cur.lt; omega, ?_, ?_, ?_, ?_, ?_, ?_⟩, ⟨hb.os.trans h.ex.os, hb.tape.trans h.ex.tape, hb.output.trans h.ex.output, Nat.le_trans h.ex.size hs, fun i hi hn => (hb.block i hi).trans (h.ex.block i hi hn)⟩⟩
  · obtain ⟨hl, hm, h0 | ⟨b, off, e, hlt, hne, hcell⟩⟩ := h.cur.bytes
    · exact ⟨hl, hm, .inl h0⟩
    · obtain ⟨_, _, k | ⟨b', off', k, hb', _, _⟩⟩ := hC.bytes
      · exact ⟨hl, hm, .inl k⟩
      · rw [e] at k
        cases k
        exact ⟨hl, hm, .inr ⟨b, off, e, by omega, hne, fun i hi => by rw [hb.cell (p := ⟨b, off + i, none⟩) hb']; exact hcell i hi⟩⟩
  · rw [hb.cell (p := ⟨c, 0, none⟩) hc]; exact h.cur.at0
  · rw [hb.cell (p := ⟨c, 1, none⟩) hc]; exact h.cur.at1
  · rw [hb.cell (p := ⟨c, 2, none⟩) hc]; exact h.cur.at2
  · rw [hb.frozen (p := ⟨c, 1, none⟩) hc]; exact h.cur.fr1
  · rw [hb.frozen (p := ⟨c, 2, none⟩) hc]; exact h.cur.fr2
/-- The variable, with what is needed to hand it back. -/
structure NFn (c : Nat) (a : Option Addr) (len cap : Nat) (w : World) (N : Nat) (A : Na) (x : Nt) (u : World) : Prop where
  dr : Drawn c a len cap w u
  cur : Cur c a len cap w
  sr : NSr (w.heap.size + 1) N A x u
  res : NBox w.heap.size Na.zero Nt.zero u
section
variable {c : Nat} {a : Option Addr} {len cap : Nat} {w : World} {N R : Nat} {A : Na} {x y : Nt} {u u' : World}
theorem NFn.keep (h : NFn c a len cap w N A x u) (hb : Below u.heap.size u u') : NFn c a len cap w N A x u' := ⟨drawn_keepN h.dr hb, h.cur, h.sr.keep hb, h.res.keep hb⟩
theorem NFn.draw (h : NFn c a len cap w N A x u) (hd : Drawn c a len cap u u') : NFn c a len cap w N A x u' := by
  have hc := h.cur.lt
  have hg := h.sr.ge
  exact ⟨h.dr.trans hd, h.cur, ⟨h.sr.box.dr hd (by omega), h.sr.ge, h.sr.rows.otherN hd.ex (h.sr.rows.neN (by omega)), h.sr.ne1, h.sr.ne2⟩, h.res.dr hd (by omega)⟩
theorem NFn.setc (h : NFn c a len cap w N A x u) (o : Nat) (v : Value) (hb : NBox N A y (u.setCell ⟨N, o, none⟩ v)) (h1 : y.ln = x.ln) (h2 : y.gs = x.gs) : NFn c a len cap w N A y (u.setCell ⟨N, o, none⟩ v) := by
  have hg := h.sr.ge
  exact ⟨h.dr.store h.cur ⟨N, o, none⟩ (by show w.heap.size ≤ N; omega) v, h.cur, h.sr.setc o v hb h1 h2, h.res.grown (grow1 ⟨rfl, rfl, rfl, Nat.le_refl _, fun _ _ _ => rfl⟩ o v) (by omega)⟩
theorem NFn.appd (h : NFn c a len cap w N A x u) {g : Option Nat} {A' : Na} (hg : u.grownBy u' g) (hq : ∀ q, g = some q → w.heap.size + 1 ≤ q) {o : Nat} {v : Value} (hs : NSr (w.heap.size + 1) N A' y (u'.setCell ⟨N, o, none⟩ v)) : NFn c a len cap w N A' y (u'.setCell ⟨N, o, none⟩ v) := by
  have hge := h.sr.ge
  have hw : w.heap.size + 1 ≤ u.heap.size := by have := h.sr.box.lt; omega
  have hb : Below (w.heap.size + 1) u u' := (Below.refl _ _).grown hg hw hq
  have hd := h.dr.belowN h.cur (hb.mono (by omega)) hg.size
  have hr : NBox w.heap.size Na.zero Nt.zero u' := h.res.below hb (by omega)
  exact ⟨hd.store h.cur ⟨N, o, none⟩ (by show w.heap.size ≤ N; omega) v, h.cur, hs, hr.grown (grow1 ⟨rfl, rfl, rfl, Nat.le_refl _, fun _ _ _ => rfl⟩ o v) (by omega)⟩
end
theorem NFn.put {c : Nat} {a : Option Addr} {len cap : Nat} {w : World} {N : Nat} {A : Na} {x y : Nt} {u : World} {A' : Na} {B : Nat} (h : NFn c a len cap w N A x u) (ho : NRow B u A' y) (hB : w.heap.size + 1 ≤ B) (hN : N < B) : NFn c a len cap w N A' y (((((((u).setCell ⟨N, 0, none⟩ (.bool y.pm)).setCell ⟨N, 1, none⟩ (.slice A'.a A'.n A'.c)).setCell ⟨N, 2, none⟩ (.slice A'.a' A'.n' A'.c')).setCell ⟨N, 3, none⟩ (.int .i64 y.on)).setCell ⟨N, 4, none⟩ (.int .i64 y.sp)).setCell ⟨N, 5, none⟩ (.int .i64 y.tk)) := by
  have hg := h.sr.ge
  exact ⟨h.dr.store6 h.cur N (by omega) A' y, h.cur, ⟨h.sr.box.put6, hg, (ho.otherN (grown6 u N A' y) (ho.neN hN)).mono hB, (ho.neN hN).1, (ho.neN hN).2⟩, h.res.grown (grown6 u N A' y) (by omega)⟩
set_option maxRecDepth 100000 in
set_option maxHeartbeats 8000000 in
theorem l5Some_any (a : Option Addr) (len cap : Nat) (c : Nat) (w : World) (hC : Cur c a len cap w) :
  Calls Try.prog 59 #[.pointer (some ⟨c, 0, none⟩)] w fun e w' => NoteD c a len cap 60 w e w' := by
 have hlt := hC.lt
 obtain ⟨W0, hW0⟩ : ∃ W, W = w.alloc (.cells #[.bool false, .slice none 0 0, .slice none 0 0, .int .i64 0, .int .i64 0, .int .i64 0] 27) := ⟨_, rfl⟩
 have b0 : Below w.heap.size w W0 := by rw [hW0]; exact bl_alloc (Below.refl _ _) _
 have r0 : NBox w.heap.size Na.zero Nt.zero W0 := by rw [hW0]; exact NBox.newZ w _
 have HS0 := hidOf (show W0.heap.size = w.heap.size + 1 by rw [hW0]; simp)
 have HD0 := hidOf (drawn_keepN (Drawn.start hC) b0)
 have HR0 := hidOf r0
 have HC := hidOf hC
 clear b0 r0 hC
 go_enter Try.func59, Try.ntmps59
 go_wp2_with fail
 rw [← hW0]
 clear hW0
 refine (below_any a len cap c _ _ HD0.out.cur (by omega) (by omega)).mono ?_
 rintro e w1 ⟨q, rfl, q0, q1, hd1⟩
 obtain ⟨qn, rfl⟩ : ∃ k : Nat, q = (k : Int) := ⟨q.toNat, by omega⟩
 have HD1 := hidOf (HD0.out.trans hd1)
 have HR1 := hidOf (HR0.out.dr hd1 (by omega))
 have HS1 := hidOf (show w.heap.size + 1 ≤ w1.heap.size by have h1 := hd1.ex.size; have h2 := HS0.out; omega)
 clear hd1 HD0 HR0 HS0
 go_wp2_with fail
 refine (l5Notify_any a len cap c qn _ HD1.out.cur (by omega)).mono ?_
 rintro e w2 ⟨A, x, rfl, hrow, hcap, hle, hd2⟩
 have hD2 := HD1.out.trans hd2
 have hR2 := HR1.out.dr hd2 (by omega)
 have hs2 := hd2.ex.size
 have hun := underN.ne hrow.under (Nat.le_refl _)
 have hF : NFn c a len cap w w2.heap.size A x (w2.alloc (.cells #[.bool x.pm, .slice A.a A.n A.c, .slice A.a' A.n' A.c', .int .i64 x.on, .int .i64 x.sp, .int .i64 x.tk] 27)) :=
  ⟨hD2.alloc _, HC.out, ⟨NBox.new w2 A x _, by have h1 := HS1.out; omega, (hrow.keep (bl_alloc (Below.refl _ _) _)).mono (by have h1 := HS1.out; omega), hun.1, hun.2⟩, hR2.alloc _⟩
 go_upto_region 2 with fail
 generalize w2.alloc (.cells #[.bool x.pm, .slice A.a A.n A.c, .slice A.a' A.n' A.c', .int .i64 x.on, .int .i64 x.sp, .int .i64 x.tk] 27) = W3 at hF ⊢
 generalize w2.heap.size = N at hF ⊢
 have HF := hidOf hF
 have HLx := hidOf hle
 clear hrow hcap hle hd2 hD2 hR2 hs2 hun hF HD1 HR1 HS1 q0 q1
 go_wp2_with fail
 refine (once_any a len cap c _ _ HF.out.dr.cur (by omega) (by omega)).mono ?_
 rintro e w4 ⟨b, rfl, hd4⟩
 have HF4 := hidOf (HF.out.draw hd4)
 clear hd4 HF
 go_upto_if 13 with fail
 go_cut [4, 5, 6] from 14 to 29 (fun _ _ _ wx => ∃ (A : Na) (x : Nt), lenN x ≤ 52 ∧ NFn c a len cap w N A x wx)
 case first =>
  cases b
  ·go_wp2_with fail
   go_meet
   exact ⟨A, x, by have h1 := HLx.out; omega, HF4.out⟩
  ·go_wp2_with fail
   go_loopw [4] (fun i wr => ∃ (j : Nat) (A : Na) (x : Nt), j ≤ 32 ∧ i = .int .i64 (j : Int) ∧ lenN x ≤ 20 + j ∧ NFn c a len cap w N A x wr) (fun i _ => 32 - (intOf i).toNat)
   case atStart => exact ⟨0, A, x, by omega, rfl, by have h1 := HLx.out; omega, HF4.out⟩
   case round =>
    clear HF4 HLx
    rename World => wr
    obtain ⟨j, A, x, hj, rfl, hlx, hF⟩ := hrel
    have hsm := lenN_small hF.sr.rows.own hlx
    obtain ⟨_, p0, p1, p2, p3, p4, p5, pf⟩ := id hF.sr.box
    have HF := hidOf hF
    have HLj := hidOf hlx
    clear hF hlx
    by_cases hj32 : j < 32
    ·have hji : (j : Int) < 32 := by omega
     obtain ⟨pm, hpm⟩ : ∃ b, x.pm = b := ⟨_, rfl⟩
     have HPm := hidOf hpm
     rw [hpm] at p0
     clear hpm
     cases pm
     ·go_wp2_with fail
      have hA := specAwait_anyR A x (j : Int) wr HF.out.sr.rows.own.nin (by omega) (by omega) HF.out.sr.rows.cap
      rw [HPm.out] at hA
      refine hA.mono ?_
      clear hA
      rintro e w5 ⟨A5, rfl, ho5, hc5, hb5⟩
      have hln := lenN_await x (j : Int) (by simp only [Lit.wf, IntKind.min, IntKind.max, IntKind.signed, IntKind.bits]; simp; omega)
      generalize (awaitM x (j : Int)).1 = y at ho5 hln ⊢
      generalize (awaitM x (j : Int)).2 = v2
      have hF5 := HF.out.keep hb5
      have hX : NBox w5.heap.size A5 y (w5.alloc (.cells #[.bool y.pm, .slice A5.a A5.n A5.c, .slice A5.a' A5.n' A5.c', .int .i64 y.on, .int .i64 y.sp, .int .i64 y.tk] 27)) := NBox.new w5 A5 y _
      have hF6 := hF5.keep (bl_alloc (Below.refl _ _) (.cells #[.bool y.pm, .slice A5.a A5.n A5.c, .slice A5.a' A5.n' A5.c', .int .i64 y.on, .int .i64 y.sp, .int .i64 y.tk] 27))
      have ho6 := ho5.keep (bl_alloc (Below.refl _ _) (.cells #[.bool y.pm, .slice A5.a A5.n A5.c, .slice A5.a' A5.n' A5.c', .int .i64 y.on, .int .i64 y.sp, .int .i64 y.tk] 27))
      generalize hW6 : w5.alloc (.cells #[.bool y.pm, .slice A5.a A5.n A5.c, .slice A5.a' A5.n' A5.c', .int .i64 y.on, .int .i64 y.sp, .int .i64 y.tk] 27) = W6 at hX hF6 ho6
      obtain ⟨_, n0, n1, n2, n3, n4, n5, nf⟩ := id hX
      obtain ⟨_, o0, o1, o2, o3, o4, o5, of⟩ := id hF6.sr.box
      have HP := hidOf (hF6.put ho6 (by have h1 := HF.out.sr.box.lt; have h2 := HF.out.sr.ge; omega) HF.out.sr.box.lt)
      have HLn := hidOf hln
      clear hX hF5 hF6 ho5 ho6 hc5 hb5 HF hln HPm p0 p1 p2 p3 p4 p5 pf
      go_wp2
      go_roundw
      case rel => exact ⟨j + 1, A5, y, by omega, by go_num, by have h1 := HLj.out; have h2 := HLn.out; omega, HP.out⟩
      case measure => simp [intOf]; omega
     ·go_wp2_with fail
      go_meet
      exact ⟨A, x, by have h1 := HLj.out; omega, HF.out⟩
    ·have hji : ¬ (j : Int) < 32 := by omega
     go_wp2_with fail
     go_meet
     exact ⟨A, x, by have h1 := HLj.out; omega, HF.out⟩
 case rest =>
  clear HF4 HLx
  rename World => w5
  obtain ⟨A, x, hlx, hF⟩ := hcut
  have HF5 := hidOf hF
  have HLx := hidOf hlx
  clear hF hlx
  go_wp2_with fail
  refine (once_any a len cap c _ _ HF5.out.dr.cur (by omega) (by omega)).mono ?_
  rintro e w6 ⟨b, rfl, hd6⟩
  have HF6 := hidOf (HF5.out.draw hd6)
  clear hd6 HF5
  go_upto_if 31 with fail
  go_cut [7] from 32 to 59 (fun _ wx => ∃ (A : Na) (x : Nt), lenN x ≤ 52 ∧ NFn c a len cap w N A x wx)
  case first =>
   cases b
   ·go_wp2_with fail
    go_meet
    exact ⟨A, x, HLx.out, HF6.out⟩
   ·obtain ⟨_, p0, p1, p2, p3, p4, p5, pf⟩ := id HF6.out.sr.box
    have hSet : ∀ v1 v2 : Int, NFn c a len cap w N A { x with on := v1, tk := v2 } ((w6.setCell ⟨N, 3, none⟩ (.int .i64 v1)).setCell ⟨N, 5, none⟩ (.int .i64 v2)) := fun v1 v2 =>
     have h1 : NFn c a len cap w N A { x with on := v1 } (w6.setCell ⟨N, 3, none⟩ (.int .i64 v1)) := HF6.out.setc 3 _ HF6.out.sr.box.set3 rfl rfl
     h1.setc (y := { x with on := v1, tk := v2 }) 5 _ h1.sr.box.set5 rfl rfl
    have HSet := hidOf hSet
    clear hSet
    go_wp2_with fail
    refine (once_any a len cap c _ _ (HSet.out _ _).dr.cur (by omega) (by omega)).mono ?_
    rintro e w7 ⟨b2, rfl, hd7⟩
    obtain ⟨y, hy, hF7⟩ : ∃ y : Nt, lenN y ≤ 52 ∧ NFn c a len cap w N A y w7 := by
     refine ⟨_, ?_, (HSet.out _ _).draw hd7⟩
     exact HLx.out
    have HF7 := hidOf hF7
    have HLy := hidOf hy
    clear HF6 HSet hd7 hF7 hy HLx p0 p1 p2 p3 p4 p5 pf
    obtain ⟨_, p0, p1, p2, p3, p4, p5, pf⟩ := id HF7.out.sr.box
    cases b2
    ·go_wp2_with fail
     go_meet
     exact ⟨A, y, HLy.out, HF7.out⟩
    ·by_cases ht : 999999995 < y.tk
     rotate_left
     ·go_wp2_with fail
      go_meet
      exact ⟨A, y, HLy.out, HF7.out⟩
     ·have hSet2 : ∀ v1 v2 : Int, NFn c a len cap w N A { y with tk := v1, sp := v2 } ((w7.setCell ⟨N, 5, none⟩ (.int .i64 v1)).setCell ⟨N, 4, none⟩ (.int .i64 v2)) := fun v1 v2 =>
       have h1 : NFn c a len cap w N A { y with tk := v1 } (w7.setCell ⟨N, 5, none⟩ (.int .i64 v1)) := HF7.out.setc 5 _ HF7.out.sr.box.set5 rfl rfl
       h1.setc (y := { y with tk := v1, sp := v2 }) 4 _ h1.sr.box.set4 rfl rfl
      have HSet2 := hidOf hSet2
      clear hSet2
      go_wp2_with fail
      go_meet
      refine ⟨A, _, ?_, HSet2.out _ _⟩
      exact HLy.out
  case rest =>
   clear HF6 HLx
   rename World => w8
   obtain ⟨A, x, hlx, hF⟩ := hcut
   have HF8 := hidOf hF
   have HLx := hidOf hlx
   clear hF hlx
   go_wp2_with fail
   refine (once_any a len cap c _ _ HF8.out.dr.cur (by omega) (by omega)).mono ?_
   rintro e w9 ⟨b, rfl, hd9⟩
   have HF9 := hidOf (HF8.out.draw hd9)
   clear hd9 HF8
   go_upto_if 61 with fail
   go_cut [2] from 62 to 90 (fun s wx => s = .pointer (some ⟨w.heap.size, 0, none⟩) ∧ ∃ (A : Na) (x : Nt), lenN x ≤ 60 ∧ NFn c a len cap w N A x wx)
   case first =>
    cases b
    ·go_wp2_with fail
     go_meet
     exact ⟨rfl, A, x, by have h1 := HLx.out; omega, HF9.out⟩
    ·go_wp2_with fail
     refine (below_any a len cap c _ _ HF9.out.dr.cur (by omega) (by omega)).mono ?_
     rintro e w11 ⟨q, rfl, q0, q1, hd11⟩
     have HF11 := hidOf (HF9.out.draw hd11)
     clear hd11 HF9
     obtain ⟨_, p0, p1, p2, p3, p4, p5, pf⟩ := id HF11.out.sr.box
     have hsm := lenN_small HF11.out.sr.rows.own HLx.out
     by_cases hq0 : q = 0
     ·subst hq0
      have hSet : ∀ v1 : Int, NFn c a len cap w N A { x with sp := v1 } (w11.setCell ⟨N, 4, none⟩ (.int .i64 v1)) := fun v1 => HF11.out.setc 4 _ HF11.out.sr.box.set4 rfl rfl
      have HSet := hidOf hSet
      clear hSet
      go_wp2_with fail
      go_meet
      refine ⟨rfl, A, _, ?_, HSet.out _⟩
      exact Nat.le_trans HLx.out (by omega)
     have eq0 : (q == 0) = false := by simp [hq0]
     by_cases hq1 : q = 1
     ·subst hq1
      have hSet : ∀ v1 : Bool, NFn c a len cap w N A { x with pm := v1 } (w11.setCell ⟨N, 0, none⟩ (.bool v1)) := fun v1 => HF11.out.setc 0 _ HF11.out.sr.box.set0 rfl rfl
      have HSet := hidOf hSet
      clear hSet
      go_wp2_with fail
      go_meet
      refine ⟨rfl, A, _, ?_, HSet.out _⟩
      exact Nat.le_trans HLx.out (by omega)
     have eq1 : (q == 1) = false := by simp [hq1]
     by_cases hq2 : q = 2
     ·subst hq2
      go_upto_region 23 with fail
      have hdr := HF11.out.keep (Below.refl _ w11).drew
      refine wp_region_noPanic ?_
      refine wp_region_held_drew (S := fun u => Drawn c a len cap w u) (by kernel_rfl) hdr.dr (fun hHeld => ?_)
      refine tK 0 ?_ rfl (by kernel_rfl) (by rfl) ?_ (by assumption) (fun _ _ _ h => h) ?_
      case refine_2 => (intro w hSw; (try dsimp only at hSw); go_simp; try with_reducible rfl)
      simp only [Act.put, List.getElem_toArray, List.getElem_cons_zero, List.setIfInBounds_toArray, List.set_cons_zero, List.set_cons_succ]
      refine tR 2 ?_
      refine wpAnyH_ready (rs := [1, 3]) (by kernel_rfl) (by simp) ?_
      refine AllReadyH.cons rfl (fun K hK => ?_) (AllReadyH.cons rfl (fun K hK => ?_) AllReadyH.nil)
      ·have l2 := hdr.sr.box.c2
       go_simp
       refine hK.out _ _ (by exact hdr.dr) (fun hHeld => ?_)
       clear hK K
       refine tW 3 (fun K hK => ?_)
       go_simp
       refine (below_any a len cap c _ _ hHeld.cur (by omega) (by omega)).mono ?_
       rintro e w12 ⟨z, rfl, z0, z1, hd12⟩
       go_wp2_with fail
       have hF12 := hdr.draw hd12
       refine hK.out _ _ hF12.dr (fun hHeld => ?_)
       clear hK K
       refine tR 4 ?_
       obtain ⟨g', c', w', hr, ho', hg, hl⟩ := append_gr2 (w.heap.size + 1) A.n' _ x.gs z false w12 hF12.sr.rows.two (by have h1 := hF12.sr.box.lt; have h2 := hF12.sr.ge; omega) (by omega)
       obtain ⟨hbx, hS2⟩ := hF12.sr.grow ho' hg hl
       have hFe := hF12.appd (g := (Value.slice A.a' A.n' A.c').ownBlock) hg (fun q e => (hF12.sr.rows.two.lt q e).1) hS2
       have hd' : Drawn c a len cap w w' := hF12.dr.belowN hF12.cur (((Below.refl _ _).grown hg (by have h1 := hF12.sr.box.lt; have h2 := hF12.sr.ge; omega) (fun q e => (hF12.sr.rows.two.lt q e).1) : Below (w.heap.size + 1) w12 w').mono (by omega)) hg.size
       have hFa := hF12.keep (bl_alloc (Below.refl _ _) (.cells #[.int .i64 z, .bool false] 44))
       refine tW 5 (fun K hK => ?_)
       go_simp
       refine hK.out _ _ hFa.dr (fun hHeld => ?_)
       clear hK K
       refine tW 6 (fun K hK => ?_)
       refine nstep_append_run (by rfl) _ _ 25 (by rfl) (.slice A.a' A.n' A.c') (.slice (some ⟨w12.heap.size, 0, none⟩) 1 1) _ (by rfl) (by rfl) hr ?_
       refine hK.out _ _ hd' (fun hHeld => ?_)
       clear hK K
       simp only [Act.put, zGA, zG0, zGC, zSA, zS0, zSC]
       obtain ⟨_, t0, t1, t2, t3, t4, t5, tf⟩ := id hbx
       refine tR 7 ?_
       refine tW 8 (fun K hK => ?_)
       go_simp
       refine hK.out _ _ hFe.dr (fun hHeld => ?_)
       clear hK K
       refine wpAnyH_done (by kernel_rfl) ?_ _
       refine NoPanic.normal ?_
       go_wp2_with fail
       go_meet
       refine ⟨rfl, _, _, ?_, hFe⟩
       refine Nat.le_trans (lenN_le (x := x) 1 (by simp; omega) (fun h => ⟨h.ln, ?_⟩)) (by have h1 := HLx.out; omega)
       simp only [whosN_append]
       refine wfL_append h.gs (fun y hy => ?_)
       simp [whosL] at hy
       subst hy
       simp only [Lit.wf, IntKind.min, IntKind.max, IntKind.signed, IntKind.bits]
       simp
       omega
      ·go_simp
       refine (below_any a len cap c _ _ hHeld.cur (by omega) (by omega)).mono ?_
       rintro e w12 ⟨z, rfl, z0, z1, hd12⟩
       go_wp2_with fail
       have hF12 := hdr.draw hd12
       refine hK.out _ _ hF12.dr (fun hHeld => ?_)
       clear hK K
       refine tR 4 ?_
       obtain ⟨g', c', w', hr, ho', hg, hl⟩ := append_gr2 (w.heap.size + 1) A.n' _ x.gs z false w12 hF12.sr.rows.two (by have h1 := hF12.sr.box.lt; have h2 := hF12.sr.ge; omega) (by omega)
       obtain ⟨hbx, hS2⟩ := hF12.sr.grow ho' hg hl
       have hFe := hF12.appd (g := (Value.slice A.a' A.n' A.c').ownBlock) hg (fun q e => (hF12.sr.rows.two.lt q e).1) hS2
       have hd' : Drawn c a len cap w w' := hF12.dr.belowN hF12.cur (((Below.refl _ _).grown hg (by have h1 := hF12.sr.box.lt; have h2 := hF12.sr.ge; omega) (fun q e => (hF12.sr.rows.two.lt q e).1) : Below (w.heap.size + 1) w12 w').mono (by omega)) hg.size
       have hFa := hF12.keep (bl_alloc (Below.refl _ _) (.cells #[.int .i64 z, .bool false] 44))
       refine wpAnyH_ready (rs := [1, 5]) (by kernel_rfl) (by simp) ?_
       refine AllReadyH.cons rfl (fun K hK => ?_) (AllReadyH.cons rfl (fun K hK => ?_) AllReadyH.nil)
       ·have l2 := hF12.sr.box.c2
        go_simp
        refine hK.out _ _ (by exact hF12.dr) (fun hHeld => ?_)
        clear hK K
        refine tW 5 (fun K hK => ?_)
        go_simp
        refine hK.out _ _ hFa.dr (fun hHeld => ?_)
        clear hK K
        refine tW 6 (fun K hK => ?_)
        refine nstep_append_run (by rfl) _ _ 25 (by rfl) (.slice A.a' A.n' A.c') (.slice (some ⟨w12.heap.size, 0, none⟩) 1 1) _ (by rfl) (by rfl) hr ?_
        refine hK.out _ _ hd' (fun hHeld => ?_)
        clear hK K
        simp only [Act.put, zGA, zG0, zGC, zSA, zS0, zSC]
        obtain ⟨_, t0, t1, t2, t3, t4, t5, tf⟩ := id hbx
        refine tR 7 ?_
        refine tW 8 (fun K hK => ?_)
        go_simp
        refine hK.out _ _ hFe.dr (fun hHeld => ?_)
        clear hK K
        refine wpAnyH_done (by kernel_rfl) ?_ _
        refine NoPanic.normal ?_
        go_wp2_with fail
        go_meet
        refine ⟨rfl, _, _, ?_, hFe⟩
        refine Nat.le_trans (lenN_le (x := x) 1 (by simp; omega) (fun h => ⟨h.ln, ?_⟩)) (by have h1 := HLx.out; omega)
        simp only [whosN_append]
        refine wfL_append h.gs (fun y hy => ?_)
        simp [whosL] at hy
        subst hy
        simp only [Lit.wf, IntKind.min, IntKind.max, IntKind.signed, IntKind.bits]
        simp
        omega
       ·go_simp
        refine hK.out _ _ hFa.dr (fun hHeld => ?_)
        clear hK K
        refine tW 1 (fun K hK => ?_)
        have l2 := hFa.sr.box.c2
        go_simp
        refine hK.out _ _ (by exact hFa.dr) (fun hHeld => ?_)
        clear hK K
        refine tW 6 (fun K hK => ?_)
        refine nstep_append_run (by rfl) _ _ 25 (by rfl) (.slice A.a' A.n' A.c') (.slice (some ⟨w12.heap.size, 0, none⟩) 1 1) _ (by rfl) (by rfl) hr ?_
        refine hK.out _ _ hd' (fun hHeld => ?_)
        clear hK K
        simp only [Act.put, zGA, zG0, zGC, zSA, zS0, zSC]
        obtain ⟨_, t0, t1, t2, t3, t4, t5, tf⟩ := id hbx
        refine tR 7 ?_
        refine tW 8 (fun K hK => ?_)
        go_simp
        refine hK.out _ _ hFe.dr (fun hHeld => ?_)
        clear hK K
        refine wpAnyH_done (by kernel_rfl) ?_ _
        refine NoPanic.normal ?_
        go_wp2_with fail
        go_meet
        refine ⟨rfl, _, _, ?_, hFe⟩
        refine Nat.le_trans (lenN_le (x := x) 1 (by simp; omega) (fun h => ⟨h.ln, ?_⟩)) (by have h1 := HLx.out; omega)
        simp only [whosN_append]
        refine wfL_append h.gs (fun y hy => ?_)
        simp [whosL] at hy
        subst hy
        simp only [Lit.wf, IntKind.min, IntKind.max, IntKind.signed, IntKind.bits]
        simp
        omega
     have eq2 : (q == 2) = false := by simp [hq2]
     obtain ⟨g', c', w', hr, ho', hg, hl⟩ := append_own1 (w.heap.size + 1) A.n _ x.ln (-1) w11 HF11.out.sr.rows.one (by have h1 := HF11.out.sr.box.lt; have h2 := HF11.out.sr.ge; omega) (by omega)
     obtain ⟨hbx, hS2⟩ := HF11.out.sr.join ho' hg hl
     have hFe := HF11.out.appd (g := (Value.slice A.a A.n A.c).ownBlock) hg (fun q e => (HF11.out.sr.rows.one.lt q e).1) hS2
     have HFe := hidOf hFe
     have Hr := hidOf hr
     have dq : ∀ o, (w11.alloc o).cell? ⟨N, 1, none⟩ = some (.slice A.a A.n A.c) := fun o => by rw [World.cell?_alloc_old _ _ _ (Nat.ne_of_lt (World.block_lt_of_cell? w11 _ p1))]; exact p1
     obtain ⟨_, u0, u1, u2, u3, u4, u5, uf⟩ := id hbx
     clear hr ho' hg hl hS2 hFe hbx
     go_wp2_with (at_builtin; refine wpList_append_run rfl _ _ 24 rfl _ _ _ rfl rfl Hr.out ?_)
     go_meet
     refine ⟨rfl, _, _, ?_, HFe.out⟩
     exact Nat.le_trans (lenN_le (x := x) 1 (by simp; omega) (fun h => ⟨wfL_append h.ln (fun y hy => by simp at hy; subst hy; decide), h.gs⟩)) (by have h1 := HLx.out; omega)
   case rest =>
    clear HF9 HLx
    rename World => w13
    obtain ⟨rfl, A, x, hlx, hF⟩ := hcut
    obtain ⟨_, o0, o1, o2, o3, o4, o5, of⟩ := id hF.sr.box
    obtain ⟨_, r0, r1, r2, r3, r4, r5, rf⟩ := id hF.res
    have hne : ¬ w.heap.size = N := by have h1 := hF.sr.ge; omega
    have HD := hidOf (hF.dr.store6 hF.cur w.heap.size (Nat.le_refl _) A x)
    have HO := hidOf ((hF.sr.rows.otherN (grown6 w13 w.heap.size A x) (hF.sr.rows.neN (by omega))).mono (B' := w.heap.size) (by omega))
    have HCp := hidOf hF.sr.rows.cap
    have HL := hidOf hlx
    clear hF hlx
    go_wp2
    exact bodyPost_ret (v := .agg #[.bool x.pm, .slice A.a A.n A.c, .slice A.a' A.n' A.c', .int .i64 x.on, .int .i64 x.sp, .int .i64 x.tk]) (by simp [results, Try.results59, go_sem, r0, r1, r2, r3, r4, r5]) rfl ⟨A, x, rfl, HO.out, HCp.out, HL.out, HD.out⟩
end Go.Proofs.Ytfgknbflgmblmaa
