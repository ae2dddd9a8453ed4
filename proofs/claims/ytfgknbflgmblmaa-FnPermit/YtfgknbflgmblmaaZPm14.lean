/-
  What the laws on notifications ask besides: who was told; a notificati
  The program's notifications: who waits
-/
import Derived.Test.YtfgknbflgmblmaaZPm12
namespace Go.Proofs.Ytfgknbflgmblmaa
open Go.RowKit Pl Il Dr
set_option maxHeartbeats 2000000 in
theorem grantsOf_any (A : Na) (x : Nt) (w : World) (hI : NIn w A x) (hn' : A.n' ≤ 2097152) :
    Calls Try.prog 26 #[.agg #[.bool x.pm, .slice A.a A.n A.c, .slice A.a' A.n' A.c', .int .i64 x.on, .int .i64 x.sp, .int .i64 x.tk]] w fun e w' => ∃ (a' : Option Addr) (c' : Nat), e = .returned (.slice a' A.n' c') ∧ IntsAt w' a' A.n' (whosL x.gs) ∧ Below w.heap.size w w' := by
  generalize hW0 : w.alloc (.cells #[.bool x.pm, .slice A.a A.n A.c, .slice A.a' A.n' A.c', .int .i64 x.on, .int .i64 x.sp, .int .i64 x.tk] 27) = W0
  have b0 : Below w.heap.size w W0 := by subst hW0; exact bl_alloc (Below.refl _ _) _
  have x0 : NBox w.heap.size A x W0 := by subst hW0; exact NBox.new w A x _
  have HX := hidOf x0
  have HG := hidOf (hI.grs.keep b0)
  have HL := hidOf hI.grs.len
  have HB := hidOf b0
  clear hI b0 x0
  go_enter Try.func26, Try.ntmps26
  go_wp2_with fail
  clear hW0
  go_loopw [3, 4] (fun v i wr => ∃ k : Nat, k ≤ A.n' ∧ i = .int .i64 (k : Int) ∧ wr.ownsRow W0.heap.size 3 1 v k ((whosL (x.gs.take k)).map (Value.int .i64)) ∧ Below W0.heap.size W0 wr) (fun _ i _ => A.n' - (intOf i).toNat)
  case atStart => exact ⟨0, Nat.zero_le _, rfl, owns_empty W0, bl_alloc (Below.refl _ _) _⟩
  case round =>
    rename World => wr
    obtain ⟨k, hk, rfl, ho, hbr⟩ := hrel
    obtain ⟨_, p0, p1, p2, p3, p4, p5, pf⟩ := id (HX.out.keep hbr)
    by_cases hlt : k < A.n'
    · obtain ⟨hlen, h0 | ⟨b, off, e1, hb, hcell⟩⟩ := HG.out
      · omega
      have hc : wr.cell? ⟨b, off + k * 2, none⟩ = some (.int .i64 (gg x.gs k).1) := by rw [hbr.cell (p := ⟨b, off + k * 2, none⟩) hb]; exact (hcell k hlt).1
      have hsn : whosL (x.gs.take (k + 1)) = whosL (x.gs.take k) ++ [(gg x.gs k).1] := by rw [take_gg (by have := HL.out; omega), whos_snoc]
      obtain ⟨y1, hy⟩ : ∃ y, (gg x.gs k).1 = y := ⟨_, rfl⟩
      rw [hy] at hc hsn
      rw [e1] at p2
      obtain ⟨g', c', w', hr, ho', hb'⟩ := append_more W0.heap.size _ u3 _ y1 _ W0 rfl ho hbr (by omega)
      have Hr := hidOf hr
      have HSn := hidOf hsn
      have Ho' := hidOf ho'
      have Hb' := hidOf hb'
      have hki : (0 : Int) ≤ (k : Int) ∧ (k : Int) < (A.n' : Int) := by omega
      clear hy hcell hr ho ho' hb' hsn hlen hb e1
      go_wp2_with (at_builtin; refine wpList_append_run rfl _ _ 24 rfl _ _ _ rfl rfl Hr.out ?_)
      go_roundw
      case rel => exact ⟨k + 1, by omega, by go_num, by rw [HSn.out]; exact Ho'.out, Hb'.out⟩
      case measure => simp [intOf]; omega
    · obtain rfl : k = A.n' := by omega
      have hke : x.gs.take A.n' = x.gs := List.take_of_length_le (by rw [HL.out]; exact Nat.le_refl _)
      rw [hke] at ho
      obtain ⟨a', c', rfl, hO⟩ := own_of ho (whosL x.gs) rfl
      have HF := hidOf (And.intro hO.ints (bl_trans HB.out hbr))
      clear ho hO hbr hke
      go_wp2
      go_ret
      exact ⟨_, _, rfl, HF.out.1, HF.out.2⟩
theorem Dr.Bytes.laterN {w w' : World} {a : Option Addr} {len cap : Nat} (h : Bytes w.heap.size w a len cap) (hb : Below w.heap.size w w') (c : Nat) (hc : w.heap.size ≤ c) : Bytes c w' a len cap := by
  obtain ⟨hl, hm, h | ⟨b, off, rfl, hb', hn, hcell⟩⟩ := h
  · exact ⟨hl, hm, .inl h⟩
  · refine ⟨hl, hm, .inr ⟨b, off, rfl, Nat.lt_of_lt_of_le hb' hb.size, by omega, fun i hi => ?_⟩⟩
    rw [hb.cell (p := ⟨b, off + i, none⟩) hb']; exact hcell i hi
/-- A notification is drawn. -/
def NtD (w : World) (e : Ending) (w' : World) : Prop := ∃ (A : Na) (x : Nt), e = .returned (.agg #[.bool x.pm, .slice A.a A.n A.c, .slice A.a' A.n' A.c', .int .i64 x.on, .int .i64 x.sp, .int .i64 x.tk]) ∧ NRow w.heap.size w' A x ∧ lenN x ≤ 60 ∧ Below w.heap.size w w'
set_option maxHeartbeats 4000000 in
theorem drawTellOne_any (a : Option Addr) (len cap : Nat) (w : World) (hB : Bytes w.heap.size w a len cap) :
    Calls Try.prog 23 #[.slice a len cap] w fun e w' => NtD w e w' := by
  obtain ⟨W0, hW0⟩ : ∃ W, W = w.alloc (.cells #[.bool false, .slice none 0 0, .slice none 0 0, .int .i64 0, .int .i64 0, .int .i64 0] 27) := ⟨_, rfl⟩
  have b0 : Below w.heap.size w W0 := by rw [hW0]; exact bl_alloc (Below.refl _ _) _
  have r0 : NBox w.heap.size Na.zero Nt.zero W0 := by rw [hW0]; exact NBox.newZ w _
  have s0 : W0.heap.size = w.heap.size + 1 := by rw [hW0]; simp
  go_enter Try.func23, Try.ntmps23
  go_wp2_with fail
  rw [← hW0]
  clear hW0
  refine (new_any a len cap _ (hB.laterN b0 _ (by omega))).mono ?_
  rintro e w1 ⟨rfl, hC, hb1⟩
  have r1 := r0.keep hb1
  have hb := bl_trans b0 hb1
  have hlt1 := hC.lt
  have HC := hidOf hC
  have HS := hidOf s0
  clear hb1 b0 r0 hB hC s0
  go_wp2_with fail
  refine (l5Some_any a len cap _ _ HC.out).mono ?_
  rintro e w2 ⟨A, x, rfl, hrow, hcap, hle, hd⟩
  have hs := HS.out
  have r2 := r1.dr hd (by omega)
  have hB2 : Below w.heap.size w w2 := hb.trans (hd.ex.below (by omega) hb.size)
  have HO := hidOf ((hrow.otherN (grown6 w2 w.heap.size A x) (hrow.neN (by omega))).mono (B' := w.heap.size) (by omega))
  have HB2 := hidOf (bl_set6' hB2 w.heap.size (Nat.le_refl _) (.bool x.pm) (.slice A.a A.n A.c) (.slice A.a' A.n' A.c') (.int .i64 x.on) (.int .i64 x.sp) (.int .i64 x.tk))
  obtain ⟨_, q0, q1, q2, q3, q4, q5, qf⟩ := id r2
  clear hrow hcap hd r1 r2 hB2 hb HC HS hs
  go_wp2
  exact bodyPost_ret (v := .agg #[.bool x.pm, .slice A.a A.n A.c, .slice A.a' A.n' A.c', .int .i64 x.on, .int .i64 x.sp, .int .i64 x.tk]) (by simp [results, Try.results23, go_sem, q0, q1, q2, q3, q4, q5]) rfl ⟨A, x, rfl, HO.out, hle, HB2.out⟩
end Go.Proofs.Ytfgknbflgmblmaa
namespace Go.Proofs.Ytfgknbflgmblmaa
open Go.RowKit Go.Maps Pl Il
theorem place_nn {xs : List Int} {x : Int} (h : hasL xs x = true) : 0 ≤ placeL xs x := by
  obtain ⟨k, _, e⟩ := place_bound h
  omega
set_option maxRecDepth 100000 in
set_option maxHeartbeats 2000000 in
theorem implAwait_any (A : Na) (x : Nt) (who : Int) (w : World) (hI : NIn w A x) (hn : A.n ≤ 2097152) (hn' : A.n' ≤ 2097152) (hw : NWf x) (hx : (Lit.int .i64 who).wf = true) :
  Calls Try.prog 21 #[.agg #[.bool x.pm, .slice A.a A.n A.c, .slice A.a' A.n' A.c', .int .i64 x.on, .int .i64 x.sp, .int .i64 x.tk], .int .i64 who] w fun e w' => NOutP w (awaitM x who).1 [.int .i64 (awaitM x who).2] e w' := by
 have hC := nctx_new hI
 have s1 : ((w.alloc (.cells #[.bool x.pm, .slice A.a A.n A.c, .slice A.a' A.n' A.c', .int .i64 x.on, .int .i64 x.sp, .int .i64 x.tk] 27)).alloc (.cells #[.bool false, .slice none 0 0, .slice none 0 0, .int .i64 0, .int .i64 0, .int .i64 0] 27)).heap.size = w.heap.size + 2 := by simp
 have HL1 := hidOf hI.ints.len
 have HL2 := hidOf hI.grs.len
 have HCp := hidOf (copiedNotify_any A x _ hC.ninX hn hn')
 have HC := hidOf hC
 have S1 := hidOf s1
 clear hC s1 hI
 go_enter Try.func21, Try.ntmps21
 go_wp2_with fail
 refine (HCp.out).mono ?_
 rintro e w1 ⟨a1, c1, a2, c2, rfl, hR, hb1⟩
 rw [S1.out] at hR
 have hC1 := HC.out.kp hb1
 have hS := nsr_new hR hC1.sz
 generalize hW2 : w1.alloc (.cells #[.bool x.pm, .slice a1 A.n c1, .slice a2 A.n' c2, .int .i64 x.on, .int .i64 x.sp, .int .i64 x.tk] 27) = W2
 have hb2 : Below w1.heap.size w1 W2 := by subst hW2; exact bl_alloc (Below.refl _ _) _
 simp only at hS
 rw [hW2] at hS
 have hC2 := hC1.kp hb2
 obtain ⟨_, p0, p1, p2, p3, p4, p5, _⟩ := id hC2.box0
 have HS := hidOf hS
 have HC2 := hidOf hC2
 clear hR hb1 hC1 hb2 hC2 hS HC HCp
 go_wp2_with fail
 refine (implNotifyOk_any A x _ HC2.out.ninX hn hn' hw).mono ?_
 rintro e w3 ⟨rfl, hb3⟩
 have hC := HC2.out.kp hb3
 have hS := HS.out.keep hb3
 clear p0 p1 p2 p3 p4 p5 hW2 hb3 HS HC2
 obtain ⟨A1, hA1⟩ : ∃ A1 : Na, A1 = ⟨a1, A.n, c1, a2, A.n', c2⟩ := ⟨_, rfl⟩
 rw [← hA1] at hS
 have hAn : A1.n = A.n ∧ A1.n' = A.n' := by rw [hA1]; exact ⟨rfl, rfl⟩
 have HAn := hidOf hAn
 clear hA1 hAn
 generalize hN : w1.heap.size = N at *
 clear hN
 obtain ⟨_, p0, p1, p2, p3, p4, p5, _⟩ := id hC.box0
 have HC := hidOf hC
 have HS := hidOf hS
 clear hC hS
 cases hok : okN x
 ·clear p0 p1 p2 p3 p4 p5
  obtain ⟨_, z0, z1, z2, z3, z4, z5, _⟩ := id (HS.out).box
  obtain ⟨_, r0, r1, r2, r3, r4, r5, rf⟩ := id (HC.out).box1
  have HF := hidOf (nsr_fin (HC.out) ((HS.out)).rows)
  have HR := hidOf (show awaitM x who = (x, 1) by unfold awaitM; rw [if_pos (.inl hok)])
  clear hok HC HS
  go_wp2
  refine bodyPost_ret (v := .tuple #[.agg #[.bool x.pm, .slice A1.a A1.n A1.c, .slice A1.a' A1.n' A1.c', .int .i64 x.on, .int .i64 x.sp, .int .i64 x.tk], .int .i64 1]) (by simp [results, Try.results21, go_sem, r0, r1, r2, r3, r4, r5]) rfl ?_
  rw [HR.out]
  exact ⟨A1, rfl, HF.out⟩
 ·obtain ⟨k1, kg, k3, k4, k5, k6, k7, k8⟩ := okN_parts hok
  have HK8 := hidOf k8
  clear k8
  rw [HL1.out] at k3
  rw [HL2.out] at k4
  have HOK := hidOf hok
  have HK1 := hidOf k1
  have HKg := hidOf (nodup_line kg)
  clear hok k1 kg
  go_wp2_with fail
  refine (isClient_any who _).mono ?_
  rintro e w4 ⟨rfl, rfl⟩
  cases hcl : clientL who
  ·clear p0 p1 p2 p3 p4 p5
   obtain ⟨_, z0, z1, z2, z3, z4, z5, _⟩ := id (HS.out).box
   obtain ⟨_, r0, r1, r2, r3, r4, r5, rf⟩ := id (HC.out).box1
   have HF := hidOf (nsr_fin (HC.out) ((HS.out)).rows)
   have HR := hidOf (show awaitM x who = (x, 1) by unfold awaitM; rw [if_pos (.inr hcl)])
   clear hcl HC HS
   go_wp2
   refine bodyPost_ret (v := .tuple #[.agg #[.bool x.pm, .slice A1.a A1.n A1.c, .slice A1.a' A1.n' A1.c', .int .i64 x.on, .int .i64 x.sp, .int .i64 x.tk], .int .i64 1]) (by simp [results, Try.results21, go_sem, r0, r1, r2, r3, r4, r5]) rfl ?_
   rw [HR.out]
   exact ⟨A1, rfl, HF.out⟩
  ·go_wp2_with fail
   refine (grantOf_any A.a' A.n' A.c' x.gs who _ HC.out.ninX.grs hn').mono ?_
   rintro e w5 ⟨rfl, hb5⟩
   have hC5 := HC.out.kp hb5
   have hS5 := HS.out.keep hb5
   clear HC HS hb5 p0 p1 p2 p3 p4 p5
   cases hh2 : hasL (whosL x.gs) who
   ·rw [find_none hh2]
    unfold grRes
    simp only [Option.isSome]
    have P1 : ∀ o, (w5.alloc o).cell? ⟨w.heap.size, 1, none⟩ = some (.slice A.a A.n A.c) := fun o => (hC5.box0.alloc o).c1
    go_wp2_with fail
    clear P1
    generalize hW6 : w5.alloc (.cells #[.int .i64 0, .bool false] 44) = W6
    have b6 : Below w5.heap.size w5 W6 := by subst hW6; exact bl_alloc (Below.refl _ _) _
    have hC6 := hC5.kp b6
    have hS6 := hS5.keep b6
    obtain ⟨_, p0, p1, p2, p3, p4, p5, _⟩ := id hC6.box0
    have HC := hidOf hC6
    have HS := hidOf hS6
    clear hW6 hC5 hS5 b6 hC6 hS6
    refine (implPlaceOf_any A.a A.n A.c x.ln who _ HC.out.ninX.ints hn hw.ln hx).mono ?_
    rintro e w7 ⟨rfl, hb7⟩
    have hC7 := HC.out.kp hb7
    have hS7 := HS.out.keep hb7
    clear HC HS hb7 p0 p1 p2 p3 p4 p5
    obtain ⟨_, p0, p1, p2, p3, p4, p5, _⟩ := id hC7.box0
    have HC := hidOf hC7
    have HS := hidOf hS7
    clear hC7 hS7
    cases hh1 : hasL x.ln who
    ·rw [place_minus hh1]
     by_cases t1 : x.tk = 1000000000
     ·have t1' : (x.tk == 1000000000) = true := by simp [t1]
      obtain ⟨_, z0, z1, z2, z3, z4, z5, _⟩ := id (HS.out).box
      obtain ⟨_, r0, r1, r2, r3, r4, r5, rf⟩ := id (HC.out).box1
      have HF := hidOf (nsr_fin (HC.out) ((HS.out)).rows)
      have HR := hidOf (show awaitM x who = (x, 2) by unfold awaitM; rw [if_neg (by rw [HOK.out, hcl]; simp), if_neg (by unfold toldL; rw [hh1, hh2]; simp), if_pos (.inl (by omega))])
      clear HC HS t1
      go_wp2
      refine bodyPost_ret (v := .tuple #[.agg #[.bool x.pm, .slice A1.a A1.n A1.c, .slice A1.a' A1.n' A1.c', .int .i64 x.on, .int .i64 x.sp, .int .i64 x.tk], .int .i64 2]) (by simp [results, Try.results21, go_sem, r0, r1, r2, r3, r4, r5]) rfl ?_
      rw [HR.out]
      exact ⟨A1, rfl, HF.out⟩
     ·have t1' : (x.tk == 1000000000) = false := by simp [t1]
      cases hpm : x.pm
      ·by_cases t3 : A.n = 32
       ·have t3' : ((A.n : Int) == 32) = true := by simp; omega
        obtain ⟨_, z0, z1, z2, z3, z4, z5, _⟩ := id (HS.out).box
        obtain ⟨_, r0, r1, r2, r3, r4, r5, rf⟩ := id (HC.out).box1
        have HF := hidOf (nsr_fin (HC.out) ((HS.out)).rows)
        have HR := hidOf (show awaitM x who = (x, 2) by unfold awaitM; rw [if_neg (by rw [HOK.out, hcl]; simp), if_neg (by unfold toldL; rw [hh1, hh2]; simp), if_pos (.inr ⟨hpm, by rw [HL1.out]; omega⟩)])
        clear HC HS t3
        rw [hpm] at HF
        go_wp2
        refine bodyPost_ret (v := .tuple #[.agg #[.bool x.pm, .slice A1.a A1.n A1.c, .slice A1.a' A1.n' A1.c', .int .i64 x.on, .int .i64 x.sp, .int .i64 x.tk], .int .i64 2]) (by simp [results, Try.results21, go_sem, r0, r1, r2, r3, r4, r5, hpm]) rfl ?_
        rw [HR.out]
        exact ⟨A1, rfl, HF.out⟩
       ·have t3' : ((A.n : Int) == 32) = false := by simp; omega
        have hf : ¬ (1000000000 ≤ x.tk ∨ x.pm = false ∧ 32 ≤ x.ln.length) := by rw [HL1.out]; rintro (h | ⟨_, h⟩) <;> omega
        obtain ⟨g', c', w', hr, ho', hg, hl⟩ := append_own1 (w.heap.size + 2) A1.n _ x.ln who w7 HS.out.rows.one HC.out.sz (by have := HAn.out; omega)
        obtain ⟨hbx, hS2⟩ := HS.out.join ho' hg hl
        have hCg : Below (w.heap.size + 2) w7 (w'.setCell ⟨N, 1, none⟩ (.slice (some ⟨g', 0, none⟩) (A1.n + 1) c')) := bl_set1' ((Below.refl _ _).grown hg HC.out.sz (fun q e => (HS.out.rows.one.lt q e).1)) N 1 HS.out.ge _
        have hC2 := HC.out.keep hCg (Nat.le_refl _)
        obtain ⟨_, y0, y1, y2, y3, y4, y5, yf⟩ := id HS.out.box
        obtain ⟨_, u0, u1, u2, u3, u4, u5, uf⟩ := id hbx
        have HRes := hidOf (show awaitM x who = ({ x with ln := x.ln ++ [who] }, 4) by unfold awaitM; rw [if_neg (by rw [HOK.out, hcl]; simp), if_neg (by unfold toldL; rw [hh1, hh2]; simp), if_neg hf, if_neg (by rw [hpm]; simp)])
        have Hr := hidOf hr
        have dq : ∀ o, (w7.alloc o).cell? ⟨N, 1, none⟩ = some (.slice A1.a A1.n A1.c) := fun o => by rw [World.cell?_alloc_old _ _ _ (Nat.ne_of_lt (World.block_lt_of_cell? w7 _ y1))]; exact y1
        obtain ⟨_, z0, z1, z2, z3, z4, z5, _⟩ := id (hS2).box
        obtain ⟨_, r0, r1, r2, r3, r4, r5, rf⟩ := id (hC2).box1
        have HF := hidOf (nsr_fin (hC2) ((hS2)).rows)
        have HR := hidOf (HRes.out)
        clear HC HS hS2 hC2 hCg hbx hr ho' hg hl HRes hf t3
        simp only at HF z0 z1 z2 z3 z4 z5
        rw [hpm] at HF
        go_wp2_with (at_builtin; refine wpList_append_run rfl _ _ 24 rfl _ _ _ rfl rfl Hr.out ?_)
        refine bodyPost_ret (v := .tuple #[.agg #[.bool x.pm, .slice (some ⟨g', 0, none⟩) (A1.n + 1) c', .slice A1.a' A1.n' A1.c', .int .i64 x.on, .int .i64 x.sp, .int .i64 x.tk], .int .i64 4]) (by simp [results, Try.results21, go_sem, r0, r1, r2, r3, r4, r5, hpm]) rfl ?_
        rw [HR.out]
        exact ⟨⟨some ⟨g', 0, none⟩, A1.n + 1, c', A1.a', A1.n', A1.c'⟩, rfl, by simp only; rw [hpm]; exact HF.out⟩
      ·have hS2 := HS.out.setc (y := { x with pm := false }) 0 (.bool false) (HS.out.box.set0 (b := false)) rfl rfl
       have hS3 := hS2.setc (y := { x with pm := false, tk := x.tk + 1 }) 5 (.int .i64 (x.tk + 1)) (hS2.box.set5 (v := x.tk + 1)) rfl rfl
       have hC3 := HC.out.keep (HS.out.below (HS.out.below (Below.refl (w.heap.size + 2) w7) 0 (.bool false)) 5 (.int .i64 (x.tk + 1))) (Nat.le_refl _)
       obtain ⟨_, y0, y1, y2, y3, y4, y5, yf⟩ := id HS.out.box
       obtain ⟨_, v0, v1, v2, v3, v4, v5, vf⟩ := id hS2.box
       simp only at v0 v1 v2 v3 v4 v5
       have HRes := hidOf (show awaitM x who = ({ x with pm := false, tk := x.tk + 1 }, 0) by unfold awaitM; rw [if_neg (by rw [HOK.out, hcl]; simp), if_neg (by unfold toldL; rw [hh1, hh2]; simp), if_neg (by rw [hpm]; simp; omega), if_pos hpm])
       obtain ⟨_, z0, z1, z2, z3, z4, z5, _⟩ := id (hS3).box
       obtain ⟨_, r0, r1, r2, r3, r4, r5, rf⟩ := id (hC3).box1
       have HF := hidOf (nsr_fin (hC3) ((hS3)).rows)
       simp only at z0 z1 z2 z3 z4 z5 HF
       have HR := hidOf (HRes.out)
       clear HC HS hS2 hS3 hC3 HRes
       go_wp2
       refine bodyPost_ret (v := .tuple #[.agg #[.bool false, .slice A1.a A1.n A1.c, .slice A1.a' A1.n' A1.c', .int .i64 x.on, .int .i64 x.sp, .int .i64 (x.tk + 1)], .int .i64 0]) (by simp [results, Try.results21, go_sem, r0, r1, r2, r3, r4, r5]) rfl ?_
       rw [HR.out]
       exact ⟨A1, rfl, HF.out⟩
    ·have hp := place_nn hh1
     generalize hpl : placeL x.ln who = pl at hp
     clear hpl
     have hp' : ¬ pl < 0 := by omega
     obtain ⟨_, z0, z1, z2, z3, z4, z5, _⟩ := id (HS.out).box
     obtain ⟨_, r0, r1, r2, r3, r4, r5, rf⟩ := id (HC.out).box1
     have HF := hidOf (nsr_fin (HC.out) ((HS.out)).rows)
     have HR := hidOf (show awaitM x who = (x, 5) by unfold awaitM toldL; rw [if_neg (by rw [HOK.out, hcl]; simp), if_pos (.inl hh1)])
     clear HC HS 
     go_wp2
     refine bodyPost_ret (v := .tuple #[.agg #[.bool x.pm, .slice A1.a A1.n A1.c, .slice A1.a' A1.n' A1.c', .int .i64 x.on, .int .i64 x.sp, .int .i64 x.tk], .int .i64 5]) (by simp [results, Try.results21, go_sem, r0, r1, r2, r3, r4, r5]) rfl ?_
     rw [HR.out]
     exact ⟨A1, rfl, HF.out⟩
   ·generalize hW6 : w5.alloc (.cells #[.int .i64 who, .bool (oneOf x.gs who)] 44) = W6
    have b6 : Below w5.heap.size w5 W6 := by subst hW6; exact bl_alloc (Below.refl _ _) _
    have hC6 := hC5.kp b6
    have hS6 := hS5.keep b6
    obtain ⟨_, p0, p1, p2, p3, p4, p5, _⟩ := id hC6.box0
    have HC := hidOf hC6
    have HS := hidOf hS6
    clear hC5 hS5 b6 hC6 hS6
    rw [find_one HKg.out hh2]
    unfold grRes
    simp only [Option.isSome]
    obtain ⟨_, z0, z1, z2, z3, z4, z5, _⟩ := id (HS.out).box
    obtain ⟨_, r0, r1, r2, r3, r4, r5, rf⟩ := id (HC.out).box1
    have HF := hidOf (nsr_fin (HC.out) ((HS.out)).rows)
    have HR := hidOf (show awaitM x who = (x, 5) by unfold awaitM toldL; rw [if_neg (by rw [HOK.out, hcl]; simp), if_pos (.inr hh2)])
    clear HC HS 
    go_wp2
    refine bodyPost_ret (v := .tuple #[.agg #[.bool x.pm, .slice A1.a A1.n A1.c, .slice A1.a' A1.n' A1.c', .int .i64 x.on, .int .i64 x.sp, .int .i64 x.tk], .int .i64 5]) (by simp [results, Try.results21, go_sem, r0, r1, r2, r3, r4, r5]) rfl ?_
    rw [HR.out]
    exact ⟨A1, rfl, HF.out⟩
end Go.Proofs.Ytfgknbflgmblmaa
