/-
  Walks of the specification's notifications: who goes on
  The specification's draws: a notification's variable while it is drawn
  Plain mathematics of a notification that nobody waits at: two tellings
-/
import Derived.Test.YtfgknbflgmblmaaZPm8
import Derived.Deep.CutRange
namespace Go.Proofs.Ytfgknbflgmblmaa
open Go.RowKit Pl Il
set_option maxRecDepth 100000 in
set_option maxHeartbeats 2000000 in
theorem specResume_anyR (A : Na) (x : Nt) (who : Int) (w : World) (hI : NIn w A x) (hn : A.n ≤ 2097152) (hn' : A.n' ≤ 2097152) (hok : A.n ≤ A.c) :
  Calls Try.prog 18 #[.agg #[.bool x.pm, .slice A.a A.n A.c, .slice A.a' A.n' A.c', .int .i64 x.on, .int .i64 x.sp, .int .i64 x.tk], .int .i64 who] w fun e w' => NOutR w (resumeM x who).1 [.int .i64 (resumeM x who).2] e w' := by
 have hC := nctx_new hI
 have s1 : ((w.alloc (.cells #[.bool x.pm, .slice A.a A.n A.c, .slice A.a' A.n' A.c', .int .i64 x.on, .int .i64 x.sp, .int .i64 x.tk] 27)).alloc (.cells #[.bool false, .slice none 0 0, .slice none 0 0, .int .i64 0, .int .i64 0, .int .i64 0] 27)).heap.size = w.heap.size + 2 := by simp
 have HL1 := hidOf hI.ints.len
 have HL2 := hidOf hI.grs.len
 have HCp := hidOf (l5Copy_any A x _ hC.ninX hn hn')
 have HC := hidOf hC
 have S1 := hidOf s1
 clear hC s1 hI
 go_enter Try.func18, Try.ntmps18
 go_wp2_with fail
 refine (HCp.out).mono ?_
 rintro e w1 ⟨a1, c1, a2, c2, rfl, hR, hb1⟩
 rw [S1.out] at hR
 have hC1 := HC.out.kp hb1
 have hS := nsr_new hR hC1.sz
 generalize hW2 : w1.alloc (.cells #[.bool x.pm, .slice a1 A.n c1, .slice a2 A.n' c2, .int .i64 x.on, .int .i64 x.sp, .int .i64 x.tk] 27) = W2
 have hb2 : Below w1.heap.size w1 W2 := by subst hW2; exact bl_alloc (Below.refl _ _) _
 simp only at hS
 rw [hW2] at hS
 have hC2 := hC1.kp hb2
 obtain ⟨_, p0, p1, p2, p3, p4, p5, _⟩ := id hC2.box0
 have HS := hidOf hS
 have HC2 := hidOf hC2
 clear hR hb1 hC1 hb2 hC2 hS HC HCp
 go_wp2_with fail
 refine (l5At_any A.a' A.n' A.c' x.gs who _ HC2.out.ninX.grs hn').mono ?_
 rintro e w2b ⟨rfl, rfl⟩
 go_wp2_with fail
 refine (specNotifyOk_any A x _ HC2.out.ninX hn hn' hok).mono ?_
 rintro e w3 ⟨rfl, hb3⟩
 have hC := HC2.out.kp hb3
 have hS := HS.out.keep hb3
 clear p0 p1 p2 p3 p4 p5 hW2 hb3 HS HC2
 obtain ⟨A1, hA1⟩ : ∃ A1 : Na, A1 = ⟨a1, A.n, c1, a2, A.n', c2⟩ := ⟨_, rfl⟩
 rw [← hA1] at hS
 have hAn : A1.n = A.n ∧ A1.n' = A.n' := by rw [hA1]; exact ⟨rfl, rfl⟩
 have HAn := hidOf hAn
 clear hA1 hAn
 generalize hN : w1.heap.size = N at *
 clear hN
 obtain ⟨_, p0, p1, p2, p3, p4, p5, _⟩ := id hC.box0
 obtain ⟨_, z0, z1, z2, z3, z4, z5, zf⟩ := id hS.box
 have HC := hidOf hC
 have HS := hidOf hS
 have HIX := hidOf hC.ninX
 clear hC hS
 cases hokx : okN x
 ·obtain ⟨_, r0, r1, r2, r3, r4, r5, rf⟩ := id HC.out.box1
  have HF := hidOf (nsr_finR (A' := A1) (y := x) HC.out HS.out.rows)
  have HR := hidOf (show resumeM x who = (x, 1) by unfold resumeM; rw [if_pos hokx])
  clear HC HS hokx
  go_wp2
  refine bodyPost_ret (v := .tuple #[.agg #[.bool x.pm, .slice A1.a A1.n A1.c, .slice A1.a' A1.n' A1.c', .int .i64 x.on, .int .i64 x.sp, .int .i64 x.tk], .int .i64 1]) (by simp [results, Try.results18, go_sem, r0, r1, r2, r3, r4, r5]) rfl ?_
  rw [HR.out]
  exact ⟨A1, rfl, HF.out⟩
 ·obtain ⟨k1, kg, k3, k4, k5, k6, k7, k8⟩ := okN_parts hokx
  have HK8 := hidOf k8
  clear k8
  rw [HL1.out] at k3
  rw [HL2.out] at k4
  have HOK := hidOf hokx
  have HK1 := hidOf k1
  clear hokx k1
  have HKg := hidOf (nodup_line kg)
  clear kg
  go_wp2_with fail
  refine (l2Has_any A.a A.n A.c x.ln who _ HIX.out.ints hn).mono ?_
  rintro e w6 ⟨rfl, rfl⟩
  cases hh1 : hasL x.ln who
  ·cases hh2 : hasL (whosL x.gs) who
   ·rw [place_minus hh2]
    obtain ⟨_, r0, r1, r2, r3, r4, r5, rf⟩ := id HC.out.box1
    have HF := hidOf (nsr_finR (A' := A1) (y := x) HC.out HS.out.rows)
    have HR := hidOf (show resumeM x who = (x, 3) by unfold resumeM; rw [if_neg (by rw [HOK.out]; simp), if_neg (by rw [hh1]; simp), if_pos (by unfold toldL; exact hh2)])
    clear HC HS
    go_wp2
    refine bodyPost_ret (v := .tuple #[.agg #[.bool x.pm, .slice A1.a A1.n A1.c, .slice A1.a' A1.n' A1.c', .int .i64 x.on, .int .i64 x.sp, .int .i64 x.tk], .int .i64 3]) (by simp [results, Try.results18, go_sem, r0, r1, r2, r3, r4, r5]) rfl ?_
    rw [HR.out]
    exact ⟨A1, rfl, HF.out⟩
   ·obtain ⟨pk, hpl, hpk⟩ := place_bound hh2
    rw [hpk]
    obtain ⟨_, h' | ⟨gb, goff, gea, _, gcell⟩⟩ := HIX.out.grs
    ·rw [whos_len, HL2.out, h'] at hpl; omega
    have hplg : pk < x.gs.length := by rw [whos_len] at hpl; exact hpl
    have hgc := (gcell pk (by rw [← HL2.out]; exact hplg)).2
    rw [gg_who HKg.out hplg hpk] at hgc
    simp only at hgc
    rw [gea] at p2
    have hji : (0 : Int) ≤ (pk : Int) ∧ (pk : Int) < (A.n' : Int) := by rw [HL2.out] at hplg; omega
    have hp' : ¬ (pk : Int) < 0 := by omega
    have HDl := hidOf (dropTo_less HKg.out hpk x.gs.length (Nat.le_refl _))
    rw [List.take_length] at HDl
    have Gea := hidOf gea
    have HPk := hidOf hpk
    clear gcell gea hpk hpl
    cases hone : oneOf x.gs who
    ·rw [hone] at hgc
     have HRes := hidOf (show resumeM x who = ({ x with gs := lessG x.gs who, tk := x.tk }, 0) by
      unfold resumeM
      rw [if_neg (by rw [HOK.out]; simp), if_neg (by rw [hh1]; simp), if_neg (by unfold toldL; rw [hh2]; simp), if_neg (by rw [hone]; simp), hone]
      simp [permI])
     have hS2 := HS.out
     have hC2 := HC.out
     have HS2 := hidOf hS2
     have HC2 := hidOf hC2
     clear HS HC hS2 hC2
     go_wp2_with fail
     refine (l5Drop_any (w.heap.size + 2) A1 x (pk : Int) _ HS2.out.rows HC2.out.sz (by have := HAn.out; omega)).mono ?_
     rintro e w9 ⟨a9, m9, c9, rfl, hR9, hb9⟩
     have hC9 := HC2.out.kp hb9
     try simp only at hR9
     rw [HDl.out] at hR9
     obtain ⟨_, r0, r1, r2, r3, r4, r5, rf⟩ := id hC9.box1
     have HF := hidOf (nsr_finR (A' := ⟨A1.a, A1.n, A1.c, a9, m9, c9⟩) (y := { x with gs := lessG x.gs who, tk := x.tk }) hC9 hR9)
     have HR := hidOf (HRes.out)
     clear HS2 HC2 HRes hC9 hR9 hb9 HDl
     go_wp2
     refine bodyPost_ret (v := .tuple #[.agg #[.bool x.pm, .slice A1.a A1.n A1.c, .slice a9 m9 c9, .int .i64 x.on, .int .i64 x.sp, .int .i64 x.tk], .int .i64 0]) (by simp [results, Try.results18, go_sem, r0, r1, r2, r3, r4, r5]) rfl ?_
     rw [HR.out]
     exact ⟨⟨A1.a, A1.n, A1.c, a9, m9, c9⟩, rfl, HF.out⟩
    ·rw [hone] at hgc
     by_cases t1 : (1000000000 : Int) ≤ x.tk
     ·obtain ⟨_, r0, r1, r2, r3, r4, r5, rf⟩ := id HC.out.box1
      have HF := hidOf (nsr_finR (A' := A1) (y := x) HC.out HS.out.rows)
      have HR := hidOf (show resumeM x who = (x, 2) by unfold resumeM; rw [if_neg (by rw [HOK.out]; simp), if_neg (by rw [hh1]; simp), if_neg (by unfold toldL; rw [hh2]; simp), if_pos ⟨hone, t1⟩])
      clear HC HS
      go_wp2
      refine bodyPost_ret (v := .tuple #[.agg #[.bool x.pm, .slice A1.a A1.n A1.c, .slice A1.a' A1.n' A1.c', .int .i64 x.on, .int .i64 x.sp, .int .i64 x.tk], .int .i64 2]) (by simp [results, Try.results18, go_sem, r0, r1, r2, r3, r4, r5]) rfl ?_
      rw [HR.out]
      exact ⟨A1, rfl, HF.out⟩
     ·have HRes := hidOf (show resumeM x who = ({ x with gs := lessG x.gs who, tk := (x.tk + 1) }, 0) by
       unfold resumeM
       rw [if_neg (by rw [HOK.out]; simp), if_neg (by rw [hh1]; simp), if_neg (by unfold toldL; rw [hh2]; simp), if_neg (by rw [hone]; simp; omega), hone]
       simp [permI])
      have hS2 := HS.out.setc (y := { x with tk := x.tk + 1 }) 5 (.int .i64 (x.tk + 1)) (HS.out.box.set5 (v := x.tk + 1)) rfl rfl
      have hC2 := HC.out.keep (HS.out.below (Below.refl (w.heap.size + 2) w6) 5 (.int .i64 (x.tk + 1))) (Nat.le_refl _)
      obtain ⟨_, v0, v1, v2, v3, v4, v5, vf⟩ := id hS2.box
      simp only at v0 v1 v2 v3 v4 v5
      have HS2 := hidOf hS2
      have HC2 := hidOf hC2
      clear HS HC hS2 hC2
      go_wp2_with fail
      refine (l5Drop_any (w.heap.size + 2) A1 { x with tk := x.tk + 1 } (pk : Int) _ HS2.out.rows HC2.out.sz (by have := HAn.out; omega)).mono ?_
      rintro e w9 ⟨a9, m9, c9, rfl, hR9, hb9⟩
      have hC9 := HC2.out.kp hb9
      try simp only at hR9
      rw [HDl.out] at hR9
      obtain ⟨_, r0, r1, r2, r3, r4, r5, rf⟩ := id hC9.box1
      have HF := hidOf (nsr_finR (A' := ⟨A1.a, A1.n, A1.c, a9, m9, c9⟩) (y := { x with gs := lessG x.gs who, tk := (x.tk + 1) }) hC9 hR9)
      have HR := hidOf (HRes.out)
      clear HS2 HC2 HRes hC9 hR9 hb9 HDl
      go_wp2
      refine bodyPost_ret (v := .tuple #[.agg #[.bool x.pm, .slice A1.a A1.n A1.c, .slice a9 m9 c9, .int .i64 x.on, .int .i64 x.sp, .int .i64 (x.tk + 1)], .int .i64 0]) (by simp [results, Try.results18, go_sem, r0, r1, r2, r3, r4, r5]) rfl ?_
      rw [HR.out]
      exact ⟨⟨A1.a, A1.n, A1.c, a9, m9, c9⟩, rfl, HF.out⟩
  ·obtain ⟨_, r0, r1, r2, r3, r4, r5, rf⟩ := id HC.out.box1
   have HF := hidOf (nsr_finR (A' := A1) (y := x) HC.out HS.out.rows)
   have HR := hidOf (show resumeM x who = (x, 4) by unfold resumeM; rw [if_neg (by rw [HOK.out]; simp), if_pos hh1])
   clear HC HS
   go_wp2
   refine bodyPost_ret (v := .tuple #[.agg #[.bool x.pm, .slice A1.a A1.n A1.c, .slice A1.a' A1.n' A1.c', .int .i64 x.on, .int .i64 x.sp, .int .i64 x.tk], .int .i64 4]) (by simp [results, Try.results18, go_sem, r0, r1, r2, r3, r4, r5]) rfl ?_
   rw [HR.out]
   exact ⟨A1, rfl, HF.out⟩
end Go.Proofs.Ytfgknbflgmblmaa
namespace Go.Proofs.Ytfgknbflgmblmaa
open Go.RowKit Pl Il Dr
theorem drawn_keepN {c : Nat} {a : Option Addr} {len cap : Nat} {w u u' : World} (h : Drawn c a len cap w u) (hb : Below u.heap.size u u') : Drawn c a len cap w u' := ⟨h.cur.keep hb, h.ex.trans (Ex.of hb)⟩
theorem NBox.dr {N : Nat} {A : Na} {x : Nt} {c : Nat} {a : Option Addr} {len cap : Nat} {u u' : World} (h : NBox N A x u) (hd : Drawn c a len cap u u') (hn : N ≠ c) : NBox N A x u' := h.grown hd.ex hn
/-- Both lists lie elsewhere than in block N; below R. -/
def apartN (A : Na) (N : Nat) : Prop := (Value.slice A.a A.n A.c).ownBlock ≠ some N ∧ (Value.slice A.a' A.n' A.c').ownBlock ≠ some N
def underN (A : Na) (R : Nat) : Prop := (∀ q, (Value.slice A.a A.n A.c).ownBlock = some q → q < R) ∧ (∀ q, (Value.slice A.a' A.n' A.c').ownBlock = some q → q < R)
theorem NRow.otherN {B b : Nat} {w w' : World} {A : Na} {x : Nt} (h : NRow B w A x) (hg : w.grownBy w' (some b)) (hn : apartN A b) : NRow B w' A x :=
  ⟨grow_far h.one hg (fun q e => by cases e; exact hn.1), grow_far h.two hg (fun q e => by cases e; exact hn.2)⟩
theorem NRow.neN {B N : Nat} {w : World} {A : Na} {x : Nt} (h : NRow B w A x) (hN : N < B) : apartN A N :=
  ⟨fun e => by have := (h.one.lt N e).1; omega, fun e => by have := (h.two.lt N e).1; omega⟩
theorem NRow.under {B : Nat} {w : World} {A : Na} {x : Nt} (h : NRow B w A x) : underN A w.heap.size :=
  ⟨fun q e => (h.one.lt q e).2, fun q e => (h.two.lt q e).2⟩
theorem underN.ne {A : Na} {R M : Nat} (h : underN A R) (hM : R ≤ M) : apartN A M :=
  ⟨fun e => by have := h.1 M e; omega, fun e => by have := h.2 M e; omega⟩
theorem grow1 {w w' : World} {b : Nat} (h : w.grownBy w' (some b)) (o : Nat) (x : Value) : w.grownBy (w'.setCell ⟨b, o, none⟩ x) (some b) :=
  ⟨h.os, h.tape, h.output, by simpa using h.size, fun k hk hne => by
    rw [Below.heap_setCell w' ⟨b, o, none⟩ x k (by rintro rfl; exact hne rfl)]
    exact h.block k hk hne⟩
theorem grown6 (u : World) (M : Nat) (A : Na) (y : Nt) : u.grownBy (((((((u).setCell ⟨M, 0, none⟩ (.bool y.pm)).setCell ⟨M, 1, none⟩ (.slice A.a A.n A.c)).setCell ⟨M, 2, none⟩ (.slice A.a' A.n' A.c')).setCell ⟨M, 3, none⟩ (.int .i64 y.on)).setCell ⟨M, 4, none⟩ (.int .i64 y.sp)).setCell ⟨M, 5, none⟩ (.int .i64 y.tk)) (some M) :=
  grow1 (grow1 (grow1 (grow1 (grow1 (grow1 ⟨rfl, rfl, rfl, Nat.le_refl _, fun _ _ _ => rfl⟩ 0 _) 1 _) 2 _) 3 _) 4 _) 5 _
theorem Drawn.store6 {c : Nat} {a : Option Addr} {len cap : Nat} {w u : World} (h : Drawn c a len cap w u) (hC : Cur c a len cap w) (M : Nat) (hM : w.heap.size ≤ M) (A : Na) (y : Nt) : Drawn c a len cap w (((((((u).setCell ⟨M, 0, none⟩ (.bool y.pm)).setCell ⟨M, 1, none⟩ (.slice A.a A.n A.c)).setCell ⟨M, 2, none⟩ (.slice A.a' A.n' A.c')).setCell ⟨M, 3, none⟩ (.int .i64 y.on)).setCell ⟨M, 4, none⟩ (.int .i64 y.sp)).setCell ⟨M, 5, none⟩ (.int .i64 y.tk)) :=
  (((((h.store hC ⟨M, 0, none⟩ hM _).store hC ⟨M, 1, none⟩ hM _).store hC ⟨M, 2, none⟩ hM _).store hC ⟨M, 3, none⟩ hM _).store hC ⟨M, 4, none⟩ hM _).store hC ⟨M, 5, none⟩ hM _
theorem NBox.put6 {N : Nat} {A A' : Na} {x y : Nt} {u : World} (h : NBox N A x u) : NBox N A' y (((((((u).setCell ⟨N, 0, none⟩ (.bool y.pm)).setCell ⟨N, 1, none⟩ (.slice A'.a A'.n A'.c)).setCell ⟨N, 2, none⟩ (.slice A'.a' A'.n' A'.c')).setCell ⟨N, 3, none⟩ (.int .i64 y.on)).setCell ⟨N, 4, none⟩ (.int .i64 y.sp)).setCell ⟨N, 5, none⟩ (.int .i64 y.tk)) := by
  have k := (((((h.set0 (b := y.pm)).set1 (a := A'.a) (n := A'.n) (c := A'.c)).set2 (a := A'.a') (n := A'.n') (c := A'.c')).set3 (v := y.on)).set4 (v := y.sp)).set5 (v := y.tk)
  exact ⟨k.lt, k.c0, k.c1, k.c2, k.c3, k.c4, k.c5, k.fr⟩
/-- A notification's variable in block N; its lists lie behind it, below R. -/
structure NKv (c : Nat) (a : Option Addr) (len cap : Nat) (w : World) (N R : Nat) (A : Na) (x : Nt) (u : World) : Prop where
  dr : Drawn c a len cap w u
  box : NBox N A x u
  own : NRow (w.heap.size + 1) u A x
  apn : apartN A N
  hR : underN A R
  cap' : A.n ≤ A.c
  hN : w.heap.size < N
  cur : Cur c a len cap w
  le : R ≤ u.heap.size
  lt : N < R
  res : NBox w.heap.size Na.zero Nt.zero u
abbrev NKS (c : Nat) (a : Option Addr) (len cap : Nat) (w : World) (N R : Nat) (A : Na) (x : Nt) (u : World) : Prop :=
  u.cell? ⟨N, 0, none⟩ = some (.bool x.pm) ∧ u.cell? ⟨N, 1, none⟩ = some (.slice A.a A.n A.c) ∧ u.cell? ⟨N, 2, none⟩ = some (.slice A.a' A.n' A.c') ∧ u.cell? ⟨N, 3, none⟩ = some (.int .i64 x.on) ∧ u.cell? ⟨N, 4, none⟩ = some (.int .i64 x.sp) ∧ u.cell? ⟨N, 5, none⟩ = some (.int .i64 x.tk) ∧ NKv c a len cap w N R A x u
section
variable {c : Nat} {a : Option Addr} {len cap : Nat} {w : World} {N R : Nat} {A : Na} {x : Nt} {u u' : World}
theorem NKv.s (h : NKv c a len cap w N R A x u) : NKS c a len cap w N R A x u := ⟨h.box.c0, h.box.c1, h.box.c2, h.box.c3, h.box.c4, h.box.c5, h⟩
theorem NKv.keep (h : NKv c a len cap w N R A x u) (hb : Below u.heap.size u u') : NKv c a len cap w N R A x u' :=
  ⟨drawn_keepN h.dr hb, h.box.keep hb, h.own.keep hb, h.apn, h.hR, h.cap', h.hN, h.cur, Nat.le_trans h.le hb.size, h.lt, h.res.keep hb⟩
theorem NKv.draw (h : NKv c a len cap w N R A x u) (hd : Drawn c a len cap u u') : NKv c a len cap w N R A x u' := by
  have hc := h.cur.lt
  have hN := h.hN
  exact ⟨h.dr.trans hd, h.box.dr hd (by omega), h.own.otherN hd.ex (h.own.neN (by omega)), h.apn, h.hR, h.cap', h.hN, h.cur, Nat.le_trans h.le hd.ex.size, h.lt, h.res.dr hd (by omega)⟩
theorem NKv.up (h : NKv c a len cap w N R A x u) : NKv c a len cap w N u.heap.size A x u := ⟨h.dr, h.box, h.own, h.apn, h.own.under, h.cap', h.hN, h.cur, Nat.le_refl _, h.box.lt, h.res⟩
theorem NKv.store6 (h : NKv c a len cap w N R A x u) {M : Nat} (hM : R ≤ M) (A' : Na) (y : Nt) : NKv c a len cap w N R A x (((((((u).setCell ⟨M, 0, none⟩ (.bool y.pm)).setCell ⟨M, 1, none⟩ (.slice A'.a A'.n A'.c)).setCell ⟨M, 2, none⟩ (.slice A'.a' A'.n' A'.c')).setCell ⟨M, 3, none⟩ (.int .i64 y.on)).setCell ⟨M, 4, none⟩ (.int .i64 y.sp)).setCell ⟨M, 5, none⟩ (.int .i64 y.tk)) := by
  have hN := h.hN
  have hl := h.lt
  exact ⟨h.dr.store6 h.cur M (by omega) A' y, h.box.grown (grown6 u M A' y) (by omega), h.own.otherN (grown6 u M A' y) (h.hR.ne hM), h.apn, h.hR, h.cap', h.hN, h.cur, by simpa using h.le, h.lt, h.res.grown (grown6 u M A' y) (by omega)⟩
theorem NKS.kv (h : NKS c a len cap w N R A x u) : NKv c a len cap w N R A x u := h.2.2.2.2.2.2
theorem NKS.curs (h : NKS c a len cap w N R A x u) : Cur c a len cap u := h.kv.dr.cur
theorem NKS.keep (h : NKS c a len cap w N R A x u) (hb : Below u.heap.size u u') : NKS c a len cap w N R A x u' := (h.kv.keep hb).s
theorem NKS.drew (h : NKS c a len cap w N R A x u) : NKS c a len cap w N R A x u.drew := h.keep (Below.refl _ _).drew
theorem NKS.alloc (h : NKS c a len cap w N R A x u) (o : Obj) : NKS c a len cap w N R A x (u.alloc o) := h.keep (bl_alloc (Below.refl _ _) o)
theorem NKS.draw (h : NKS c a len cap w N R A x u) (hd : Drawn c a len cap u u') : NKS c a len cap w N R A x u' := (h.kv.draw hd).s
theorem NKS.store6 (h : NKS c a len cap w N R A x u) {M : Nat} (hM : R ≤ M) (A' : Na) (y : Nt) : NKS c a len cap w N R A x (((((((u).setCell ⟨M, 0, none⟩ (.bool y.pm)).setCell ⟨M, 1, none⟩ (.slice A'.a A'.n A'.c)).setCell ⟨M, 2, none⟩ (.slice A'.a' A'.n' A'.c')).setCell ⟨M, 3, none⟩ (.int .i64 y.on)).setCell ⟨M, 4, none⟩ (.int .i64 y.sp)).setCell ⟨M, 5, none⟩ (.int .i64 y.tk)) := (h.kv.store6 hM A' y).s
end
/-- The next notification in a variable of its own, in block M. -/
structure NxN (c : Nat) (a : Option Addr) (len cap : Nat) (w : World) (N M : Nat) (A : Na) (x : Nt) (A' : Na) (y : Nt) (u : World) : Prop where
  dr : Drawn c a len cap w u
  cur : Cur c a len cap w
  box : NBox N A x u
  nxt : NBox M A' y u
  own : NRow (w.heap.size + 1) u A' y
  apn : apartN A' N
  cap' : A'.n ≤ A'.c
  hN : w.heap.size < N
  ne : M ≠ N
  res : NBox w.heap.size Na.zero Nt.zero u
section
variable {c : Nat} {a : Option Addr} {len cap : Nat} {w : World} {N R : Nat} {A : Na} {x : Nt} {u u' : World} {A' : Na} {y : Nt} {B : Nat}
theorem NxN.ofAlloc (h : NKS c a len cap w N R A x u) (ho : NRow B u A' y) (hc : A'.n ≤ A'.c) (hB : R ≤ B) : NxN c a len cap w N u.heap.size A x A' y (u.alloc (.cells #[.bool y.pm, .slice A'.a A'.n A'.c, .slice A'.a' A'.n' A'.c', .int .i64 y.on, .int .i64 y.sp, .int .i64 y.tk] 27)) := by
  have k := h.kv.keep (bl_alloc (Below.refl _ _) (.cells #[.bool y.pm, .slice A'.a A'.n A'.c, .slice A'.a' A'.n' A'.c', .int .i64 y.on, .int .i64 y.sp, .int .i64 y.tk] 27))
  have hl := h.kv.lt
  exact ⟨k.dr, k.cur, k.box, NBox.new u A' y _, (ho.keep (bl_alloc (Below.refl _ _) _)).mono (by have := k.hN; omega), ho.neN (by omega), hc, k.hN, by have := h.kv.box.lt; omega, k.res⟩
theorem NxN.ofStore {M : Nat} {A0 : Na} {x0 : Nt} (h : NKS c a len cap w N R A x u) (hM : NBox M A0 x0 u) (hRM : R ≤ M) (ho : NRow B u A' y) (hc : A'.n ≤ A'.c) (hMB : M < B) : NxN c a len cap w N M A x A' y (((((((u).setCell ⟨M, 0, none⟩ (.bool y.pm)).setCell ⟨M, 1, none⟩ (.slice A'.a A'.n A'.c)).setCell ⟨M, 2, none⟩ (.slice A'.a' A'.n' A'.c')).setCell ⟨M, 3, none⟩ (.int .i64 y.on)).setCell ⟨M, 4, none⟩ (.int .i64 y.sp)).setCell ⟨M, 5, none⟩ (.int .i64 y.tk)) := by
  have k := h.kv.store6 hRM A' y
  have hl := h.kv.lt
  exact ⟨k.dr, k.cur, k.box, hM.put6, (ho.otherN (grown6 u M A' y) (ho.neN hMB)).mono (by have := k.hN; omega), ho.neN (by omega), hc, k.hN, by omega, k.res⟩
theorem NxN.put {M : Nat} (h : NxN c a len cap w N M A x A' y u) : NKv c a len cap w N u.heap.size A' y (((((((u).setCell ⟨N, 0, none⟩ (.bool y.pm)).setCell ⟨N, 1, none⟩ (.slice A'.a A'.n A'.c)).setCell ⟨N, 2, none⟩ (.slice A'.a' A'.n' A'.c')).setCell ⟨N, 3, none⟩ (.int .i64 y.on)).setCell ⟨N, 4, none⟩ (.int .i64 y.sp)).setCell ⟨N, 5, none⟩ (.int .i64 y.tk)) := by
  have hN := h.hN
  have hs : ((((((((u).setCell ⟨N, 0, none⟩ (.bool y.pm)).setCell ⟨N, 1, none⟩ (.slice A'.a A'.n A'.c)).setCell ⟨N, 2, none⟩ (.slice A'.a' A'.n' A'.c')).setCell ⟨N, 3, none⟩ (.int .i64 y.on)).setCell ⟨N, 4, none⟩ (.int .i64 y.sp)).setCell ⟨N, 5, none⟩ (.int .i64 y.tk)) : World).heap.size = u.heap.size := by simp
  have ho := h.own.otherN (grown6 u N A' y) h.apn
  have hu := ho.under
  rw [hs] at hu
  exact ⟨h.dr.store6 h.cur N (Nat.le_of_lt hN) A' y, h.box.put6, ho, h.apn, hu, h.cap', h.hN, h.cur, by simp, h.box.lt, h.res.grown (grown6 u N A' y) (by omega)⟩
end
end Go.Proofs.Ytfgknbflgmblmaa
namespace Go.Proofs.Ytfgknbflgmblmaa
open Go.RowKit Pl Il
/-- It is told once, and nobody waits. -/
def toldP (x : Nt) : Nt := if x.pm = true then { x with on := x.on + 1, sp := x.sp + 1 } else { x with on := x.on + 1, pm := true }
theorem told_ok {x : Nt} (h : okN x = true) (hl : x.ln = []) (ho : x.on ≤ 999999999) : okN (toldP x) = true ∧ tellOneM x = (toldP x, -1, 0) := by
  have hb := ones_bd x.gs
  obtain ⟨_, _, _, _, h5, h6, h7, h8⟩ := okN_parts h
  refine ⟨?_, ?_⟩
  · obtain ⟨pm, ln, gs, on, sp, tk⟩ := x
    simp only at hl ho hb h5 h6 h7 h8
    subst hl
    simp only [okN, Bool.and_eq_true, heldN, cnt, decide_eq_true_eq] at h
    obtain ⟨⟨⟨h1, _⟩, _⟩, h4⟩ := h
    simp only [heldN] at h8
    cases pm
    · simp only [toldP, okN, Bool.and_eq_true, heldN, cnt, decide_eq_true_eq, permI] at h8 ⊢
      simp only [Bool.false_eq_true, if_false, if_true] at h8 ⊢
      exact ⟨⟨⟨h1, by simp⟩, ⟨⟨by omega, by omega⟩, by omega⟩⟩, by omega⟩
    · simp only [toldP, okN, Bool.and_eq_true, heldN, cnt, decide_eq_true_eq, permI] at h8 ⊢
      simp only [if_true] at h8 ⊢
      exact ⟨⟨⟨h1, by simp⟩, ⟨⟨by omega, by omega⟩, by omega⟩⟩, by omega⟩
  · unfold tellOneM
    rw [if_neg (by rw [h]; simp), if_neg (by unfold fullOne; rw [hl]; simp; omega)]
    unfold oneM toldP
    simp only [hl]
    cases x.pm <;> simp
theorem told_pm {y : Nt} (h : y.pm = true) : toldP y = { y with on := y.on + 1, sp := y.sp + 1 } := by
  unfold toldP
  rw [if_pos h]
/-- What two tellings leave. -/
theorem pm_facts {x : Nt} (h : okN x = true) (hl : x.ln = []) (ho : x.on ≤ 999999998) : ∃ a b : Nt, tellOneM x = (a, -1, 0) ∧ tellOneM a = (b, -1, 0) ∧ okN b = true ∧ b.pm = true ∧ b.sp = x.sp + 1 + permI x.pm ∧ b.ln = [] ∧ b.gs = x.gs ∧ b.tk ≤ 999999998 ∧ a.ln = [] ∧ a.gs = x.gs := by
  obtain ⟨h1, e1⟩ := told_ok h hl (by omega)
  have hl1 : (toldP x).ln = [] := by unfold toldP; split <;> exact hl
  have hg1 : (toldP x).gs = x.gs := by unfold toldP; split <;> rfl
  have ho1 : (toldP x).on = x.on + 1 := by unfold toldP; split <;> rfl
  have hp1 : (toldP x).pm = true := by
    unfold toldP
    by_cases k : x.pm = true
    · rw [if_pos k]; exact k
    · rw [if_neg k]
  have hs1 : (toldP x).sp = x.sp + permI x.pm := by
    unfold toldP
    cases k : x.pm <;> simp [permI]
  obtain ⟨h2, e2⟩ := told_ok h1 hl1 (by omega)
  have e3 : toldP (toldP x) = { toldP x with on := (toldP x).on + 1, sp := (toldP x).sp + 1 } := told_pm hp1
  have hb := ones_bd (toldP (toldP x)).gs
  obtain ⟨_, _, _, _, h5, h6, h7, h8⟩ := okN_parts h2
  have hp2 : (toldP (toldP x)).pm = true := by rw [e3]; exact hp1
  have hs2 : (toldP (toldP x)).sp = x.sp + 1 + permI x.pm := by rw [e3]; show (toldP x).sp + 1 = _; omega
  have hsx := (okN_parts h).2.2.2.2.2.1
  refine ⟨_, _, e1, e2, h2, hp2, hs2, by rw [e3]; exact hl1, by rw [e3]; exact hg1, ?_, hl1, hg1⟩
  simp only [heldN] at h8
  rw [hp2, hs2] at h8
  rw [show permI true = 1 from rfl] at h8
  have : 0 ≤ permI x.pm := by cases x.pm <;> simp [permI]
  omega
/-- Who comes first goes on, who comes next waits. -/
theorem aw_facts {b : Nt} {w1 w2 : Int} (h : okN b = true) (hp : b.pm = true) (hl : b.ln = []) (ht : b.tk ≤ 999999998) (c1 : clientL w1 = true) (c2 : clientL w2 = true) (n1 : hasL (whosL b.gs) w1 = false) (n2 : hasL (whosL b.gs) w2 = false) :
    ∃ d e : Nt, awaitM b w1 = (d, 0) ∧ awaitM d w2 = (e, 4) ∧ d.pm = false ∧ e.ln = [w2] ∧ d.ln = [] ∧ d.gs = b.gs := by
  have hb := ones_bd b.gs
  obtain ⟨_, _, _, _, h5, h6, h7, h8⟩ := okN_parts h
  have e1 : awaitM b w1 = ({ b with pm := false, tk := b.tk + 1 }, 0) := by
    unfold awaitM
    rw [if_neg (by rw [h, c1]; simp), if_neg (by unfold toldL; rw [hl, n1]; simp [hasL]), if_neg (by rw [hp]; simp; omega), if_pos hp]
  have hd : okN { b with pm := false, tk := b.tk + 1 } = true := by
    obtain ⟨pm, ln, gs, on, sp, tk⟩ := b
    simp only at hp hl ht hb h5 h6 h7 h8
    subst hp hl
    simp only [heldN, permI, if_true] at h8
    simp only [okN, Bool.and_eq_true, heldN, cnt, decide_eq_true_eq, permI] at h ⊢
    obtain ⟨⟨⟨k1, _⟩, _⟩, k4⟩ := h
    simp only [Bool.false_eq_true, if_false, if_true] at k4 ⊢
    exact ⟨⟨⟨k1, by simp⟩, ⟨⟨by omega, by omega⟩, by omega⟩⟩, by rw [decide_eq_true_eq]; omega⟩
  refine ⟨_, { b with pm := false, tk := b.tk + 1, ln := [w2] }, e1, ?_, rfl, rfl, hl, rfl⟩
  unfold awaitM
  rw [if_neg (by rw [hd, c2]; simp), if_neg (by unfold toldL; simp only [hl, n2]; simp [hasL]), if_neg (by simp only [hl]; simp; omega), if_neg (by simp)]
  simp [hl]
theorem dn_nodup (t : Int) (j : Nat) : ((List.range j).map fun i : Nat => t - (i : Int)).Nodup := by
  rw [List.Nodup, List.pairwise_map]
  exact List.nodup_range.imp (fun h e => h (by omega))
/-- Those from t down are all in a list: so they are at most as many as it has. -/
theorem dn_few {t : Int} {j : Nat} {l : List Int} (h : ∀ i : Nat, i < j → t - (i : Int) ∈ l) : j ≤ l.length := by
  have h1 := (dn_nodup t j).length_le_of_subset (l₂ := l) (fun y hy => by
    obtain ⟨i, hi, rfl⟩ := List.mem_map.1 hy
    exact h i (List.mem_range.1 hi))
  simpa using h1
theorem place_neg {xs : List Int} {x : Int} : placeL xs x < 0 ↔ hasL xs x = false := by
  constructor
  · intro h
    cases hh : hasL xs x
    · rfl
    · obtain ⟨k, _, hk⟩ := place_bound hh
      omega
  · intro h
    rw [place_minus h]
    omega
end Go.Proofs.Ytfgknbflgmblmaa
