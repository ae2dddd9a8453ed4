/-
  The program's notifications: a telling placed, a grant dropped and pas
  The program's notifications: a telling of one, a telling of all
  Walks of the specification's notifications: a copy, a telling of one
  Two lists of numbers, each a row of its own, apart from one another: w
-/
import Derived.Test.YtfgknbflgmblmaaZPm3
import Derived.Test.YtfgknbflgmblmaaZPm5
import Derived.Defers
namespace Go.Proofs.Ytfgknbflgmblmaa
open Go.RowKit Go.Maps Pl Il
/-- A store into the variable's own cells. -/
theorem NSt.setc {B N : Nat} {A : Na} {x y : Nt} {w : World} (h : NSt B N A x w) (o : Nat) (v : Value) (hb : NBox N A y (w.setCell ⟨N, o, none⟩ v)) (h1 : y.ln = x.ln) (h2 : y.gs = x.gs) : NSt B N A y (w.setCell ⟨N, o, none⟩ v) where
  box := hb
  ge := h.ge
  one := by
    rw [h1]
    exact h.one.of_block (by simp) (h.ne1.imp id fun l b off e => Below.heap_setCell w ⟨N, o, none⟩ v b (l b off e))
  cap := h.cap
  two := by rw [h2]; exact own_set h.two N o h.ne2 v
  ne1 := h.ne1
  ne2 := h.ne2
  apart := h.apart
theorem NSt.below {B N : Nat} {A : Na} {x : Nt} {w0 w u : World} (h : NSt B N A x w0) (hb : Below B w u) (o : Nat) (v : Value) : Below B w (u.setCell ⟨N, o, none⟩ v) := bl_set1' hb N o h.ge v
theorem NSt.keep {B N : Nat} {A : Na} {x : Nt} {w u : World} (h : NSt B N A x w) (hb : Below w.heap.size w u) : NSt B N A x u := ⟨h.box.keep hb, h.ge, h.one.keep hb, h.cap, ownsRow_keep h.two hb, h.ne1, h.ne2, h.apart⟩
theorem NSt.nin {B N : Nat} {A : Na} {x : Nt} {w : World} (h : NSt B N A x w) : NIn w A x := by
  obtain ⟨a2, c2, e2, _, h2⟩ := ownG_of h.two x.gs rfl
  injection e2 with e2 _ _
  exact ⟨h.one.ints, by rw [e2]; exact h2.gr⟩
/-- What is handed back of it. -/
theorem NSt.own {B N : Nat} {A : Na} {x : Nt} {w : World} (h : NSt B N A x w) : NOwn B w A x := by
  obtain ⟨a2, c2, e2, _, h2⟩ := ownG_of h.two x.gs rfl
  injection e2 with e2 _ _
  refine ⟨h.one, by rw [e2]; exact h2, ?_⟩
  rcases h.apart with h0 | h0
  · exact .inl h0
  · refine .inr (.inr fun b off b' off' e e' => ?_)
    have := h0 b off e
    rw [e'] at this
    rintro rfl
    exact this rfl
theorem wake1_nil (k : Int) : wakeRest [] k = [] ∧ wakeOut [] k = [] := by
  unfold wakeRest wakeOut
  constructor <;> split <;> simp
theorem wake1_cons {y : Int} {r : List Int} (h : lineL (y :: r) = true) : wakeRest (y :: r) 1 = r ∧ wakeOut (y :: r) 1 = [y] := by
  unfold wakeRest wakeOut wakeN
  rw [h]
  simp
  split <;> simp_all <;> omega
theorem NOth.set {N : Nat} {A A' : Na} {w u : World} (h : NOth N A w A' u) (o : Nat) (v : Value) : NOth N A w A' (u.setCell ⟨N, o, none⟩ v) := ⟨fun k hk hne hq => by rw [Below.heap_setCell u ⟨N, o, none⟩ v k hne]; exact h.blk k hk hne hq, h.line, h.row⟩
set_option maxHeartbeats 2000000 in
theorem placeTelling_fr (B N : Nat) (A : Na) (x : Nt) (w : World) (hS : NSt B N A x w) (hn : A.n ≤ 2097152) (hn' : A.n' ≤ 2097152) (hl : lineL x.ln = true) (hw : wfL x.ln) (hsp : 0 ≤ x.sp ∧ x.sp ≤ 1000000000) :
    Calls Try.prog 41 #[.pointer (some ⟨N, 0, none⟩)] w fun e w' => ∃ A', e = .returned (.int .i64 (oneM x).2) ∧ NSt B N A' (oneM x).1 w' ∧ Below B w w' ∧ NOth N A w A' w' := by
  go_enter Try.func41, Try.ntmps41
  go_wp2_with fail
  refine (grantFirst_fr B N A x 1 true w hS hn hn' hw).mono ?_
  rintro e w1 ⟨A', a, m, c, rfl, hS1, ho, _, hb1, hO⟩
  have HO := hidOf hO
  clear hO
  clear hS
  obtain ⟨pm, ln, gs, on, sp, tk⟩ := x
  cases ln with
  | cons y r =>
    obtain ⟨e1, e2⟩ := wake1_cons hl
    simp only [e1, e2, List.map_cons, List.map_nil] at hS1 ho
    have hm : m = 1 := by have := ho.ints.len; simpa using this.symm
    subst hm
    obtain ⟨⟨_, h' | ⟨b, off, rfl, hb, hcell⟩⟩, _⟩ := ho
    · omega
    have hc := hcell 0 (by omega)
    simp at hc
    have H1 := hidOf hS1
    have H2 := hidOf hb1
    clear hS1 hb1 hcell e1 e2
    go_wp2
    go_ret
    exact ⟨A', rfl, H1.out, H2.out, HO.out⟩
  | nil =>
    obtain ⟨e1, e2⟩ := wake1_nil 1
    simp only [e1, e2, List.map_nil, List.append_nil] at hS1 ho
    have hm : m = 0 := by have := ho.ints.len; simpa using this.symm
    subst hm
    obtain ⟨_, q0, q1, q2, q3, q4, q5, qf⟩ := id hS1.box
    simp only at q0 q1 q2 q3 q4 q5 hsp
    clear e1 e2 ho
    cases pm
    · have hX := hS1.setc (y := ⟨true, [], gs, on, sp, tk⟩) 0 (.bool true) (hS1.box.set0 (b := true)) rfl rfl
      have H1 := hidOf hX
      have H2 := hidOf (hS1.below hb1 0 (.bool true))
      clear hX hS1 hb1
      go_wp2
      go_ret
      exact ⟨A', rfl, H1.out, H2.out, HO.out.set 0 _⟩
    · have hX := hS1.setc (y := ⟨true, [], gs, on, sp + 1, tk⟩) 4 (.int .i64 (sp + 1)) (hS1.box.set4 (v := sp + 1)) rfl rfl
      have hY := hX.setc (y := ⟨true, [], gs, on, sp + 1, tk⟩) 0 (.bool true) (hX.box.set0 (b := true)) rfl rfl
      have H1 := hidOf hY
      have H2 := hidOf (hS1.below (hS1.below hb1 4 (.int .i64 (sp + 1))) 0 (.bool true))
      clear hX hY hS1 hb1
      go_wp2
      go_ret
      exact ⟨A', rfl, H1.out, H2.out, (HO.out.set 4 _).set 0 _⟩
theorem placeTelling_any (B N : Nat) (A : Na) (x : Nt) (w : World) (hS : NSt B N A x w) (hn : A.n ≤ 2097152) (hn' : A.n' ≤ 2097152) (hl : lineL x.ln = true) (hw : wfL x.ln) (hsp : 0 ≤ x.sp ∧ x.sp ≤ 1000000000) :
    Calls Try.prog 41 #[.pointer (some ⟨N, 0, none⟩)] w fun e w' => ∃ A', e = .returned (.int .i64 (oneM x).2) ∧ NSt B N A' (oneM x).1 w' ∧ Below B w w' :=
  (placeTelling_fr B N A x w hS hn hn' hl hw hsp).mono fun _ _ ⟨A', h1, h2, h3, _⟩ => ⟨A', h1, h2, h3⟩
open Go.RowKit Go.Maps Pl Il
/-- What a call on a notification holds on to: the argument's variable, the answer's, the copy's. -/
structure NCtx (w : World) (A : Na) (x : Nt) (u : World) : Prop where
  box0 : NBox w.heap.size A x u
  box1 : NBox (w.heap.size + 1) Na.zero Nt.zero u
  nin : NIn w A x
  below : Below w.heap.size w u
  sz : w.heap.size + 2 ≤ u.heap.size
section
variable {w : World} {A : Na} {x : Nt} {u u' : World}
theorem NCtx.keep {B : Nat} (h : NCtx w A x u) (hb : Below B u u') (hB : w.heap.size + 2 ≤ B) : NCtx w A x u' :=
  ⟨h.box0.below hb (by omega), h.box1.below hb (by omega), h.nin, h.below.trans (hb.mono (by omega)), Nat.le_trans h.sz hb.size⟩
theorem NCtx.kp (h : NCtx w A x u) (hb : Below u.heap.size u u') : NCtx w A x u' := h.keep hb h.sz
theorem NCtx.ninX (h : NCtx w A x u) : NIn u A x := h.nin.keep h.below
theorem nctx_new (hI : NIn w A x) : NCtx w A x ((w.alloc (.cells #[.bool x.pm, .slice A.a A.n A.c, .slice A.a' A.n' A.c', .int .i64 x.on, .int .i64 x.sp, .int .i64 x.tk] 27)).alloc (.cells #[.bool false, .slice none 0 0, .slice none 0 0, .int .i64 0, .int .i64 0, .int .i64 0] 27)) := by
  have s0 : (w.alloc (.cells #[.bool x.pm, .slice A.a A.n A.c, .slice A.a' A.n' A.c', .int .i64 x.on, .int .i64 x.sp, .int .i64 x.tk] 27)).heap.size = w.heap.size + 1 := by simp
  refine ⟨(NBox.new w A x _).alloc _, by rw [← s0]; exact NBox.newZ _ _, hI, bl_alloc (bl_alloc (Below.refl _ _) _) _, by simp⟩
end
/-- The copy in its variable. -/
theorem nst_new {B : Nat} {A : Na} {x : Nt} {w : World} (h : NRow B w A x) (hB : B ≤ w.heap.size) : NSt B w.heap.size A x (w.alloc (.cells #[.bool x.pm, .slice A.a A.n A.c, .slice A.a' A.n' A.c', .int .i64 x.on, .int .i64 x.sp, .int .i64 x.tk] 27)) := by
  have hb : Below w.heap.size w (w.alloc (.cells #[.bool x.pm, .slice A.a A.n A.c, .slice A.a' A.n' A.c', .int .i64 x.on, .int .i64 x.sp, .int .i64 x.tk] 27)) := bl_alloc (Below.refl _ _) _
  have ho := h.own
  refine ⟨NBox.new w A x _, hB, ho.one.keep hb, h.cap, ownsRow_keep h.two hb, ?_, fun e => Nat.lt_irrefl _ (h.two.lt _ e).2, ?_⟩
  · rcases ho.one.ints.row with h0 | ⟨b, off, e, hlt, _⟩
    · exact .inl h0
    · exact .inr fun b1 o1 e1 => by rw [e] at e1; cases e1; omega
  · obtain ⟨_, ⟨ea, en⟩ | ⟨g, cap, cur, ea, hB, hg, hr⟩⟩ := h.one
    · exact .inl en
    · refine .inr fun b off e e' => ?_
      injection ea with ea _ _
      rw [ea] at e
      cases e
      obtain ⟨_, ⟨ea', en'⟩ | ⟨g', cap', cur', ea', hB', hg', hr'⟩⟩ := h.two
      · rw [ea'] at e'; simp [Value.ownBlock] at e'
      · rw [ea'] at e'
        have : g' = g := by simpa [Value.ownBlock] using e'
        subst this
        rw [hg] at hg'
        simp at hg'
theorem nst_fin {w : World} {A A' : Na} {x y : Nt} {u : World} {N : Nat} (hC : NCtx w A x u) (hS : NSt (w.heap.size + 2) N A' y u) :
    NOwn w.heap.size ((((((u.setCell ⟨w.heap.size + 1, 0, none⟩ (.bool y.pm)).setCell ⟨w.heap.size + 1, 1, none⟩ (.slice A'.a A'.n A'.c)).setCell ⟨w.heap.size + 1, 2, none⟩ (.slice A'.a' A'.n' A'.c')).setCell ⟨w.heap.size + 1, 3, none⟩ (.int .i64 y.on)).setCell ⟨w.heap.size + 1, 4, none⟩ (.int .i64 y.sp)).setCell ⟨w.heap.size + 1, 5, none⟩ (.int .i64 y.tk)) A' y ∧ A'.n ≤ A'.c ∧ Below w.heap.size w ((((((u.setCell ⟨w.heap.size + 1, 0, none⟩ (.bool y.pm)).setCell ⟨w.heap.size + 1, 1, none⟩ (.slice A'.a A'.n A'.c)).setCell ⟨w.heap.size + 1, 2, none⟩ (.slice A'.a' A'.n' A'.c')).setCell ⟨w.heap.size + 1, 3, none⟩ (.int .i64 y.on)).setCell ⟨w.heap.size + 1, 4, none⟩ (.int .i64 y.sp)).setCell ⟨w.heap.size + 1, 5, none⟩ (.int .i64 y.tk)) := by
  have h := hS.own
  have hlt : w.heap.size + 1 < w.heap.size + 2 := by omega
  exact ⟨((((((h.far (w.heap.size + 1) 0 hlt _).far (w.heap.size + 1) 1 hlt _).far (w.heap.size + 1) 2 hlt _).far (w.heap.size + 1) 3 hlt _).far (w.heap.size + 1) 4 hlt _).far (w.heap.size + 1) 5 hlt _).mono (by omega), hS.cap, bl_set6' hC.below (w.heap.size + 1) (by omega) _ _ _ _ _ _⟩
theorem okN_parts {x : Nt} (h : okN x = true) : lineL x.ln = true ∧ lineL (whosL x.gs) = true ∧ x.ln.length ≤ 32 ∧ x.gs.length ≤ 32 ∧ (0 ≤ x.on ∧ x.on ≤ 1000000000) ∧ (0 ≤ x.sp ∧ x.sp ≤ 1000000000) ∧ (0 ≤ x.tk ∧ x.tk ≤ 1000000000) ∧ x.on = heldN x := by
  simp only [okN, Bool.and_eq_true, decide_eq_true_eq, waitL] at h
  obtain ⟨⟨⟨⟨⟨h1, h2⟩, _⟩, _⟩, ⟨h4, h5⟩, h6⟩, h7⟩ := h
  refine ⟨h1, h2, line_len h1, ?_, cnt_bd' h4, cnt_bd' h5, cnt_bd' h6, h7⟩
  have := line_len h2
  rwa [whos_len] at this
set_option maxRecDepth 100000 in
set_option maxHeartbeats 2000000 in
theorem implTellOne_any (A : Na) (x : Nt) (w : World) (hI : NIn w A x) (hn : A.n ≤ 2097152) (hn' : A.n' ≤ 2097152) (hw : NWf x) :
  Calls Try.prog 14 #[.agg #[.bool x.pm, .slice A.a A.n A.c, .slice A.a' A.n' A.c', .int .i64 x.on, .int .i64 x.sp, .int .i64 x.tk]] w fun e w' => NOutP w (tellOneM x).1 [.int .i64 (tellOneM x).2.1, .int .i64 (tellOneM x).2.2] e w' := by
 have hC := nctx_new hI
 have s1 : ((w.alloc (.cells #[.bool x.pm, .slice A.a A.n A.c, .slice A.a' A.n' A.c', .int .i64 x.on, .int .i64 x.sp, .int .i64 x.tk] 27)).alloc (.cells #[.bool false, .slice none 0 0, .slice none 0 0, .int .i64 0, .int .i64 0, .int .i64 0] 27)).heap.size = w.heap.size + 2 := by simp
 have HL1 := hidOf hI.ints.len
 have HL2 := hidOf hI.grs.len
 have HCp := hidOf (copiedNotify_any A x _ hC.ninX hn hn')
 have HC := hidOf hC
 have S1 := hidOf s1
 clear hC s1 hI
 go_enter Try.func14, Try.ntmps14
 go_wp2_with fail
 refine (HCp.out).mono ?_
 rintro e w1 ⟨a1, c1, a2, c2, rfl, hR, hb1⟩
 rw [S1.out] at hR
 have hC1 := HC.out.kp hb1
 have hS := nst_new hR hC1.sz
 generalize hW2 : w1.alloc (.cells #[.bool x.pm, .slice a1 A.n c1, .slice a2 A.n' c2, .int .i64 x.on, .int .i64 x.sp, .int .i64 x.tk] 27) = W2
 have hb2 : Below w1.heap.size w1 W2 := by subst hW2; exact bl_alloc (Below.refl _ _) _
 simp only at hS
 rw [hW2] at hS
 have hC2 := hC1.kp hb2
 obtain ⟨_, p0, p1, p2, p3, p4, p5, _⟩ := id hC2.box0
 have HS := hidOf hS
 have HC2 := hidOf hC2
 clear hR hb1 hC1 hb2 hC2 hS HC HCp
 go_wp2_with fail
 refine (implNotifyOk_any A x _ HC2.out.ninX hn hn' hw).mono ?_
 rintro e w3 ⟨rfl, hb3⟩
 have hC := HC2.out.kp hb3
 have hS := HS.out.keep hb3
 clear p0 p1 p2 p3 p4 p5 hW2 hb3 HS HC2
 obtain ⟨A1, hA1⟩ : ∃ A1 : Na, A1 = ⟨a1, A.n, c1, a2, A.n', c2⟩ := ⟨_, rfl⟩
 rw [← hA1] at hS
 have hAn : A1.n = A.n ∧ A1.n' = A.n' := by rw [hA1]; exact ⟨rfl, rfl⟩
 have HAn := hidOf hAn
 clear hA1 hAn
 generalize hN : w1.heap.size = N at *
 clear hN
 obtain ⟨_, p0, p1, p2, p3, p4, p5, _⟩ := id hC.box0
 have HC := hidOf hC
 have HS := hidOf hS
 clear hC hS
 cases hok : okN x
 ·have hres : tellOneM x = (x, -1, 1) := by unfold tellOneM; rw [if_pos hok]
  clear p0 p1 p2 p3 p4 p5
  obtain ⟨_, z0, z1, z2, z3, z4, z5, _⟩ := id (HS.out).box
  obtain ⟨_, r0, r1, r2, r3, r4, r5, rf⟩ := id (HC.out).box1
  have HF := hidOf (nst_fin (HC.out) (HS.out))
  have HR := hidOf (hres)
  clear hres hok HC HS
  go_wp2
  refine bodyPost_ret (v := .tuple #[.agg #[.bool x.pm, .slice A1.a A1.n A1.c, .slice A1.a' A1.n' A1.c', .int .i64 x.on, .int .i64 x.sp, .int .i64 x.tk], .int .i64 (-1), .int .i64 1]) (by simp [results, Try.results14, go_sem, r0, r1, r2, r3, r4, r5]) rfl ?_
  rw [HR.out]
  exact ⟨A1, rfl, HF.out⟩
 ·obtain ⟨k1, _, k3, k4, k5, k6, k7, k8⟩ := okN_parts hok
  have HK8 := hidOf k8
  clear k8
  rw [HL1.out] at k3
  rw [HL2.out] at k4
  have HOK := hidOf hok
  have HK1 := hidOf k1
  clear hok k1
  by_cases t1 : x.on = 1000000000
  ·have t1' : (x.on == 1000000000) = true := by simp [t1]
   have hres : tellOneM x = (x, -1, 2) := by
    unfold tellOneM
    rw [if_neg (by rw [HOK.out]; simp), if_pos (by unfold fullOne; rw [HL1.out, HL2.out]; first | (simp; done) | (simp; omega))]
   obtain ⟨_, z0, z1, z2, z3, z4, z5, _⟩ := id (HS.out).box
   obtain ⟨_, r0, r1, r2, r3, r4, r5, rf⟩ := id (HC.out).box1
   have HF := hidOf (nst_fin (HC.out) (HS.out))
   have HR := hidOf (hres)
   clear hres HC HS t1
   go_wp2
   refine bodyPost_ret (v := .tuple #[.agg #[.bool x.pm, .slice A1.a A1.n A1.c, .slice A1.a' A1.n' A1.c', .int .i64 x.on, .int .i64 x.sp, .int .i64 x.tk], .int .i64 (-1), .int .i64 2]) (by simp [results, Try.results14, go_sem, r0, r1, r2, r3, r4, r5]) rfl ?_
   rw [HR.out]
   exact ⟨A1, rfl, HF.out⟩
  ·have t1' : (x.on == 1000000000) = false := by simp [t1]
   by_cases t2 : (0 : Int) < (A.n : Int)
   ·by_cases t3 : A.n' = 32
    ·have t3' : ((A.n' : Int) == 32) = true := by simp; omega
     have hres : tellOneM x = (x, -1, 2) := by
      unfold tellOneM
      rw [if_neg (by rw [HOK.out]; simp), if_pos (by unfold fullOne; rw [HL1.out, HL2.out]; first | (simp; done) | (simp; omega))]
     obtain ⟨_, z0, z1, z2, z3, z4, z5, _⟩ := id (HS.out).box
     obtain ⟨_, r0, r1, r2, r3, r4, r5, rf⟩ := id (HC.out).box1
     have HF := hidOf (nst_fin (HC.out) (HS.out))
     have HR := hidOf (hres)
     clear hres HC HS t3
     go_wp2
     refine bodyPost_ret (v := .tuple #[.agg #[.bool x.pm, .slice A1.a A1.n A1.c, .slice A1.a' A1.n' A1.c', .int .i64 x.on, .int .i64 x.sp, .int .i64 x.tk], .int .i64 (-1), .int .i64 2]) (by simp [results, Try.results14, go_sem, r0, r1, r2, r3, r4, r5]) rfl ?_
     rw [HR.out]
     exact ⟨A1, rfl, HF.out⟩
    ·have t3' : ((A.n' : Int) == 32) = false := by simp; omega
     have hres : tellOneM x = ((oneM { x with on := x.on + 1 }).1, (oneM { x with on := x.on + 1 }).2, 0) := by
      unfold tellOneM
      rw [if_neg (by rw [HOK.out]; simp), if_neg (by unfold fullOne; rw [HL1.out, HL2.out]; first | (simp; done) | (simp; omega))]
     obtain ⟨_, z0, z1, z2, z3, z4, z5, zf⟩ := id HS.out.box
     have hS2 := HS.out.setc (y := { x with on := x.on + 1 }) 3 (.int .i64 (x.on + 1)) (HS.out.box.set3 (v := x.on + 1)) rfl rfl
     have hC2 := HC.out.keep (HS.out.below (Below.refl (w.heap.size + 2) w3) 3 (.int .i64 (x.on + 1))) (Nat.le_refl _)
     have HS2 := hidOf hS2
     have HC2 := hidOf hC2
     have HRes := hidOf hres
     clear hS2 hC2 hres HS HC t3
     go_wp2_with fail
     refine (placeTelling_any _ N A1 { x with on := x.on + 1 } _ HS2.out (by have := HAn.out; omega) (by have := HAn.out; omega) HK1.out hw.ln k6).mono ?_
     rintro e w4 ⟨A4, rfl, hS4, hb4⟩
     have hC4 := HC2.out.keep hb4 (Nat.le_refl _)
     generalize hy : (oneM { x with on := x.on + 1 }).1 = y at hS4
     generalize ht : (oneM { x with on := x.on + 1 }).2 = t
     have hrs : tellOneM x = (y, t, 0) := by rw [HRes.out, hy, ht]
     obtain ⟨_, z0, z1, z2, z3, z4, z5, _⟩ := id (hS4).box
     obtain ⟨_, r0, r1, r2, r3, r4, r5, rf⟩ := id (hC4).box1
     have HF := hidOf (nst_fin (hC4) (hS4))
     have HR := hidOf (hrs)
     clear HS2 HC2 HRes hS4 hC4 hb4 hy ht hrs p0 p1 p2 p3 p4 p5
     go_wp2
     refine bodyPost_ret (v := .tuple #[.agg #[.bool y.pm, .slice A4.a A4.n A4.c, .slice A4.a' A4.n' A4.c', .int .i64 y.on, .int .i64 y.sp, .int .i64 y.tk], .int .i64 t, .int .i64 0]) (by simp [results, Try.results14, go_sem, r0, r1, r2, r3, r4, r5]) rfl ?_
     rw [HR.out]
     exact ⟨A4, rfl, HF.out⟩
   ·have hres : tellOneM x = ((oneM { x with on := x.on + 1 }).1, (oneM { x with on := x.on + 1 }).2, 0) := by
     unfold tellOneM
     rw [if_neg (by rw [HOK.out]; simp), if_neg (by unfold fullOne; rw [HL1.out, HL2.out]; first | (simp; done) | (simp; omega))]
    obtain ⟨_, z0, z1, z2, z3, z4, z5, zf⟩ := id HS.out.box
    have hS2 := HS.out.setc (y := { x with on := x.on + 1 }) 3 (.int .i64 (x.on + 1)) (HS.out.box.set3 (v := x.on + 1)) rfl rfl
    have hC2 := HC.out.keep (HS.out.below (Below.refl (w.heap.size + 2) w3) 3 (.int .i64 (x.on + 1))) (Nat.le_refl _)
    have HS2 := hidOf hS2
    have HC2 := hidOf hC2
    have HRes := hidOf hres
    clear hS2 hC2 hres HS HC
    go_wp2_with fail
    refine (placeTelling_any _ N A1 { x with on := x.on + 1 } _ HS2.out (by have := HAn.out; omega) (by have := HAn.out; omega) HK1.out hw.ln k6).mono ?_
    rintro e w4 ⟨A4, rfl, hS4, hb4⟩
    have hC4 := HC2.out.keep hb4 (Nat.le_refl _)
    generalize hy : (oneM { x with on := x.on + 1 }).1 = y at hS4
    generalize ht : (oneM { x with on := x.on + 1 }).2 = t
    have hrs : tellOneM x = (y, t, 0) := by rw [HRes.out, hy, ht]
    obtain ⟨_, z0, z1, z2, z3, z4, z5, _⟩ := id (hS4).box
    obtain ⟨_, r0, r1, r2, r3, r4, r5, rf⟩ := id (hC4).box1
    have HF := hidOf (nst_fin (hC4) (hS4))
    have HR := hidOf (hrs)
    clear HS2 HC2 HRes hS4 hC4 hb4 hy ht hrs p0 p1 p2 p3 p4 p5
    go_wp2
    refine bodyPost_ret (v := .tuple #[.agg #[.bool y.pm, .slice A4.a A4.n A4.c, .slice A4.a' A4.n' A4.c', .int .i64 y.on, .int .i64 y.sp, .int .i64 y.tk], .int .i64 t, .int .i64 0]) (by simp [results, Try.results14, go_sem, r0, r1, r2, r3, r4, r5]) rfl ?_
    rw [HR.out]
    exact ⟨A4, rfl, HF.out⟩
end Go.Proofs.Ytfgknbflgmblmaa
namespace Go.Proofs.Ytfgknbflgmblmaa
open Go.RowKit Pl Il
theorem ownsG_empty (w : World) : (w.alloc (.cells #[] 44)).ownsRow w.heap.size 44 2 (.slice (some ⟨w.heap.size, 0, none⟩) 0 0) 0 (gflat []) :=
  ⟨rfl, .inr ⟨w.heap.size, 0, #[], rfl, Nat.le_refl _, heap_alloc_new w _, Nat.le_refl _, Nat.zero_le _, rfl, rfl⟩⟩
set_option maxHeartbeats 2000000 in
theorem l5Copy_any (A : Na) (x : Nt) (w : World) (hI : NIn w A x) (hn : A.n ≤ 2097152) (hn' : A.n' ≤ 2097152) :
  Calls Try.prog 46 #[.agg #[.bool x.pm, .slice A.a A.n A.c, .slice A.a' A.n' A.c', .int .i64 x.on, .int .i64 x.sp, .int .i64 x.tk]] w fun e w' => ∃ a c a' c', e = .returned (.agg #[.bool x.pm, .slice a A.n c, .slice a' A.n' c', .int .i64 x.on, .int .i64 x.sp, .int .i64 x.tk]) ∧ NRow w.heap.size w' ⟨a, A.n, c, a', A.n', c'⟩ x ∧ Below w.heap.size w w' := by
 generalize hW0 : w.alloc (.cells #[.bool x.pm, .slice A.a A.n A.c, .slice A.a' A.n' A.c', .int .i64 x.on, .int .i64 x.sp, .int .i64 x.tk] 27) = W0
 generalize hW1 : W0.alloc (.cells #[.bool false, .slice none 0 0, .slice none 0 0, .int .i64 0, .int .i64 0, .int .i64 0] 27) = W1
 have b0 : Below w.heap.size w W0 := by subst hW0; exact bl_alloc (Below.refl _ _) _
 have b1 : Below w.heap.size w W1 := by subst hW1; exact bl_alloc b0 _
 have s0 : W0.heap.size = w.heap.size + 1 := by subst hW0; simp
 have s1 : W1.heap.size = w.heap.size + 2 := by subst hW1; simp [s0]
 have x0 : NBox w.heap.size A x W1 := by subst hW1 hW0; exact (NBox.new w A x _).alloc _
 have x1 : NBox (w.heap.size + 1) Na.zero Nt.zero W1 := by subst hW1; rw [← s0]; exact NBox.newZ W0 _
 have hI1 := hidOf (hI.keep b1)
 have HI := hidOf hI
 have X0 := hidOf x0
 have X1 := hidOf x1
 have HB := hidOf b1
 have S1 := hidOf s1
 clear hI x0 x1 b0 b1 s0 s1
 subst hW1 hW0
 go_enter Try.func46, Try.ntmps46
 go_wp2_with fail
 refine (l2Copy_any A.a A.n A.c x.ln _ hI1.out.ints hn).mono ?_
 rintro e w1 ⟨g1, c1, rfl, ho1, hb1⟩
 rw [S1.out] at ho1
 have x0 := X0.out.keep hb1
 have x1 := X1.out.keep hb1
 have hB1 := bl_trans HB.out hb1
 have y0 := x0.set1 (a := some ⟨g1, 0, none⟩) (n := A.n) (c := c1)
 have y1 := x1.far w.heap.size 1 (by omega) (.slice (some ⟨g1, 0, none⟩) A.n c1)
 have ho2 := own_far1 ho1 w.heap.size 1 (by omega) (.slice (some ⟨g1, 0, none⟩) A.n c1)
 have hB2 := bl_set1' hB1 w.heap.size 1 (Nat.le_refl _) (.slice (some ⟨g1, 0, none⟩) A.n c1)
 generalize hU : w1.setCell ⟨w.heap.size, 1, none⟩ (.slice (some ⟨g1, 0, none⟩) A.n c1) = U at y0 y1 ho2 hB2
 have hz := y1.lt
 have bE : Below U.heap.size U (U.alloc (.cells #[] 44)) := bl_alloc (Below.refl _ _) _
 obtain ⟨v, w2, hr, ho3, hg⟩ := append_grs U.heap.size _ 0 [] A.a' A.n' A.c' x.gs _ (ownsG_empty U) (by simp) ((HI.out.grs.keep hB2).keep bE) (by omega)
 rw [Nat.zero_add, List.nil_append] at ho3
 obtain ⟨a2, c2, rfl, _, _⟩ := ownG_of ho3 x.gs rfl
 have hb3 : Below U.heap.size U w2 := bE.grown hg (by simp) (fun k hk => by simp [Value.ownBlock] at hk; omega)
 have z0 := y0.keep hb3
 have z1 := y1.keep hb3
 have hN : NRow (w.heap.size + 2) w2 ⟨some ⟨g1, 0, none⟩, A.n, c1, a2, A.n', c2⟩ x := ⟨ownsRow_keep ho2 hb3, own_mono1 ho3 (by omega)⟩
 have hN2 := (hN.far w.heap.size 2 (by omega) (.slice a2 A.n' c2)).far6 (w.heap.size + 1) (by omega) (.bool x.pm) (.slice (some ⟨g1, 0, none⟩) A.n c1) (.slice a2 A.n' c2) (.int .i64 x.on) (.int .i64 x.sp) (.int .i64 x.tk)
 have hB3 := bl_set6' (bl_set1' (bl_trans hB2 hb3) w.heap.size 2 (Nat.le_refl _) (.slice a2 A.n' c2)) (w.heap.size + 1) (by omega) (.bool x.pm) (.slice (some ⟨g1, 0, none⟩) A.n c1) (.slice a2 A.n' c2) (.int .i64 x.on) (.int .i64 x.sp) (.int .i64 x.tk)
 obtain ⟨_, p0, p1, p2, p3, p4, p5, pf⟩ := id x0
 obtain ⟨_, q0, q1, q2, q3, q4, q5, qf⟩ := id y0
 obtain ⟨_, r0, r1, r2, r3, r4, r5, rf⟩ := id z0
 obtain ⟨_, t0, t1, t2, t3, t4, t5, tf⟩ := id z1
 have dq : ∀ o, (U.alloc o).cell? ⟨w.heap.size, 2, none⟩ = some (.slice A.a' A.n' A.c') := fun o => by rw [World.cell?_alloc_old _ _ _ (Nat.ne_of_lt (World.block_lt_of_cell? U _ q2))]; exact q2
 have HN := hidOf hN2
 have HB3 := hidOf hB3
 have Hr := hidOf hr
 clear hN hN2 hB3 ho3 hb3 z0 z1 y0 y1 ho1 ho2 hB1 hB2 hb1 x0 x1 hr hg bE hz S1 HI X0 X1 HB hI1
 go_wp2_with (at_builtin; refine wpList_append_run rfl _ _ 25 rfl _ _ _ rfl rfl Hr.out ?_)
 exact bodyPost_ret (v := .agg #[.bool x.pm, .slice (some ⟨g1, 0, none⟩) A.n c1, .slice a2 A.n' c2, .int .i64 x.on, .int .i64 x.sp, .int .i64 x.tk]) (by simp [results, Try.results46, go_sem, t0, t1, t2, t3, t4, t5]) rfl ⟨_, _, _, _, rfl, HN.out.mono (by omega), HB3.out⟩
end Go.Proofs.Ytfgknbflgmblmaa
namespace Go.Proofs.Ytfgknbflgmblmaa
open Go.RowKit Go.Maps Pl Il
abbrev intsV (xs : List Int) : List Value := xs.map (Value.int .i64)
section
variable {B B' : Nat} {w w' : World} {A : Na} {ln gs : List Int}
theorem row_own {a : Option Addr} {n c : Nat} {xs : List Int} (h : w.ownsRow B 3 1 (.slice a n c) n (intsV xs)) : Il.OwnAt B w a n xs ∧ n ≤ c := by
  have hcp := own_cap h
  obtain ⟨a', c', e, ho⟩ := own_of h xs rfl
  injection e with e1 _ _
  subst e1
  exact ⟨ho, hcp⟩
end
end Go.Proofs.Ytfgknbflgmblmaa
namespace Go.Proofs.Ytfgknbflgmblmaa
open Go.RowKit Pl Il
structure NSr (B N : Nat) (A : Na) (x : Nt) (w : World) : Prop where
  box : NBox N A x w
  ge : B ≤ N
  rows : NRow B w A x
  ne1 : (Value.slice A.a A.n A.c).ownBlock ≠ some N
  ne2 : (Value.slice A.a' A.n' A.c').ownBlock ≠ some N
theorem nsr_new {B : Nat} {A : Na} {x : Nt} {w : World} (h : NRow B w A x) (hB : B ≤ w.heap.size) : NSr B w.heap.size A x (w.alloc (.cells #[.bool x.pm, .slice A.a A.n A.c, .slice A.a' A.n' A.c', .int .i64 x.on, .int .i64 x.sp, .int .i64 x.tk] 27)) :=
  ⟨NBox.new w A x _, hB, h.keep (bl_alloc (Below.refl _ _) _), fun e => Nat.lt_irrefl _ (h.one.lt _ e).2, fun e => Nat.lt_irrefl _ (h.two.lt _ e).2⟩
section
variable {B N : Nat} {A : Na} {x y : Nt} {w u : World}
theorem NRow.set (h : NRow B w A x) (N o : Nat) (h1 : (Value.slice A.a A.n A.c).ownBlock ≠ some N) (h2 : (Value.slice A.a' A.n' A.c').ownBlock ≠ some N) (v : Value) : NRow B (w.setCell ⟨N, o, none⟩ v) A x := ⟨own_set h.one N o h1 v, own_set h.two N o h2 v⟩
theorem NSr.keep (h : NSr B N A x w) (hb : Below w.heap.size w u) : NSr B N A x u := ⟨h.box.keep hb, h.ge, h.rows.keep hb, h.ne1, h.ne2⟩
theorem NSr.setc (h : NSr B N A x w) (o : Nat) (v : Value) (hb : NBox N A y (w.setCell ⟨N, o, none⟩ v)) (h1 : y.ln = x.ln) (h2 : y.gs = x.gs) : NSr B N A y (w.setCell ⟨N, o, none⟩ v) :=
  ⟨hb, h.ge, ⟨by rw [h1]; exact own_set h.rows.one N o h.ne1 v, by rw [h2]; exact own_set h.rows.two N o h.ne2 v⟩, h.ne1, h.ne2⟩
theorem NSr.line {a : Option Addr} {n c : Nat} {xs : List Int} (h : NSr B N A x w) (hr : w.ownsRow B 3 1 (.slice a n c) n (intsV xs)) (h1 : (Value.slice a n c).ownBlock ≠ some N) :
    NSr B N { A with a := a, n := n, c := c } { x with ln := xs } (w.setCell ⟨N, 1, none⟩ (.slice a n c)) :=
  ⟨h.box.set1.lists xs x.gs, h.ge, ⟨own_set hr N _ h1 _, own_set h.rows.two N _ h.ne2 _⟩, h1, h.ne2⟩
theorem NSr.below {w0 : World} (h : NSr B N A x w0) (hb : Below B w u) (o : Nat) (v : Value) : Below B w (u.setCell ⟨N, o, none⟩ v) := bl_set1' hb N o h.ge v
end
theorem nsr_fin {w : World} {A A' : Na} {x y : Nt} {u : World} (hC : NCtx w A x u) (hR : NRow (w.heap.size + 2) u A' y) :
    NOwn w.heap.size ((((((u.setCell ⟨w.heap.size + 1, 0, none⟩ (.bool y.pm)).setCell ⟨w.heap.size + 1, 1, none⟩ (.slice A'.a A'.n A'.c)).setCell ⟨w.heap.size + 1, 2, none⟩ (.slice A'.a' A'.n' A'.c')).setCell ⟨w.heap.size + 1, 3, none⟩ (.int .i64 y.on)).setCell ⟨w.heap.size + 1, 4, none⟩ (.int .i64 y.sp)).setCell ⟨w.heap.size + 1, 5, none⟩ (.int .i64 y.tk)) A' y ∧ A'.n ≤ A'.c ∧ Below w.heap.size w ((((((u.setCell ⟨w.heap.size + 1, 0, none⟩ (.bool y.pm)).setCell ⟨w.heap.size + 1, 1, none⟩ (.slice A'.a A'.n A'.c)).setCell ⟨w.heap.size + 1, 2, none⟩ (.slice A'.a' A'.n' A'.c')).setCell ⟨w.heap.size + 1, 3, none⟩ (.int .i64 y.on)).setCell ⟨w.heap.size + 1, 4, none⟩ (.int .i64 y.sp)).setCell ⟨w.heap.size + 1, 5, none⟩ (.int .i64 y.tk)) := by
  have hlt : w.heap.size + 1 < w.heap.size + 2 := by omega
  exact ⟨(hR.far6 (w.heap.size + 1) hlt _ _ _ _ _ _).own.mono (by omega), hR.cap, bl_set6' hC.below (w.heap.size + 1) (by omega) _ _ _ _ _ _⟩
/-- It is handed back, its lists rows. -/
def NOutR (w : World) (y : Nt) (r : List Value) (e : Ending) (w' : World) : Prop :=
  ∃ A' : Na, e = .returned (.tuple (#[.agg #[.bool y.pm, .slice A'.a A'.n A'.c, .slice A'.a' A'.n' A'.c', .int .i64 y.on, .int .i64 y.sp, .int .i64 y.tk]] ++ r.toArray)) ∧ NRow w.heap.size w' A' y ∧ A'.n ≤ A'.c ∧ Below w.heap.size w w'
theorem NOutR.weak {w : World} {y : Nt} {r : List Value} {e : Ending} {w' : World} (h : NOutR w y r e w') : NOutP w y r e w' := by
  obtain ⟨A', he, hr, h1⟩ := h
  exact ⟨A', he, hr.own, h1⟩
def NOutTR (w : World) (y : Nt) (l : List Int) (r : Int) (e : Ending) (w' : World) : Prop :=
  ∃ (A' : Na) (a : Option Addr) (m c : Nat), e = .returned (.tuple #[.agg #[.bool y.pm, .slice A'.a A'.n A'.c, .slice A'.a' A'.n' A'.c', .int .i64 y.on, .int .i64 y.sp, .int .i64 y.tk], .slice a m c, .int .i64 r]) ∧ NRow w.heap.size w' A' y ∧ A'.n ≤ A'.c ∧ Il.OwnAt w.heap.size w' a m l ∧ Apart3 A'.a A'.n A'.a' A'.n' a m ∧ Below w.heap.size w w'
theorem NOutTR.weak {w : World} {y : Nt} {l : List Int} {r : Int} {e : Ending} {w' : World} (h : NOutTR w y l r e w') : NOutT w y l r e w' := by
  obtain ⟨A', a, m, c, he, hr, h1⟩ := h
  exact ⟨A', a, m, c, he, hr.own, h1⟩
theorem nsr_finR {w : World} {A A' : Na} {x y : Nt} {u : World} (hC : NCtx w A x u) (hR : NRow (w.heap.size + 2) u A' y) :
    NRow w.heap.size ((((((u.setCell ⟨w.heap.size + 1, 0, none⟩ (.bool y.pm)).setCell ⟨w.heap.size + 1, 1, none⟩ (.slice A'.a A'.n A'.c)).setCell ⟨w.heap.size + 1, 2, none⟩ (.slice A'.a' A'.n' A'.c')).setCell ⟨w.heap.size + 1, 3, none⟩ (.int .i64 y.on)).setCell ⟨w.heap.size + 1, 4, none⟩ (.int .i64 y.sp)).setCell ⟨w.heap.size + 1, 5, none⟩ (.int .i64 y.tk)) A' y ∧ A'.n ≤ A'.c ∧ Below w.heap.size w ((((((u.setCell ⟨w.heap.size + 1, 0, none⟩ (.bool y.pm)).setCell ⟨w.heap.size + 1, 1, none⟩ (.slice A'.a A'.n A'.c)).setCell ⟨w.heap.size + 1, 2, none⟩ (.slice A'.a' A'.n' A'.c')).setCell ⟨w.heap.size + 1, 3, none⟩ (.int .i64 y.on)).setCell ⟨w.heap.size + 1, 4, none⟩ (.int .i64 y.sp)).setCell ⟨w.heap.size + 1, 5, none⟩ (.int .i64 y.tk)) := by
  have hlt : w.heap.size + 1 < w.heap.size + 2 := by omega
  exact ⟨(hR.far6 (w.heap.size + 1) hlt _ _ _ _ _ _).mono (by omega), hR.cap, bl_set6' hC.below (w.heap.size + 1) (by omega) _ _ _ _ _ _⟩
end Go.Proofs.Ytfgknbflgmblmaa
