/-
  Walks of the laws' own helpers on rings: marked, and held
  Rings under a marking of another one
  What a slice of terms among the arguments gives the walks
  A step that only reads is taken first, in a region whose order is draw
-/
import Derived.Test.YtdboaoejlkkoeaaGreatZPu8
import Derived.Deep.SlicePairs
namespace Go.Proofs.YtdboaoejlkkoeaaGreat
open Go.RowKit Pl Il
def mkM (k : Nat) (M : Rm) : Rm := { M with xs := mkSs (k + 3 * M.i) M.xs }
def mkV (k : Nat) (M : Rm) (v : Rv) : Rv := ⟨v.cp, v.se, marksF k M.i, v.nx, svs (mkSs (k + 3 * M.i) M.xs), marks ((k + 3 * M.i + cntS M.xs : Nat) : Int) M.l, marks ((k + 3 * M.i + cntS M.xs + M.l : Nat) : Int) M.g, v.cl⟩
def cntR (M : Rm) : Nat := 3 * M.i + cntS M.xs + M.l + M.g
theorem cap_mk (k : Nat) {M : Rm} (h : RCap M) : RCap (mkM k M) := ⟨h.1, h.2.1, h.2.2.1, h.2.2.2.1, fun x hx => by
  obtain ⟨i, hi, rfl⟩ := List.getElem_of_mem hx
  have hi' : i < M.xs.length := by have := hi; simp only [mkM, mkSs_len] at this; exact this
  have e : (mkM k M).xs[i] = mkSa (k + 3 * M.i + cntS (M.xs.take i)) (sg M.xs i) := by
    have := mkSs_get (k := k + 3 * M.i) hi'
    rw [sg_eq (by rw [mkSs_len]; exact hi')] at this
    exact this
  rw [e]
  show (sg M.xs i).n ≤ (sg M.xs i).c
  exact h.2.2.2.2 _ (sg_mem hi')⟩
theorem mkSs_maps (k : Nat) (xs : List Sa) : (mkSs k xs).map (fun x => (x.a, x.n)) = xs.map fun x => (x.a, x.n) := by
  refine List.ext_getElem (by simp [mkSs_len]) fun i h1 h2 => ?_
  have hi : i < xs.length := by simpa using h2
  rw [List.getElem_map, List.getElem_map, ← sg_eq (by rw [mkSs_len]; exact hi), ← sg_eq hi, mkSs_get hi]
  rfl
theorem allR_mk (k : Nat) (M : Rm) : allR (mkM k M) = allR M := by
  unfold allR mkM
  simp only [mkSs_maps]
structure RFar (M : Rm) : Prop where
  is : Far M.ia M.i M.sa M.s
  il : Far M.ia M.i M.la M.l
  ig : Far M.ia M.i M.ga M.g
  ix : ∀ x, x ∈ M.xs → Far M.ia M.i x.a x.n
  sl : Far M.sa M.s M.la M.l
  sg : Far M.sa M.s M.ga M.g
  sx : ∀ x, x ∈ M.xs → Far M.sa M.s x.a x.n
  lg : Far M.la M.l M.ga M.g
  lx : ∀ x, x ∈ M.xs → Far M.la M.l x.a x.n
  gx : ∀ x, x ∈ M.xs → Far M.ga M.g x.a x.n
theorem rfar {M : Rm} (h : (allR M).Pairwise fun p q => Far p.1 p.2 q.1 q.2) : RFar M := by
  unfold allR at h
  simp only [List.pairwise_cons, List.mem_cons, List.mem_map] at h
  obtain ⟨hi, hs, hl, hg, _⟩ := h
  exact ⟨hi _ (.inl rfl), hi _ (.inr (.inl rfl)), hi _ (.inr (.inr (.inl rfl))), fun x hx => hi _ (.inr (.inr (.inr ⟨x, hx, rfl⟩))), hs _ (.inl rfl), hs _ (.inr (.inl rfl)), fun x hx => hs _ (.inr (.inr ⟨x, hx, rfl⟩)), hl _ (.inl rfl), fun x hx => hl _ (.inr ⟨x, hx, rfl⟩), fun x hx => hg _ ⟨x, hx, rfl⟩⟩
theorem mem_singleF {a a' : Option Addr} {n n' : Nat} (h : Far a n a' n') : ∀ p, p ∈ [(a, n)] → Far p.1 p.2 a' n' := fun p hp => by rw [List.mem_singleton.1 hp]; exact h
theorem mem_subsF {a a' : Option Addr} {n n' : Nat} {xs : List Sa} (h : Far a n a' n') (hx : ∀ x, x ∈ xs → Far x.a x.n a' n') : ∀ p, p ∈ ((a, n) :: xs.map fun x => (x.a, x.n)) → Far p.1 p.2 a' n' := fun p hp => by
  rcases List.mem_cons.1 hp with rfl | hp
  · exact h
  · obtain ⟨x, hm, rfl⟩ := List.mem_map.1 hp
    exact hx x hm
theorem mkSs_far {k : Nat} {xs : List Sa} {a : Option Addr} {n : Nat} (h : ∀ x, x ∈ xs → Far a n x.a x.n) : ∀ y, y ∈ mkSs k xs → Far a n y.a y.n := fun y hy => by
  obtain ⟨i, hi, rfl⟩ := List.getElem_of_mem hy
  rw [mkSs_len] at hi
  rw [← sg_eq (by rw [mkSs_len]; exact hi), mkSs_get hi]
  exact (show Far a n (sg xs i).a (sg xs i).n from h _ (sg_mem hi))
theorem BoxL.turn {N : Nat} {vs : List Value} {ls : List (Option Addr × Nat)} {w w' : World} (h : BoxL N vs w) (ht : TurnL ls w w') (hn : ∀ p, p ∈ ls → Und p.1 p.2 N) : BoxL N vs w' :=
  h.of_block (ht.block N h.lt fun p hp h0 off e => by
    rcases hn p hp with q | q
    · omega
    · have := q _ _ e; omega) (Nat.lt_of_lt_of_le h.lt ht.size)
theorem RIn.und {w : World} {M : Rm} {v : Rv} (h : RIn w M v) : ∀ p, p ∈ allR M → Und p.1 p.2 w.heap.size := fun p hp => by
  unfold allR at hp
  simp only [List.mem_cons, List.mem_map] at hp
  rcases hp with rfl | rfl | rfl | rfl | ⟨x, hx, rfl⟩
  · exact h.it.lt
  · exact h.sb.lt
  · exact und_ints h.ln
  · exact und_ints h.gs
  · exact (h.sb.fil x hx).lt
set_option maxRecDepth 100000 in
set_option maxHeartbeats 4000000 in
theorem markRing_any (B : Nat) (M : Rm) (v : Rv) (k : Nat) (w : World) (hO : ROwn B w M v) (hm : RLe M 2097152) (k0 : 0 < k) (k1 : k ≤ 100000000) :
  Calls Tryz.prog 52 #[.agg #[.int .i64 v.cp, .int .i64 v.se, .slice M.ia M.i M.ic, .int .i64 v.nx, .slice M.sa M.s M.sc, .slice M.la M.l M.lc, .slice M.ga M.g M.gc, .bool v.cl], .int .i64 (k : Int)] w fun e w' => e = .returned (.int .i64 ((k + cntR M : Nat) : Int)) ∧ ROwn B w' (mkM k M) (mkV k M v) ∧ TurnL (allR M) w w' := by
 obtain ⟨W0, hW0⟩ : ∃ W, W = w.alloc (.cells #[.int .i64 v.cp, .int .i64 v.se, .slice M.ia M.i M.ic, .int .i64 v.nx, .slice M.sa M.s M.sc, .slice M.la M.l M.lc, .slice M.ga M.g M.gc, .bool v.cl] 28) := ⟨_, rfl⟩
 have b0 : Below w.heap.size w W0 := by rw [hW0]; exact bl_alloc (Below.refl _ _) _
 have X0 : BoxL w.heap.size (rC M v) W0 := by rw [hW0]; exact BoxL.new w (rC M v) _
 have hF := rfar hO.apt
 have HCapM := hidOf (cap_mk k hO.cap)
 have h0 := hO.keep b0
 have hA := hO.apt
 have hu1 := und_ints h0.ln.ints
 have T0 := hidOf (TurnL.ofBelow (ls := allR M) b0)
 have p2 := X0.cs 2 (by simp)
 simp at p2
 have hmi := hm.i
 have hct := cntS_le hm.f M.xs.length
 rw [List.take_length, hO.sb.sub.len] at hct
 have hms := hm.s
 have hml := hm.l
 have hmg := hm.g
 have nb := hO.rin.und
 have nI : ∀ p, p ∈ [(M.ia, M.i)] → Und p.1 p.2 w.heap.size := fun p hp => nb p (by rw [List.mem_singleton.1 hp]; simp [allR])
 have nL : ∀ p, p ∈ [(M.la, M.l)] → Und p.1 p.2 w.heap.size := fun p hp => nb p (by rw [List.mem_singleton.1 hp]; simp [allR])
 have nG : ∀ p, p ∈ [(M.ga, M.g)] → Und p.1 p.2 w.heap.size := fun p hp => nb p (by rw [List.mem_singleton.1 hp]; simp [allR])
 have inS : ∀ p, p ∈ ((M.sa, M.s) :: M.xs.map fun x => (x.a, x.n)) → p ∈ allR M := fun p hp => by
  rcases List.mem_cons.1 hp with rfl | hp
  ·simp [allR]
  ·unfold allR
   exact List.mem_cons_of_mem _ (List.mem_cons_of_mem _ (List.mem_cons_of_mem _ (List.mem_cons_of_mem _ hp)))
 have nS : ∀ p, p ∈ ((M.sa, M.s) :: M.xs.map fun x => (x.a, x.n)) → Und p.1 p.2 w.heap.size := fun p hp => nb p (inS p hp)
 have HH := hidOf h0
 have HFar := hidOf hF
 have HA := hidOf hA
 have NI := hidOf nI
 have NL := hidOf nL
 have NG := hidOf nG
 have NS := hidOf nS
 have IS := hidOf inS
 have HMF := hidOf hm.f
 clear hO hm h0 hF hA nI nL nG nS inS nb hu1 b0
 go_enter Tryz.func52, Tryz.ntmps52
 go_wp2_with fail
 rw [← hW0]
 clear hW0
 refine (markMsgS_any B M.ia M.i M.ic v.it k _ HH.out.it hmi k0 (by omega)).mono ?_
 rintro e w1 ⟨rfl, o1, f1⟩
 have t1 := TurnL.ofF f1
 have x1 := X0.turn t1 NI.out
 have s1 := HH.out.sb.turn t1 (mem_singleF HFar.out.is) (fun x hx => mem_singleF (HFar.out.ix x hx))
 have l1 := HH.out.ln.turn t1 (mem_singleF HFar.out.il)
 have g1 := HH.out.gs.turn t1 (mem_singleF HFar.out.ig)
 have T1 := hidOf (T0.out.trans (t1.mono fun p hp => by rw [List.mem_singleton.1 hp]; simp [allR]))
 have O1 := hidOf o1
 have L1 := hidOf l1
 have G1 := hidOf g1
 have HC := hidOf (markSubS_any B M.sa M.s M.sc M.xs (k + 3 * M.i) w1 s1 hms HMF.out (by omega) (by omega))
 have p4 := x1.cs 4 (by simp)
 simp at p4
 clear f1 t1 s1 l1 g1 o1 X0 p2 HH T0
 go_wp2_with fail
 refine (HC.out).mono ?_
 rintro e w2 ⟨rfl, s2, t2⟩
 have x2 := x1.turn t2 NS.out
 have o2 := O1.out.turn t2 (mem_subsF HFar.out.is.symm fun x hx => (HFar.out.ix x hx).symm)
 have l2 := L1.out.turn t2 (mem_subsF HFar.out.sl fun x hx => (HFar.out.lx x hx).symm)
 have g2 := G1.out.turn t2 (mem_subsF HFar.out.sg fun x hx => (HFar.out.gx x hx).symm)
 have T2 := hidOf (T1.out.trans (t2.mono IS.out))
 have O2 := hidOf o2
 have G2 := hidOf g2
 have S2 := hidOf s2
 have HC2 := hidOf (markIntW_any B M.la M.l M.lc v.ln ((k + 3 * M.i + cntS M.xs : Nat) : Int) w2 l2 hml (by omega) (by omega))
 have p5 := x2.cs 5 (by simp)
 simp at p5
 clear t2 s2 l2 g2 o2 x1 p4 T1 O1 L1 G1 HC
 go_wp2_with fail
 refine (HC2.out).mono ?_
 rintro e w3 ⟨rfl, l3, f3⟩
 have t3 := TurnL.ofI f3
 have x3 := x2.turn t3 NL.out
 have o3 := O2.out.turn t3 (mem_singleF HFar.out.il.symm)
 have s3 := S2.out.turn t3 (mem_singleF HFar.out.sl.symm) (fun y hy => mem_singleF (mkSs_far (fun x hx => HFar.out.lx x hx) y hy))
 have g3 := G2.out.turn t3 (mem_singleF HFar.out.lg)
 have T3 := hidOf (T2.out.trans (t3.mono fun p hp => by rw [List.mem_singleton.1 hp]; simp [allR]))
 have O3 := hidOf o3
 have L3 := hidOf l3
 have S3 := hidOf s3
 have e3 : ((k + 3 * M.i + cntS M.xs : Nat) : Int) + (M.l : Int) = ((k + 3 * M.i + cntS M.xs + M.l : Nat) : Int) := by omega
 have HC3 := hidOf (markIntW_any B M.ga M.g M.gc v.gs ((k + 3 * M.i + cntS M.xs + M.l : Nat) : Int) w3 g3 hmg (by omega) (by omega))
 have p6 := x3.cs 6 (by simp)
 simp at p6
 clear t3 s3 l3 g3 o3 x2 p5 T2 O2 G2 S2 HC2 f3
 rw [e3]
 have E3 := hidOf e3
 clear e3
 go_wp2_with fail
 refine (HC3.out).mono ?_
 rintro e w4 ⟨rfl, g4, f4⟩
 have t4 := TurnL.ofI f4
 have o4 := O3.out.turn t4 (mem_singleF HFar.out.ig.symm)
 have s4 := S3.out.turn t4 (mem_singleF HFar.out.sg.symm) (fun y hy => mem_singleF (mkSs_far (fun x hx => HFar.out.gx x hx) y hy))
 have l4 := L3.out.turn t4 (mem_singleF HFar.out.lg.symm)
 have HR := hidOf (show ROwn B w4 (mkM k M) (mkV k M v) from ⟨o4, s4, rfl, l4, g4, by rw [allR_mk]; exact HA.out, HCapM.out⟩)
 have T4 := hidOf (T3.out.trans (t4.mono fun p hp => by rw [List.mem_singleton.1 hp]; simp [allR]))
 clear t4 s4 l4 o4 g4 x3 p6 T3 O3 L3 S3 HC3 f4
 go_wp2
 go_ret
 exact ⟨rint (by unfold cntR; omega), HR.out, T4.out⟩
set_option maxRecDepth 100000 in
set_option maxHeartbeats 4000000 in
theorem heldRing_marks (M : Rm) (v v' : Rv) (k : Nat) (w : World) (hI : RIn w (mkM k M) (mkV k M v)) (hm : RLe M 2097152) (k0 : 0 < k) (k1 : k ≤ 100000000) (hl : M.xs.length = M.s) :
    Calls Tryz.prog 54 #[.agg #[.int .i64 v'.cp, .int .i64 v'.se, .slice M.ia M.i M.ic, .int .i64 v'.nx, .slice M.sa M.s M.sc, .slice M.la M.l M.lc, .slice M.ga M.g M.gc, .bool v'.cl], .int .i64 (k : Int)] w fun e w' => e = .returned (.int .i64 ((k + cntR M : Nat) : Int)) ∧ Below w.heap.size w w' := by
  obtain ⟨W0, hW0⟩ : ∃ W, W = w.alloc (.cells #[.int .i64 v'.cp, .int .i64 v'.se, .slice M.ia M.i M.ic, .int .i64 v'.nx, .slice M.sa M.s M.sc, .slice M.la M.l M.lc, .slice M.ga M.g M.gc, .bool v'.cl] 28) := ⟨_, rfl⟩
  have b0 : Below w.heap.size w W0 := by rw [hW0]; exact bl_alloc (Below.refl _ _) _
  have X0 : BoxL w.heap.size (rC M v') W0 := by rw [hW0]; exact BoxL.new w (rC M v') _
  have h0 := hI.keep b0
  have p2 := X0.cs 2 (by simp)
  simp at p2
  have hmi := hm.i
  have hct := cntS_le hm.f M.xs.length
  rw [List.take_length, hl] at hct
  have hms := hm.s
  have hml := hm.l
  have hmg := hm.g
  have HMF := hidOf hm.f
  have HH := hidOf h0
  have B0 := hidOf b0
  clear hI hm h0 b0 hl
  go_enter Tryz.func54, Tryz.ntmps54
  go_wp2_with fail
  rw [← hW0]
  clear hW0
  refine (heldMsgS_marks M.ia M.i M.ic k _ HH.out.it hmi k0 (by omega)).mono ?_
  rintro e w1 ⟨rfl, b1⟩
  have x1 := X0.keep b1
  have H1 := hidOf (HH.out.keep b1)
  have B1 := hidOf (bl_trans B0.out b1)
  have n1 : ¬ ((k + 3 * M.i : Nat) : Int) < 0 := by omega
  have HC := hidOf (heldSubS_marks M.sa M.s M.sc (k + 3 * M.i) M.xs w1 H1.out.sb hms HMF.out (by omega) (by omega))
  have p4 := x1.cs 4 (by simp)
  simp at p4
  clear b1 X0 p2 HH B0
  go_wp2_with fail
  refine (HC.out).mono ?_
  rintro e w2 ⟨rfl, b2⟩
  have x2 := x1.keep b2
  have H2 := hidOf (H1.out.keep b2)
  have B2 := hidOf (bl_trans B1.out b2)
  have n2 : ¬ ((k + 3 * M.i + cntS M.xs : Nat) : Int) < 0 := by omega
  have HC2 := hidOf (heldIntW_marks M.la M.l M.lc ((k + 3 * M.i + cntS M.xs : Nat) : Int) w2 H2.out.ln hml (by omega) (by omega))
  have p5 := x2.cs 5 (by simp)
  simp at p5
  clear b2 x1 p4 H1 B1 HC n1
  go_wp2_with fail
  refine (HC2.out).mono ?_
  rintro e w3 ⟨rfl, rfl⟩
  have e3 : ((k + 3 * M.i + cntS M.xs : Nat) : Int) + (M.l : Int) = ((k + 3 * M.i + cntS M.xs + M.l : Nat) : Int) := by omega
  have n3 : ¬ ((k + 3 * M.i + cntS M.xs + M.l : Nat) : Int) < 0 := by omega
  have HC3 := hidOf (heldIntW_marks M.ga M.g M.gc ((k + 3 * M.i + cntS M.xs + M.l : Nat) : Int) w3 H2.out.gs hmg (by omega) (by omega))
  have p6 := x2.cs 6 (by simp)
  simp at p6
  clear x2 p5 HC2 n2
  rw [e3]
  clear e3
  go_wp2_with fail
  refine (HC3.out).mono ?_
  rintro e w4 ⟨rfl, rfl⟩
  have n4 : ¬ ((k + 3 * M.i + cntS M.xs + M.l : Nat) : Int) + (M.g : Int) < 0 := by omega
  clear p6 HC3 n3
  go_wp2
  go_ret
  exact ⟨rint (by unfold cntR; omega), B2.out⟩
open Go.RowKit Pl Il
theorem RIn.turn {ls : List (Option Addr × Nat)} {w w' : World} {M : Rm} {v : Rv} (h : RIn w M v) (ht : TurnL ls w w') (hf : ∀ p, p ∈ ls → ∀ q, q ∈ allR M → Far p.1 p.2 q.1 q.2) : RIn w' M v :=
  ⟨h.it.turn ht fun p hp => hf p hp (M.ia, M.i) (by simp [allR]), h.sb.turn ht (fun p hp => hf p hp (M.sa, M.s) (by simp [allR])) (fun x hx p hp => hf p hp (x.a, x.n) (by
    unfold allR
    exact List.mem_cons_of_mem _ (List.mem_cons_of_mem _ (List.mem_cons_of_mem _ (List.mem_cons_of_mem _ (List.mem_map.2 ⟨x, hx, rfl⟩)))))), h.sv, IntsAt.turn h.ln ht fun p hp => hf p hp (M.la, M.l) (by simp [allR]), IntsAt.turn h.gs ht fun p hp => hf p hp (M.ga, M.g) (by simp [allR])⟩
theorem ROwn.turn {ls : List (Option Addr × Nat)} {B : Nat} {w w' : World} {M : Rm} {v : Rv} (h : ROwn B w M v) (ht : TurnL ls w w') (hf : ∀ p, p ∈ ls → ∀ q, q ∈ allR M → Far p.1 p.2 q.1 q.2) : ROwn B w' M v :=
  ⟨h.it.turn ht fun p hp => hf p hp (M.ia, M.i) (by simp [allR]), h.sb.turn ht (fun p hp => hf p hp (M.sa, M.s) (by simp [allR])) (fun x hx p hp => hf p hp (x.a, x.n) (by
    unfold allR
    exact List.mem_cons_of_mem _ (List.mem_cons_of_mem _ (List.mem_cons_of_mem _ (List.mem_cons_of_mem _ (List.mem_map.2 ⟨x, hx, rfl⟩)))))), h.sv, Il.OwnAt.turn h.ln ht fun p hp => hf p hp (M.la, M.l) (by simp [allR]), Il.OwnAt.turn h.gs ht (fun p hp => hf p hp (M.ga, M.g) (by simp [allR])), h.apt, h.cap⟩
theorem BoxL.turnA {N K : Nat} {vs : List Value} {ls : List (Option Addr × Nat)} {w w' : World} (h : BoxL N vs w) (ht : TurnL ls w w') (hk : N < K) (hn : ∀ p, p ∈ ls → Abv p.1 p.2 K) : BoxL N vs w' :=
  h.of_block (ht.block N h.lt fun p hp h0 off e => by
    rcases hn p hp with q | q
    · omega
    · have := q _ _ e; omega) (Nat.lt_of_lt_of_le h.lt ht.size)
theorem abv_ints {B : Nat} {w : World} {a : Option Addr} {n : Nat} {xs : List Int} (h : Il.OwnAt B w a n xs) : Abv a n B := by
  rcases h.own with k | ⟨b', off', e, hB, _⟩
  · exact .inl k
  · exact .inr fun b1 o1 e1 => by rw [e] at e1; cases e1; exact hB
theorem OwnS.abv {B : Nat} {w : World} {a : Option Addr} {n : Nat} {xs : List Sa} (h : OwnS B w a n xs) : Abv a n B := by
  rcases h.own with k | ⟨b', off', e, hB, _⟩
  · exact .inl k
  · exact .inr fun b1 o1 e1 => by rw [e] at e1; cases e1; exact hB
theorem ROwn.abv {B : Nat} {w : World} {M : Rm} {v : Rv} (h : ROwn B w M v) : ∀ p, p ∈ allR M → Abv p.1 p.2 B := fun p hp => by
  unfold allR at hp
  simp only [List.mem_cons, List.mem_map] at hp
  rcases hp with rfl | rfl | rfl | rfl | ⟨x, hx, rfl⟩
  · exact h.it.abv
  · exact h.sb.abv
  · exact abv_ints h.ln
  · exact abv_ints h.gs
  · exact (h.sb.fow x hx).abv
end Go.Proofs.YtdboaoejlkkoeaaGreat
namespace Go.Proofs.YtdboaoejlkkoeaaGreat
open Go.ChangeShapes Go.WideShapes Go.ChangeAt Go.RowKit Go.Joins Go.Deep Il
theorem cellsT3 : Tryz.prog.cellsOf 131 = 3 := by kernel_rfl
theorem cellsTi : Tryz.prog.cellsOf 3 = 1 := by kernel_rfl
theorem cellsTs : Tryz.prog.cellsOf 9 = 1 := by kernel_rfl
theorem term_cells {H : Type} {enc : TypeId × Value → H} {W : World} {base n : Nat} {sp : Nat → Bool} {held : Bool} {c0 c1 c2 : Value} {y : DataW H × List MemPlace} (hf : DataW.trod enc Tryz.prog W base sp held n 131 [c0, c1, c2] = some y) :
    ∃ (k m : Int) (s : ByteArray), c0 = .int .i64 k ∧ c1 = .int .i64 m ∧ c2 = .string s ∧ s.size ≤ maxLen := by
  obtain ⟨xs, n, _, _, hl, hlen, hff⟩ := DataW.trod_struct Tryz.underlying131 hf
  match xs, hlen with
  | [y0, y1, y2], _ =>
    have q0 : DataW.trod enc Tryz.prog W base sp held n 3 [c0] = some y0 := by simpa [cellsTi] using hff 0 _ rfl
    have q1 : DataW.trod enc Tryz.prog W base sp held n 3 [c1] = some y1 := by simpa [cellsTi] using hff 1 _ rfl
    have q2 : DataW.trod enc Tryz.prog W base sp held n 9 [c2] = some y2 := by simpa [cellsTs] using hff 2 _ rfl
    obtain ⟨k, e0, _, _⟩ := DataW.trod_int Tryz.underlying3 q0
    obtain ⟨m, e1, _, _⟩ := DataW.trod_int Tryz.underlying3 q1
    obtain ⟨s, e2, _, hs⟩ := DataW.trod_string Tryz.underlying9 q2
    simp at e0 e1 e2
    exact ⟨k, m, s, e0, e1, e2, hs⟩
theorem fn_ofT {α : Type} {m : Nat} {R : Nat → α → Prop} (d : α) (h : ∀ i, i < m → ∃ x, R i x) : ∃ f : Nat → α, ∀ i, i < m → R i (f i) := by
  classical
  refine ⟨fun i => if hi : i < m then Classical.choose (h i hi) else d, fun i hi => ?_⟩
  simp only [hi, dif_pos]
  exact Classical.choose_spec (h i hi)
theorem terms_of {H : Type} {enc : TypeId × Value → H} {W : World} {base fuel : Nat} {sp : Nat → Bool} {held : Bool} {a : Option Addr} {len cap : Nat} {x : DataW H × List MemPlace}
    (hf : DataW.trod enc Tryz.prog W base sp held fuel 77 (Value.slice a len cap).cells.toList = some x) : len ≤ 9223372036854775807 ∧ ∃ ts, TmAt W a len ts := by
  rcases open_slice Tryz.underlying77 hf with ⟨hcs, _⟩ | ⟨ad, l, c, m, n, D, Pl, hcs, _, hl, hm, hmm, _, hx⟩
  · simp [Value.cells] at hcs
    obtain ⟨rfl, rfl, rfl⟩ := hcs
    exact ⟨by omega, [], TmAt.nil _ _⟩
  · simp [Value.cells] at hcs
    obtain ⟨rfl, rfl, rfl⟩ := hcs
    have hlm : len ≤ m := by rw [hmm]; split <;> omega
    have hlx : len ≤ 9223372036854775807 := by unfold maxLen at hm; omega
    obtain ⟨f, hfn⟩ := fn_ofT (α := Tm) (0, 0, noT) (fun i (hi : i < len) => by
      obtain ⟨cs, h1, h2⟩ := hx i (by omega)
      rw [cellsT3] at h1
      obtain ⟨_, hlen, hcell⟩ := World.cells?_some h1
      match cs, hlen with
      | [c0, c1, c2], _ =>
        obtain ⟨k, q, s, rfl, rfl, rfl, hs⟩ := term_cells h2
        have e0 := hcell 0 (by omega)
        have e1 := hcell 1 (by omega)
        have e2 := hcell 2 (by omega)
        rw [add_add] at e0 e1 e2
        exact (⟨(k, q, s), by simpa using e0, by simpa using e1, by simpa using e2, hs⟩ : ∃ p : Tm, W.cell? (ad.add (i * 3)) = some (.int .i64 p.1) ∧ W.cell? (ad.add (i * 3 + 1)) = some (.int .i64 p.2.1) ∧ W.cell? (ad.add (i * 3 + 2)) = some (.string p.2.2) ∧ p.2.2.size ≤ maxLen))
    refine ⟨hlx, (List.range len).map f, ⟨by simp, fun p hp => ?_, ?_⟩⟩
    · simp only [List.mem_map, List.mem_range] at hp
      obtain ⟨i, hi, rfl⟩ := hp
      exact (hfn i hi).2.2.2
    rcases Nat.eq_zero_or_pos len with h | hpos
    · exact .inl h
    · obtain ⟨b, off, spot⟩ := ad
      have hc := (hfn 0 hpos).1
      have hspot : spot = none := by simpa [Addr.add] using World.cell?_spot hc
      subst hspot
      have hb : b < W.heap.size := by
        rw [Addr.add_lit] at hc
        rcases Nat.lt_or_ge b W.heap.size with h | h
        · exact h
        · simp [World.cell?, Array.getElem?_eq_none h] at hc
      refine .inr ⟨b, off, rfl, hb, fun i hi => ?_⟩
      obtain ⟨q0, q1, q2, _⟩ := hfn i hi
      rw [Addr.add_lit] at q0 q1 q2
      have e : qg ((List.range len).map f) i = f i := by simp [qg, List.getD, hi]
      rw [e, Nat.add_assoc, Nat.add_assoc]
      exact ⟨q0, q1, q2⟩
end Go.Proofs.YtdboaoejlkkoeaaGreat
namespace Go.Proofs.YtdboaoejlkkoeaaGreat
theorem tK {P : Program} {ops : Array Oper} {Q : Exit → Act → World → Prop} {md : Region.Mode} {S : World → Prop} (i : Nat) {oi : Oper} (v : Value) {fuel : Nat} {listed : Array Bool} {a : Act} {w : World} (hi : ops[i]? = some oi)
    (hb : (Region.noSelect ops && (Region.free md ops listed i && (Region.ready md ops listed).contains i)) = true) (hw : Region.wanted oi (yielded ops a.tmps) = true) (hv : ∀ w, S w → (execOp a.eval oi).run P w = .ok (.value v) w) (hS : S w)
    (hQ : ∀ c a w, Q (.panic c) (a.put oi.dst v) w → Q (.panic c) a w) (h : wpAnyH P md ops Q S fuel (listed.setIfInBounds i true) (a.put oi.dst v) w) : wpAnyH P md ops Q S (fuel + 1) listed a w := by
  simp only [Bool.and_eq_true] at hb
  exact wpAnyH_take (i := i) (v := v) hi hb.1 hb.2.1 hb.2.2 hQ (Or.inl ⟨hw, hv⟩) hS h
theorem tR {P : Program} {ops : Array Oper} {Q : Exit → Act → World → Prop} {md : Region.Mode} {S : World → Prop} (i : Nat) {oi : Oper} {v : Value} {fuel : Nat} {listed L : Array Bool} {a b : Act} {w : World} (h : wpAnyH P md ops Q S fuel L b w) (hi : ops[i]? = some oi := by rfl)
    (hb : (Region.noSelect ops && (Region.free md ops listed i && (Region.ready md ops listed).contains i)) = true := by kernel_rfl) (hw : Region.wanted oi (yielded ops a.tmps) = true := by rfl)
    (hv : ∀ w, S w → (execOp a.eval oi).run P w = .ok (.value v) w := by (intro w hSw; (try dsimp only at hSw); go_simp; try with_reducible rfl)) (hS : S w := by assumption)
    (ha : a.put oi.dst v = b := by ((try simp only [Act.put, zGA, zG0, zGC, zSA, zS0, zSC]); try rfl))
    (hL : listed.setIfInBounds i true = L := by ((try simp only [Act.put, zGA, zG0, zGC, zSA, zS0, zSC]); try rfl))
    (hQ : ∀ c a w, Q (.panic c) (a.put oi.dst v) w → Q (.panic c) a w := by exact fun _ _ _ h => h) : wpAnyH P md ops Q S (fuel + 1) listed a w := by
  simp only [Bool.and_eq_true] at hb
  subst ha; subst hL
  exact wpAnyH_take (i := i) (v := v) hi hb.1 hb.2.1 hb.2.2 hQ (Or.inl ⟨hw, hv⟩) hS h
theorem tU {P : Program} {ops : Array Oper} {Q : Exit → Act → World → Prop} {md : Region.Mode} {S : World → Prop} (i : Nat) {oi : Oper} {fuel : Nat} {listed L : Array Bool} {a b : Act} {w : World} (h : wpAnyH P md ops Q S fuel L b w) (hi : ops[i]? = some oi := by rfl)
    (hb : (Region.noSelect ops && (Region.free md ops listed i && (Region.ready md ops listed).contains i)) = true := by kernel_rfl) (hw : Region.wanted oi (yielded ops a.tmps) = false := by rfl) (hS : S w := by assumption)
    (ha : a.put oi.dst undef = b := by ((try simp only [Act.put, zGA, zG0, zGC, zSA, zS0, zSC]); try rfl))
    (hL : listed.setIfInBounds i true = L := by ((try simp only [Act.put, zGA, zG0, zGC, zSA, zS0, zSC]); try rfl))
    (hQ : ∀ c a w, Q (.panic c) (a.put oi.dst undef) w → Q (.panic c) a w := by exact fun _ _ _ h => h) : wpAnyH P md ops Q S (fuel + 1) listed a w := by
  simp only [Bool.and_eq_true] at hb
  subst ha; subst hL
  exact wpAnyH_take (i := i) (v := undef) hi hb.1 hb.2.1 hb.2.2 hQ (Or.inr ⟨hw, rfl⟩) hS h
theorem tW {P : Program} {ops : Array Oper} {Q : Exit → Act → World → Prop} {md : Region.Mode} {S : World → Prop} (i : Nat) {o : Oper} {fuel : Nat} {listed : Array Bool} {a : Act} {w : World}
    (h : ∀ K' : Act → World → Prop, Shut (∀ a w, S w → (S w → wpAnyH P md ops Q S fuel (listed.setIfInBounds i true) a w) → K' a w) → if Region.wanted o (yielded ops a.tmps) = true then Oper.wp P o a w K' Q else K' (a.put o.dst undef) w)
    (hr : Region.ready md ops listed = [i] := by kernel_rfl) (ho : ops[i]? = some o := by rfl) : wpAnyH P md ops Q S (fuel + 1) listed a w :=
  wpAnyH_ready hr (by simp) (AllReadyH.cons ho h AllReadyH.nil)
end Go.Proofs.YtdboaoejlkkoeaaGreat
