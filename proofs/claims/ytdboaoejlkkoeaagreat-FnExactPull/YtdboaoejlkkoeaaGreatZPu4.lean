/-
  Rings in memory: what they read as; the laws' own helpers on them: wei
  Walks of the laws' own helpers on messages: marked
  The laws' own marks of numbers, with wide bounds
-/
import Derived.Test.YtdboaoejlkkoeaaGreatZPu3
import Derived.Test.YtdboaoejlkkoeaaGreatZPu6
namespace Go.Proofs.YtdboaoejlkkoeaaGreat
open Go.RowKit Pl Il
structure Rv where
  cp : Int
  se : Int
  it : List Tm
  nx : Int
  sb : List Sb
  ln : List Int
  gs : List Int
  cl : Bool
structure Rm where
  ia : Option Addr
  i : Nat
  ic : Nat
  sa : Option Addr
  s : Nat
  sc : Nat
  xs : List Sa
  la : Option Addr
  l : Nat
  lc : Nat
  ga : Option Addr
  g : Nat
  gc : Nat
abbrev rC (M : Rm) (v : Rv) : List Value := [.int .i64 v.cp, .int .i64 v.se, .slice M.ia M.i M.ic, .int .i64 v.nx, .slice M.sa M.s M.sc, .slice M.la M.l M.lc, .slice M.ga M.g M.gc, .bool v.cl]
structure RIn (w : World) (M : Rm) (v : Rv) : Prop where
  it : TmAt w M.ia M.i v.it
  sb : SubAt w M.sa M.s M.xs
  sv : svs M.xs = v.sb
  ln : IntsAt w M.la M.l v.ln
  gs : IntsAt w M.ga M.g v.gs
theorem RIn.keep {w w' : World} {M : Rm} {v : Rv} (h : RIn w M v) (hb : Below w.heap.size w w') : RIn w' M v := ⟨h.it.keep hb, h.sb.keep hb, h.sv, h.ln.keep hb, h.gs.keep hb⟩
structure RLe (M : Rm) (k : Nat) : Prop where
  i : M.i ≤ k
  s : M.s ≤ k
  f : ∀ x, x ∈ M.xs → x.n ≤ k
  l : M.l ≤ k
  g : M.g ≤ k
theorem RLe.mono {M : Rm} {k k' : Nat} (h : RLe M k) (hk : k ≤ k') : RLe M k' := ⟨Nat.le_trans h.i hk, Nat.le_trans h.s hk, fun x hx => Nat.le_trans (h.f x hx) hk, Nat.le_trans h.l hk, Nat.le_trans h.g hk⟩
def SzR (M : Rm) (e : Ending) : Prop := ∃ k : Int, e = .returned (.int .i64 k) ∧ (k < 0 ∨ 0 ≤ k ∧ k ≤ 1048576 ∧ RLe M 1048576)
set_option maxHeartbeats 2000000 in
theorem szRing_any (M : Rm) (v : Rv) (l : Int) (w : World) (hI : RIn w M v) (hm : RLe M 9223372036854775807) (l0 : 0 ≤ l) (l1 : l ≤ 1048576) :
    Calls Tryz.prog 46 #[.agg #[.int .i64 v.cp, .int .i64 v.se, .slice M.ia M.i M.ic, .int .i64 v.nx, .slice M.sa M.s M.sc, .slice M.la M.l M.lc, .slice M.ga M.g M.gc, .bool v.cl], .int .i64 l] w fun e w' => SzR M e ∧ Below w.heap.size w w' := by
  obtain ⟨W0, hW0⟩ : ∃ W, W = w.alloc (.cells #[.int .i64 v.cp, .int .i64 v.se, .slice M.ia M.i M.ic, .int .i64 v.nx, .slice M.sa M.s M.sc, .slice M.la M.l M.lc, .slice M.ga M.g M.gc, .bool v.cl] 68) := ⟨_, rfl⟩
  have b0 : Below w.heap.size w W0 := by rw [hW0]; exact bl_alloc (Below.refl _ _) _
  have X0 : BoxL w.heap.size (rC M v) W0 := by rw [hW0]; exact BoxL.new w (rC M v) _
  have HI := hidOf (hI.keep b0)
  have HM := hidOf hm
  clear hI hm
  go_enter Tryz.func46, Tryz.ntmps46
  go_wp2_with fail
  rw [← hW0]
  clear hW0
  refine (szMsgS_any M.ia M.i M.ic v.it l _ HI.out.it HM.out.i l0 l1).mono ?_
  rintro e w1 ⟨⟨k, rfl, hk⟩, hb1⟩
  have x1 := X0.keep hb1
  have B1 := bl_trans b0 hb1
  have I1 := HI.out.keep hb1
  clear X0 hb1 b0 HI
  rcases hk with hk | ⟨k0, k1, k2⟩
  · go_wp2
    go_ret
    exact ⟨⟨_, rfl, .inl (by omega)⟩, B1⟩
  have hk' : ¬ k < 0 := by omega
  have p4 := x1.cs 4 (by simp)
  simp at p4
  go_wp2_with fail
  refine (szSubS_any M.sa M.s M.sc M.xs k _ I1.sb HM.out.s HM.out.f k0 k1).mono ?_
  rintro e w2 ⟨⟨q, rfl, hq⟩, hb2⟩
  have x2 := x1.keep hb2
  have B2 := bl_trans B1 hb2
  clear x1 hb2 B1 I1 p4 hk'
  rcases hq with hq | ⟨q0, q1, q2, q3⟩
  · go_wp2
    go_ret
    exact ⟨⟨_, rfl, .inl (by omega)⟩, B2⟩
  have hq' : ¬ q < 0 := by omega
  have p5 := x2.cs 5 (by simp)
  have p6 := x2.cs 6 (by simp)
  simp at p5 p6
  have Hq3 := hidOf q3
  clear q3
  go_wp2_with fail
  refine (szIntS_any M.la M.l M.lc q _ HM.out.l q0 q1).mono ?_
  rintro e w3 ⟨rfl, hw3⟩
  obtain rfl : w2 = w3 := hw3.symm
  by_cases hr : q < (M.l : Int)
  · rw [if_pos hr]
    go_wp2
    go_ret
    exact ⟨⟨_, rfl, .inl (by omega)⟩, B2⟩
  rw [if_neg hr]
  have hr' : ¬ q - (M.l : Int) < 0 := by omega
  go_wp2_with fail
  refine (szIntS_any M.ga M.g M.gc (q - (M.l : Int)) _ HM.out.g (by omega) (by omega)).mono ?_
  rintro e w4 ⟨rfl, hw4⟩
  obtain rfl : w2 = w4 := hw4.symm
  by_cases ht : q - (M.l : Int) < (M.g : Int)
  · rw [if_pos ht]
    go_wp2
    go_ret
    exact ⟨⟨_, rfl, .inl (by omega)⟩, B2⟩
  rw [if_neg ht]
  have ht' : ¬ q - (M.l : Int) - (M.g : Int) < 0 := by omega
  go_wp2
  go_ret
  exact ⟨⟨_, rfl, .inr ⟨by omega, by omega, ⟨k2, q2, Hq3.out, by omega, by omega⟩⟩⟩, B2⟩
theorem eqLR_self (xs : List Int) : eqL xs xs = true := by simp [eqL]
theorem eqRing_same (M M' : Rm) (v : Rv) (w : World) (hI : RIn w M v) (hJ : RIn w M' v) (hm : RLe M 2097152) (hm' : RLe M' 2097152) :
  Calls Tryz.prog 50 #[.agg #[.int .i64 v.cp, .int .i64 v.se, .slice M.ia M.i M.ic, .int .i64 v.nx, .slice M.sa M.s M.sc, .slice M.la M.l M.lc, .slice M.ga M.g M.gc, .bool v.cl], .agg #[.int .i64 v.cp, .int .i64 v.se, .slice M'.ia M'.i M'.ic, .int .i64 v.nx, .slice M'.sa M'.s M'.sc, .slice M'.la M'.l M'.lc, .slice M'.ga M'.g M'.gc, .bool v.cl]] w fun e w' => e = .returned (.bool true) ∧ Below w.heap.size w w' := by
 obtain ⟨W0, hW0⟩ : ∃ W, W = (w.alloc (.cells #[.int .i64 v.cp, .int .i64 v.se, .slice M.ia M.i M.ic, .int .i64 v.nx, .slice M.sa M.s M.sc, .slice M.la M.l M.lc, .slice M.ga M.g M.gc, .bool v.cl] 28)).alloc (.cells #[.int .i64 v.cp, .int .i64 v.se, .slice M'.ia M'.i M'.ic, .int .i64 v.nx, .slice M'.sa M'.s M'.sc, .slice M'.la M'.l M'.lc, .slice M'.ga M'.g M'.gc, .bool v.cl] 28) := ⟨_, rfl⟩
 have b0 : Below w.heap.size w W0 := by rw [hW0]; exact bl_alloc (bl_alloc (Below.refl _ _) _) _
 have X0 : BoxL w.heap.size (rC M v) W0 := by rw [hW0]; exact (BoxL.new w (rC M v) _).alloc _
 have Y0 : BoxL (w.heap.size + 1) (rC M' v) W0 := by
  rw [hW0]
  have h := BoxL.new (w.alloc (.cells #[.int .i64 v.cp, .int .i64 v.se, .slice M.ia M.i M.ic, .int .i64 v.nx, .slice M.sa M.s M.sc, .slice M.la M.l M.lc, .slice M.ga M.g M.gc, .bool v.cl] 28)) (rC M' v) 28
  simpa using h
 have hl : M.s = M'.s := by
  have h1 := hI.sb.len
  have h2 := hJ.sb.len
  have h3 := congrArg List.length (hI.sv.trans hJ.sv.symm)
  simp [svs] at h3
  omega
 have HI := hidOf (hI.keep b0)
 have HJ := hidOf (hJ.keep b0)
 have HM := hidOf hm
 have HM' := hidOf hm'
 have HSl := hidOf hl
 clear hI hJ hm hm' hl
 go_enter Tryz.func50, Tryz.ntmps50
 go_wp2_with fail
 rw [← hW0]
 clear hW0
 refine (eqMsgS_any M.ia M'.ia M.i M'.i M.ic M'.ic v.it v.it _ HI.out.it HJ.out.it HM.out.i HM'.out.i).mono ?_
 rintro e w1 ⟨rfl, hb1⟩
 rw [eqFL_self]
 have x1 := X0.keep hb1
 have y1 := Y0.keep hb1
 have B1 := bl_trans b0 hb1
 have I1 := HI.out.keep hb1
 have J1 := HJ.out.keep hb1
 clear X0 Y0 hb1 b0 HI HJ
 have p3 := x1.cs 3 (by simp)
 have p4 := x1.cs 4 (by simp)
 have q3 := y1.cs 3 (by simp)
 have q4 := y1.cs 4 (by simp)
 simp at p3 p4 q3 q4
 have HC := eqSubS_same M.sa M'.sa M.s M.sc M'.sc M.xs M'.xs w1 I1.sb (by rw [HSl.out]; exact J1.sb) (I1.sv.trans J1.sv.symm) HM.out.s HM.out.f HM'.out.f
 rw [← HSl.out] at q4
 go_wp2_with fail
 refine HC.mono ?_
 rintro e w2 ⟨rfl, hb2⟩
 have x2 := x1.keep hb2
 have y2 := y1.keep hb2
 have B2 := bl_trans B1 hb2
 have I2 := I1.keep hb2
 have J2 := J1.keep hb2
 clear x1 y1 hb2 B1 I1 J1 p3 p4 q3 q4 HC
 have p5 := x2.cs 5 (by simp)
 have q5 := y2.cs 5 (by simp)
 simp at p5 q5
 go_wp2_with fail
 refine (eqIntS_any M.la M'.la M.l M'.l M.lc M'.lc v.ln v.ln _ I2.ln J2.ln HM.out.l HM'.out.l).mono ?_
 rintro e w3 ⟨rfl, hb3⟩
 rw [eqLR_self]
 have x3 := x2.keep hb3
 have y3 := y2.keep hb3
 have B3 := bl_trans B2 hb3
 have I3 := I2.keep hb3
 have J3 := J2.keep hb3
 clear x2 y2 hb3 B2 I2 J2 p5 q5
 have p6 := x3.cs 6 (by simp)
 have q6 := y3.cs 6 (by simp)
 simp at p6 q6
 go_wp2_with fail
 refine (eqIntS_any M.ga M'.ga M.g M'.g M.gc M'.gc v.gs v.gs _ I3.gs J3.gs HM.out.g HM'.out.g).mono ?_
 rintro e w4 ⟨rfl, hb4⟩
 rw [eqLR_self]
 have x4 := x3.keep hb4
 have y4 := y3.keep hb4
 have B4 := bl_trans B3 hb4
 clear x3 y3 hb4 B3 I3 J3 p6 q6
 have p7 := x4.cs 7 (by simp)
 have q7 := y4.cs 7 (by simp)
 simp at p7 q7
 go_wp2
 go_ret
 exact ⟨rfl, B4⟩
open Go.RowKit Pl Il
set_option maxHeartbeats 2000000 in
theorem markMsgS_any (B : Nat) (a : Option Addr) (n cap : Nat) (ts : List Tm) (k : Nat) (w : World) (hO : OwnF B w a n ts) (hn : n ≤ 2097152) (k0 : 0 < k) (k1 : k + 3 * n ≤ 4000000000000000000) :
  Calls Tryz.prog 121 #[.slice a n cap, .int .i64 (k : Int)] w fun e w' => e = .returned (.int .i64 ((k + 3 * n : Nat) : Int)) ∧ OwnF B w' a n (marksF k n) ∧ TurnF a n w w' := by
 by_cases h0 : n = 0
 ·subst h0
  clear hO
  go_enter Tryz.func121, Tryz.ntmps121
  go_wp2
  go_loop [1, 5] (fun x i => x = .int .i64 (k : Int) ∧ i = .int .i64 0) (fun _ _ => 0)
  case atStart => exact ⟨rfl, rfl⟩
  case round =>
   obtain ⟨rfl, rfl⟩ := hrel
   go_wp2
   go_ret
   exact ⟨rint (by omega), ⟨⟨marksF_len _ _, marksF_short k1, .inl rfl⟩, .inl rfl⟩, .inl ⟨rfl, Below.refl _ _⟩⟩
 ·obtain ⟨⟨hlen, _, hr | ⟨b, off, rfl, hb, hcell⟩⟩, hown⟩ := hO
  ·omega
  obtain ⟨hB, hfr⟩ : B ≤ b ∧ ∀ o, w.frozen? ⟨b, o, none⟩ = false := by
   rcases hown with h0' | ⟨b', off', e, hB, hf⟩
   ·omega
   ·cases e; exact ⟨hB, hf⟩
  have hS := hidOf (MarkF.mk (k := k) (m := 0) ⟨rfl, rfl, rfl, Nat.le_refl _, fun _ _ _ => rfl⟩ hb (fun j hj => ⟨_, _, _, (hcell j hj).1, (hcell j hj).2.1, (hcell j hj).2.2, fun h => by omega⟩) hfr)
  clear hcell hfr hown hlen
  go_enter Tryz.func121, Tryz.ntmps121
  go_wp2
  go_loopw [1, 5] (fun x i wr => ∃ m : Nat, m ≤ n ∧ i = .int .i64 m ∧ x = .int .i64 ((k + 3 * m : Nat) : Int) ∧ MarkF w b off n k m wr) (fun _ i _ => n - (intOf i).toNat)
  case atStart => exact ⟨0, Nat.zero_le _, rfl, by simp, hS.out⟩
  case round =>
   rename_i wr
   obtain ⟨m, hm, rfl, rfl, hM⟩ := hrel
   clear hS
   by_cases hlt : m < n
   ·obtain ⟨q, hq⟩ : ∃ q, q = k + 3 * m := ⟨_, rfl⟩
    have hq1 : 0 < q ∧ q + 3 ≤ 4000000000000000000 := by omega
    obtain ⟨v0, v1, v2, hv0, hv1, hv2, _⟩ := hM.cells m hlt
    have hf := hM.fr
    have hb2 := hM.lt
    have hst := fun (X u : World) => MarkF.step' (X := X) (u := u) hM
    have hn3 : ((k + 3 * (m + 1) : Nat) : Int) = (q : Int) + 1 + 1 + 1 := by omega
    have q2 : (q : Int) + 1 + 1 = ((q + 2 : Nat) : Int) := by omega
    have q1 : (q : Int) + 1 = ((q + 1 : Nat) : Int) := by omega
    rw [← hq] at hst ⊢
    obtain ⟨X, hX⟩ : ∃ X, X = (wr.setCell ⟨b, off + m * 3, none⟩ (.int .i64 (q : Int))).setCell ⟨b, off + m * 3 + 1, none⟩ (.int .i64 ((q : Int) + 1)) := ⟨_, rfl⟩
    have hst2 := fun u => hst X u (by rw [hX, q1])
    have hX2 : X.cell? ⟨b, off + m * 3 + 2, none⟩ = some v2 := by
     rw [hX, World.cell?_setCell_other _ _ _ _ (by intro e'; injection e' with _ e2; omega), World.cell?_setCell_other _ _ _ _ (by intro e'; injection e' with _ e2; omega)]; exact hv2
    have hXf : ∀ o, X.frozen? ⟨b, o, none⟩ = false := fun o => by rw [hX]; simpa using hf o
    have hXs : b < X.heap.size := by rw [hX]; simpa using hb2
    have HX := hidOf (And.intro hX2 (And.intro hXf hXs))
    have HST := hidOf hst2
    have HQ := hidOf (And.intro hq hn3)
    have Q2 := hidOf q2
    clear hM hst hq hst2 hX2 hXf hXs hn3 q1 q2
    go_wp2_with fail
    rw [← hX, Q2.out]
    refine (markText_any (q + 2) X (by omega) (by omega)).mono ?_
    rintro e u ⟨rfl, hbu⟩
    have hu2 : u.cell? ⟨b, off + m * 3 + 2, none⟩ = some v2 := by rw [hbu.cell (p := ⟨b, off + m * 3 + 2, none⟩) HX.out.2.2]; exact HX.out.1
    have huf : ∀ o, u.frozen? ⟨b, o, none⟩ = false := fun o => by rw [hbu.frozen (p := ⟨b, o, none⟩) HX.out.2.2]; exact HX.out.2.1 o
    have HS2 := hidOf (HST.out u hbu)
    clear hbu HST hX hv0 hv1 hv2 hf HX
    go_wp2
    go_roundw
    case rel => exact ⟨m + 1, by omega, by go_num, by rw [HQ.out.2]; exact congrArg (Value.int .i64) (by omega), HS2.out⟩
    case measure => simp [intOf]; omega
   ·obtain rfl : m = n := by omega
    go_wp2
    go_ret
    refine ⟨rfl, ⟨⟨marksF_len _ _, marksF_short k1, .inr ⟨b, off, rfl, hM.lt, fun i hi => ?_⟩⟩, .inr ⟨b, off, rfl, hB, hM.fr⟩⟩, .inr ⟨by omega, b, off, rfl, hM.ex⟩⟩
    obtain ⟨v0, v1, v2, hv0, hv1, hv2, hk⟩ := hM.cells i hi
    rw [hv0, hv1, hv2, (hk hi).1, (hk hi).2.1, (hk hi).2.2, marksF_get hi]
    exact ⟨rfl, rfl, rfl⟩
set_option maxHeartbeats 2000000 in
theorem heldMsgS_marks (a : Option Addr) (n cap k : Nat) (w : World) (hI : TmAt w a n (marksF k n)) (hn : n ≤ 2097152) (k0 : 0 < k) (k1 : k + 3 * n ≤ 4000000000000000000) :
    Calls Tryz.prog 123 #[.slice a n cap, .int .i64 (k : Int)] w fun e w' => e = .returned (.int .i64 ((k + 3 * n : Nat) : Int)) ∧ Below w.heap.size w w' := by
  obtain ⟨hlen, _, rfl | ⟨b, off, rfl, hb, hcell⟩⟩ := hI
  · go_enter Tryz.func123, Tryz.ntmps123
    go_wp2
    go_loop [1, 5] (fun x i => x = .int .i64 (k : Int) ∧ i = .int .i64 0) (fun _ _ => 0)
    case atStart => exact ⟨rfl, rfl⟩
    case round =>
      obtain ⟨rfl, rfl⟩ := hrel
      go_wp2
      go_ret
      exact ⟨rint (by omega), Below.refl _ _⟩
  · clear hlen
    go_enter Tryz.func123, Tryz.ntmps123
    go_wp2
    go_loopw [1, 5] (fun x i wr => ∃ m : Nat, m ≤ n ∧ i = .int .i64 m ∧ x = .int .i64 ((k + 3 * m : Nat) : Int) ∧ Below w.heap.size w wr) (fun _ i _ => n - (intOf i).toNat)
    case atStart => exact ⟨0, Nat.zero_le _, rfl, by simp, Below.refl _ _⟩
    case round =>
      rename_i wr
      obtain ⟨m, hm, rfl, rfl, hB⟩ := hrel
      by_cases hlt : m < n
      · obtain ⟨hc, hc2, hc3⟩ := hcell m hlt
        rw [marksF_get hlt] at hc hc2 hc3
        obtain ⟨q, hq⟩ : ∃ q, q = k + 3 * m := ⟨_, rfl⟩
        have hq1 : 0 < q ∧ q + 3 ≤ 4000000000000000000 := by omega
        rw [← hq] at hc hc2 hc3 ⊢
        have c1 := cellK hc hB
        have c2 := cellK hc2 hB
        have c3 := cellK hc3 hB
        have e1 : ((q : Int) != (q : Int)) = false := by simp
        have e2 : (((q + 1 : Nat) : Int) != (q : Int) + 1) = false := by simp
        have hn3 : ((k + 3 * (m + 1) : Nat) : Int) = (q : Int) + 1 + 1 + 1 := by omega
        have Q2 := hidOf (by omega : (q : Int) + 1 + 1 = ((q + 2 : Nat) : Int))
        have HN := hidOf hn3
        have hS : RdH b (off + m * 3 + 2) (.string (mkT (q + 2))) w wr := ⟨c3, hB⟩
        have HC : ∀ (u : World) (z : Int), z = ((q + 2 : Nat) : Int) → Hid (Calls Tryz.prog 131 #[.int .i64 z] u fun e w' => e = .returned (.string (mkT (q + 2))) ∧ Below u.heap.size u w') := fun u z hz => by
          rw [hz]; exact hidOf (markText_any (q + 2) u (by omega) (by omega))
        simp only at c1 c2 c3
        clear hcell hq hc hc2 hc3 hn3 hB
        generalize mkT (q + 2) = t at hS HC c3
        go_wp2_with fail
        go_region_held3 (fun w' => RdH b (off + m * 3 + 2) (.string t) w w') (first | (exact hS.drew) | (exact RdH.keep (by assumption) (by assumption))) (first | (go_at_call 131; refine ((HC _ _ (by omega)).out).mono ?_; rintro e w1 ⟨rfl, hb1⟩))
        all_goals (rename_i hT; have hB2 := hidOf hT.2; clear hT hS)
        all_goals go_wp2
        all_goals go_roundw
        case rel => exact ⟨m + 1, by omega, by go_num, by rw [HN.out], hB2.out⟩
        case measure => simp [intOf]; omega
      · obtain rfl : m = n := by omega
        clear hcell
        go_wp2
        go_ret
        exact ⟨rfl, hB⟩
open Go.RowKit Pl Il
theorem markIntW_any (B : Nat) (a : Option Addr) (n cap : Nat) (xs : List Int) (k : Int) (w : World) (hO : OwnAt B w a n xs) (hn : n ≤ 2097152) (k0 : 0 ≤ k) (k1 : k ≤ 4000000000000000000) :
    Calls Tryz.prog 53 #[.slice a n cap, .int .i64 k] w fun e w' => e = .returned (.int .i64 (k + (n : Int))) ∧ OwnAt B w' a n (marks k n) ∧ (n = 0 ∧ w' = w ∨ 0 < n ∧ ∃ b off, a = some ⟨b, off, none⟩ ∧ w.grownBy w' (some b)) := by
  obtain ⟨⟨hlen, hrow⟩, hown⟩ := hO
  replace hrow : n = 0 ∨ 0 < n ∧ ∃ b off, a = some ⟨b, off, none⟩ ∧ b < w.heap.size ∧ ∀ i, i < n → w.cell? ⟨b, off + i, none⟩ = some (.int .i64 (xs.getD i 0)) := by
    rcases Nat.eq_zero_or_pos n with h0 | hpos
    · exact .inl h0
    · rcases hrow with h0 | h
      · exact .inl h0
      · exact .inr ⟨hpos, h⟩
  rcases hrow with rfl | ⟨hpos, b, off, rfl, hb, hcell⟩
  · go_enter Tryz.func53, Tryz.ntmps53
    go_wp2
    go_loop [1, 5] (fun x i => x = .int .i64 k ∧ i = .int .i64 0) (fun _ _ => 0)
    case atStart => exact ⟨rfl, rfl⟩
    case round =>
      obtain ⟨rfl, rfl⟩ := hrel
      go_wp2
      go_ret
      refine ⟨rint (by simp), ⟨⟨marks_len _ _, .inl rfl⟩, .inl rfl⟩, ?_⟩
      first | exact rfl | exact .inl rfl | exact .inl ⟨rfl, rfl⟩
  · have hfr : ∀ j, j < n → w.frozen? ⟨b, off + j, none⟩ = false := by
      rcases hown with h0 | ⟨b', off', e, _, hf⟩
      · intro j hj; omega
      · cases e; exact hf
    have hB : n = 0 ∨ B ≤ b := by
      rcases hown with h0 | ⟨b', off', e, hB, _⟩
      · exact .inl h0
      · cases e; exact .inr hB
    have hS : Marking w b off n k 0 w := ⟨⟨rfl, rfl, rfl, Nat.le_refl _, fun _ _ _ => rfl⟩, hb, fun j hj => ⟨_, hcell j hj, fun h => by omega⟩, hfr⟩
    clear hcell hfr hown
    go_enter Tryz.func53, Tryz.ntmps53
    go_wp2
    go_loopw [1, 5] (fun x i wr => ∃ m : Nat, m ≤ n ∧ i = .int .i64 m ∧ x = .int .i64 (k + (m : Int)) ∧ Marking w b off n k m wr) (fun _ i _ => n - (intOf i).toNat)
    case atStart => exact ⟨0, Nat.zero_le _, rfl, by simp, hS⟩
    case round =>
      rename_i wr
      obtain ⟨m, hm, rfl, rfl, hM⟩ := hrel
      clear hS
      by_cases hlt : m < n
      · obtain ⟨v, hv, _⟩ := hM.cells m hlt
        have hf := hM.fr m hlt
        have HM : Hid _ := hM.step
        clear hM
        go_wp2
        go_roundw
        case rel => exact ⟨m + 1, by omega, by go_num, by go_num, HM.out⟩
        case measure => simp [intOf]; omega
      · obtain rfl : m = n := by omega
        go_wp2
        go_ret
        refine ⟨rfl, ⟨⟨marks_len _ _, .inr ⟨b, off, rfl, hM.lt, fun i hi => ?_⟩⟩, ?_⟩, .inr ⟨hpos, b, off, rfl, hM.ex⟩⟩
        · obtain ⟨v, hv, hk⟩ := hM.cells i hi
          rw [hv, hk hi, marks_get hi]
        · rcases hB with h0 | hB
          · exact .inl h0
          · exact .inr ⟨b, off, rfl, hB, hM.fr⟩
theorem heldIntW_marks (a : Option Addr) (n cap : Nat) (k : Int) (w : World) (hI : IntsAt w a n (marks k n)) (hn : n ≤ 2097152) (k0 : 0 ≤ k) (k1 : k ≤ 4000000000000000000) :
    Calls Tryz.prog 55 #[.slice a n cap, .int .i64 k] w fun e w' => e = .returned (.int .i64 (k + (n : Int))) ∧ w' = w := by
  obtain ⟨hlen, rfl | ⟨b, off, rfl, hb, hcell⟩⟩ := hI
  · go_enter Tryz.func55, Tryz.ntmps55
    go_wp2
    go_loop [1, 5] (fun x i => x = .int .i64 k ∧ i = .int .i64 0) (fun _ _ => 0)
    case atStart => exact ⟨rfl, rfl⟩
    case round =>
      obtain ⟨rfl, rfl⟩ := hrel
      go_wp2
      go_ret
      exact ⟨rint (by simp), rfl⟩
  · go_enter Tryz.func55, Tryz.ntmps55
    go_wp2
    go_loop [1, 5] (fun x i => ∃ m : Nat, m ≤ n ∧ i = .int .i64 m ∧ x = .int .i64 (k + (m : Int))) (fun _ i => n - (intOf i).toNat)
    case atStart => exact ⟨0, Nat.zero_le _, rfl, by simp⟩
    case round =>
      obtain ⟨m, hm, rfl, rfl⟩ := hrel
      by_cases hlt : m < n
      · have hc := hcell m hlt
        rw [marks_get hlt] at hc
        clear hcell
        go_wp2
        go_round
        case rel => exact ⟨m + 1, by omega, by go_num, by go_num⟩
        case measure => simp [intOf]; omega
      · obtain rfl : m = n := by omega
        clear hcell
        go_wp2
        go_ret
        exact ⟨rfl, rfl⟩
end Go.Proofs.YtdboaoejlkkoeaaGreat
