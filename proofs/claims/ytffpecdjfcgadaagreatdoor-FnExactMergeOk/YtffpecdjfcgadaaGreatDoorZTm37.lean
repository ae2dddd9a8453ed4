/-
  The program's legs.
-/
import Derived.Test.YtffpecdjfcgadaaGreatDoorZTm23
import Derived.Test.YtffpecdjfcgadaaGreatDoorZTm36
namespace Go.Proofs.YtffpecdjfcgadaaGreatDoor
open Go.RowKit Go.Maps Pl Il Tn

theorem isMoved_any (n : Int) (w : World) : Calls Tryz.prog 21 #[.int .i64 n] w fun e w' => e = .returned (.bool (decide (0 ≤ n ∧ n ≤ 1000000000))) ∧ w' = w := by
  by_cases h1 : 0 ≤ n
  · by_cases h2 : n ≤ 1000000000
    · have he := hidOf (show decide (0 ≤ n ∧ n ≤ 1000000000) = true by simp [h1, h2])
      go_enter Tryz.func21, Tryz.ntmps21
      go_wp2
      all_goals go_ret
      all_goals exact ⟨rbool (by first | (rw [he.out]) | (simp; omega)), rfl⟩
    · have he := hidOf (show decide (0 ≤ n ∧ n ≤ 1000000000) = false by simp [h2])
      go_enter Tryz.func21, Tryz.ntmps21
      go_wp2
      all_goals go_ret
      all_goals exact ⟨rbool (by first | (rw [he.out]) | (simp; omega)), rfl⟩
  · have he := hidOf (show decide (0 ≤ n ∧ n ≤ 1000000000) = false by simp [h1])
    go_enter Tryz.func21, Tryz.ntmps21
    go_wp2
    all_goals go_ret
    all_goals exact ⟨rbool (by first | (rw [he.out]) | (simp; omega)), rfl⟩
/-- What bodyToRead's code tells of a right ring. -/
theorem btr_code (M : Rm) (v : Rv) (id : Int) (w : World) (hI : RIn w M v) (hm : RLe M 1048576) (hc : RCap M) (hw : RWf v) (hid : (Lit.int .i64 id).wf = true) (hok : okR restR v = true) :
    Calls Tryz.prog 40 #[.agg #[.int .i64 v.cp, .int .i64 v.se, .slice M.ia M.i M.ic, .int .i64 v.nx, .slice M.sa M.s M.sc, .slice M.la M.l M.lc, .slice M.ga M.g M.gc, .bool v.cl], .int .i64 id] w fun e w' => ∃ (p : Option Addr) (cd : Int), e = .returned (.tuple #[.pointer p, .int .i64 cd]) ∧ (cd == 0) = (decide (0 ≤ atR v.sb id) && (!hasL v.ln id && !hasL v.gs id)) ∧ Below w.heap.size w w' := by
  refine (bodyToRead_any M v id w hI hm hc hw hid).mono ?_
  rintro e w' (⟨h, _⟩ | ⟨_, h1, rfl, hb⟩ | ⟨_, h1, h2, rfl, hb⟩ | ⟨_, h1, h2, b, A, P, f, sa, sc, ys, rfl, _, _, _, _, hb⟩)
  · rw [hok] at h; cases h
  · exact ⟨_, _, rfl, by rw [decide_eq_false (by omega)]; rfl, hb⟩
  · refine ⟨_, _, rfl, ?_, hb⟩
    rw [decide_eq_true (by omega)]
    cases hl : hasL v.ln id
    · rw [hl, Bool.false_or] at h2
      rw [h2]; rfl
    · rfl
  · refine ⟨_, _, rfl, ?_, hb⟩
    rw [decide_eq_true (by omega)]
    simp only [Bool.or_eq_false_iff] at h2
    rw [h2.1, h2.2]; rfl
structure LgWf (x : Lg) : Prop where
  tp : (Lit.int .i64 x.tp).wf = true
  id : (Lit.int .i64 x.id).wf = true
set_option maxRecDepth 100000 in
set_option maxHeartbeats 8000000 in
theorem legOk_any (a : Option Addr) (n c : Nat) (xs : List Ta) (x : Lg) (w : World) (hI : TopAt w a n xs) (hW : TWf xs) (hx : LgWf x) (hr : 0 ≤ x.tp ∧ x.tp < (n : Int)) (hok : ∀ i, i < xs.length → okR restR (tg xs i).v = true) :
    Calls Tryz.prog 24 #[.slice a n c, .agg #[.int .i64 x.tp, .int .i64 x.id, .int .i64 x.lo, .bool x.ov]] w fun e w' => e = .returned (.bool (lostB x && legR xs x)) ∧ Below w.heap.size w w' := by
  obtain ⟨tp, htp⟩ : ∃ t : Nat, x.tp = (t : Int) := ⟨x.tp.toNat, by omega⟩
  have htn : tp < n := by omega
  obtain hr0 | ⟨b, off, rfl, hb, hcell⟩ := hI.row
  · omega
  have hxl : tp < xs.length := by rw [hI.len]; exact htn
  have hmem : tg xs tp ∈ xs := tg_mem hxl
  have hokt := hok tp hxl
  obtain ⟨t, ht⟩ : ∃ t, tg xs tp = t := ⟨_, rfl⟩
  have hct := hcell tp htn
  rw [ht] at hmem hokt hct
  obtain ⟨W0, hW0⟩ : ∃ W, W = w.alloc (.cells #[.int .i64 (tp : Int), .int .i64 x.id, .int .i64 x.lo, .bool x.ov] 59) := ⟨_, rfl⟩
  have b0 : Below w.heap.size w W0 := by rw [hW0]; exact bl_alloc (Below.refl _ _) _
  have G0 : BoxL w.heap.size [.int .i64 (tp : Int), .int .i64 x.id, .int .i64 x.lo, .bool x.ov] W0 := by rw [hW0]; exact BoxL.new w [.int .i64 (tp : Int), .int .i64 x.id, .int .i64 x.lo, .bool x.ov] _
  obtain ⟨c0, c1, c2, c3, c4, c5, c6, c7, c8⟩ := hct.below b0 hb
  have HC := hidOf (fun (u : World) (hu : Below w.heap.size w u) => btr_code t.M t.v x.id u ((hI.rin t hmem).keep hu) (hW.le t hmem) (hW.cap t hmem) (hW.wf t hmem) hx.id hokt)
  have HLR := hidOf (show legR xs x = (x.ov || (decide (0 ≤ atR t.v.sb x.id) && (!hasL t.v.ln x.id && !hasL t.v.gs x.id))) by
    unfold legR
    rw [htp, show ((tp : Int)).toNat = tp by omega, ht])
  have HB0 := hidOf b0
  have htpi : (0 : Int) ≤ (tp : Int) ∧ (tp : Int) < (n : Int) := by omega
  rw [htp]
  clear hI hW hx hr hok htp htn hcell hxl hmem hokt ht hct b0
  go_enter Tryz.func24, Tryz.ntmps24
  go_upto_region 1 with fail
  rw [← hW0]
  clear hW0
  obtain ⟨NG, hNG⟩ : ∃ N, w.heap.size = N := ⟨_, rfl⟩
  obtain ⟨g0, g1, g2, g3⟩ := box4g G0
  have HNG := hidOf hNG
  clear G0
  rw [hNG] at g0 g1 g2 g3
  conv at g0 => skip
  rw [show (Value.pointer (some ⟨w.heap.size, 0, none⟩) : Value) = .pointer (some ⟨NG, 0, none⟩) by rw [hNG]]
  clear hNG
  refine wp_region_noPanic ?_
  have hH0 : (fun u : World => (u.cell? ⟨NG, 0, none⟩ = some (.int .i64 (tp : Int)) ∧ u.cell? ⟨NG, 1, none⟩ = some (.int .i64 x.id) ∧ u.cell? ⟨NG, 2, none⟩ = some (.int .i64 x.lo) ∧ u.cell? ⟨NG, 3, none⟩ = some (.bool x.ov)) ∧ (u.cell? ⟨b, off + tp * 9 + 1, none⟩ = some (.int .i64 t.v.cp) ∧ u.cell? ⟨b, off + tp * 9 + 2, none⟩ = some (.int .i64 t.v.se) ∧ u.cell? ⟨b, off + tp * 9 + 3, none⟩ = some (.slice t.M.ia t.M.i t.M.ic) ∧ u.cell? ⟨b, off + tp * 9 + 4, none⟩ = some (.int .i64 t.v.nx) ∧ u.cell? ⟨b, off + tp * 9 + 5, none⟩ = some (.slice t.M.sa t.M.s t.M.sc) ∧ u.cell? ⟨b, off + tp * 9 + 6, none⟩ = some (.slice t.M.la t.M.l t.M.lc) ∧ u.cell? ⟨b, off + tp * 9 + 7, none⟩ = some (.slice t.M.ga t.M.g t.M.gc) ∧ u.cell? ⟨b, off + tp * 9 + 8, none⟩ = some (.bool t.v.cl)) ∧ Below w.heap.size w u) W0.drew := ⟨⟨cellG g0, cellG g1, cellG g2, cellG g3⟩, ⟨cellG c1, cellG c2, cellG c3, cellG c4, cellG c5, cellG c6, cellG c7, cellG c8⟩, bl_trans HB0.out (Below.refl _ _).drew⟩
  refine wp_region_held_drew (S := fun u => (u.cell? ⟨NG, 0, none⟩ = some (.int .i64 (tp : Int)) ∧ u.cell? ⟨NG, 1, none⟩ = some (.int .i64 x.id) ∧ u.cell? ⟨NG, 2, none⟩ = some (.int .i64 x.lo) ∧ u.cell? ⟨NG, 3, none⟩ = some (.bool x.ov)) ∧ (u.cell? ⟨b, off + tp * 9 + 1, none⟩ = some (.int .i64 t.v.cp) ∧ u.cell? ⟨b, off + tp * 9 + 2, none⟩ = some (.int .i64 t.v.se) ∧ u.cell? ⟨b, off + tp * 9 + 3, none⟩ = some (.slice t.M.ia t.M.i t.M.ic) ∧ u.cell? ⟨b, off + tp * 9 + 4, none⟩ = some (.int .i64 t.v.nx) ∧ u.cell? ⟨b, off + tp * 9 + 5, none⟩ = some (.slice t.M.sa t.M.s t.M.sc) ∧ u.cell? ⟨b, off + tp * 9 + 6, none⟩ = some (.slice t.M.la t.M.l t.M.lc) ∧ u.cell? ⟨b, off + tp * 9 + 7, none⟩ = some (.slice t.M.ga t.M.g t.M.gc) ∧ u.cell? ⟨b, off + tp * 9 + 8, none⟩ = some (.bool t.v.cl)) ∧ Below w.heap.size w u) (by kernel_rfl) hH0 (fun hHeld => ?_)
  refine wpAnyH_take (i := 0) (v := ?_) rfl (by kernel_rfl) (by kernel_rfl) (by kernel_rfl) (fun _ _ _ h => h) (Or.inl ⟨by rfl, ?_⟩) (by assumption) ?_
  case refine_2 => (intro w hSw; (try dsimp only at hSw); obtain ⟨⟨s0, s1, s2, s3⟩, ⟨s4, s5, s6, s7, s8, s9, s10, s11⟩, s12⟩ := hSw; go_simp; try with_reducible rfl)
  simp only [Act.put, List.getElem_toArray, List.getElem_cons_zero, List.setIfInBounds_toArray, List.set_cons_zero, List.set_cons_succ]
  refine wpAnyH_take (i := 1) (v := ?_) rfl (by kernel_rfl) (by kernel_rfl) (by kernel_rfl) (fun _ _ _ h => h) (Or.inl ⟨by rfl, ?_⟩) (by assumption) ?_
  case refine_2 => (intro w hSw; (try dsimp only at hSw); obtain ⟨⟨s0, s1, s2, s3⟩, ⟨s4, s5, s6, s7, s8, s9, s10, s11⟩, s12⟩ := hSw; go_simp; try with_reducible rfl)
  simp only [Act.put, zGA, zG0, zGC, zSA, zS0, zSC]
  refine wpAnyH_take (i := 2) (v := ?_) rfl (by kernel_rfl) (by kernel_rfl) (by kernel_rfl) (fun _ _ _ h => h) (Or.inl ⟨by rfl, ?_⟩) (by assumption) ?_
  case refine_2 => (intro w hSw; (try dsimp only at hSw); obtain ⟨⟨s0, s1, s2, s3⟩, ⟨s4, s5, s6, s7, s8, s9, s10, s11⟩, s12⟩ := hSw; go_simp; try with_reducible rfl)
  simp only [Act.put, zGA, zG0, zGC, zSA, zS0, zSC]
  refine wpAnyH_take (i := 3) (v := ?_) rfl (by kernel_rfl) (by kernel_rfl) (by kernel_rfl) (fun _ _ _ h => h) (Or.inl ⟨by rfl, ?_⟩) (by assumption) ?_
  case refine_2 => (intro w hSw; (try dsimp only at hSw); obtain ⟨⟨s0, s1, s2, s3⟩, ⟨s4, s5, s6, s7, s8, s9, s10, s11⟩, s12⟩ := hSw; go_simp; try with_reducible rfl)
  simp only [Act.put, zGA, zG0, zGC, zSA, zS0, zSC]
  refine wpAnyH_take (i := 4) (v := ?_) rfl (by kernel_rfl) (by kernel_rfl) (by kernel_rfl) (fun _ _ _ h => h) (Or.inl ⟨by rfl, ?_⟩) (by assumption) ?_
  case refine_2 => (intro w hSw; (try dsimp only at hSw); obtain ⟨⟨s0, s1, s2, s3⟩, ⟨s4, s5, s6, s7, s8, s9, s10, s11⟩, s12⟩ := hSw; go_simp; try with_reducible rfl)
  simp only [Act.put, zGA, zG0, zGC, zSA, zS0, zSC]
  refine wpAnyH_take (i := 5) (v := ?_) rfl (by kernel_rfl) (by kernel_rfl) (by kernel_rfl) (fun _ _ _ h => h) (Or.inl ⟨by rfl, ?_⟩) (by assumption) ?_
  case refine_2 => (intro w hSw; (try dsimp only at hSw); obtain ⟨⟨s0, s1, s2, s3⟩, ⟨s4, s5, s6, s7, s8, s9, s10, s11⟩, s12⟩ := hSw; go_simp; try with_reducible rfl)
  simp only [Act.put, zGA, zG0, zGC, zSA, zS0, zSC]
  refine wpAnyH_take (i := 6) (v := ?_) rfl (by kernel_rfl) (by kernel_rfl) (by kernel_rfl) (fun _ _ _ h => h) (Or.inl ⟨by rfl, ?_⟩) (by assumption) ?_
  case refine_2 => (intro w hSw; (try dsimp only at hSw); obtain ⟨⟨s0, s1, s2, s3⟩, ⟨s4, s5, s6, s7, s8, s9, s10, s11⟩, s12⟩ := hSw; go_simp; try with_reducible rfl)
  simp only [Act.put, zGA, zG0, zGC, zSA, zS0, zSC]
  refine wpAnyH_take (i := 7) (v := ?_) rfl (by kernel_rfl) (by kernel_rfl) (by kernel_rfl) (fun _ _ _ h => h) (Or.inl ⟨by rfl, ?_⟩) (by assumption) ?_
  case refine_2 => (intro w hSw; (try dsimp only at hSw); obtain ⟨⟨s0, s1, s2, s3⟩, ⟨s4, s5, s6, s7, s8, s9, s10, s11⟩, s12⟩ := hSw; go_simp; try with_reducible rfl)
  simp only [Act.put, zGA, zG0, zGC, zSA, zS0, zSC]
  refine wpAnyH_ready (rs := [8]) (by kernel_rfl) (by simp) ?_
  refine AllReadyH.cons rfl (fun K hK => ?_) AllReadyH.nil
  go_simp
  refine (HC.out _ hHeld.2.2).mono ?_
  rintro e w3 ⟨pt, cd, rfl, hcd, hb3⟩
  go_wp2_with fail
  have hH3 : (fun u : World => (u.cell? ⟨NG, 0, none⟩ = some (.int .i64 (tp : Int)) ∧ u.cell? ⟨NG, 1, none⟩ = some (.int .i64 x.id) ∧ u.cell? ⟨NG, 2, none⟩ = some (.int .i64 x.lo) ∧ u.cell? ⟨NG, 3, none⟩ = some (.bool x.ov)) ∧ (u.cell? ⟨b, off + tp * 9 + 1, none⟩ = some (.int .i64 t.v.cp) ∧ u.cell? ⟨b, off + tp * 9 + 2, none⟩ = some (.int .i64 t.v.se) ∧ u.cell? ⟨b, off + tp * 9 + 3, none⟩ = some (.slice t.M.ia t.M.i t.M.ic) ∧ u.cell? ⟨b, off + tp * 9 + 4, none⟩ = some (.int .i64 t.v.nx) ∧ u.cell? ⟨b, off + tp * 9 + 5, none⟩ = some (.slice t.M.sa t.M.s t.M.sc) ∧ u.cell? ⟨b, off + tp * 9 + 6, none⟩ = some (.slice t.M.la t.M.l t.M.lc) ∧ u.cell? ⟨b, off + tp * 9 + 7, none⟩ = some (.slice t.M.ga t.M.g t.M.gc) ∧ u.cell? ⟨b, off + tp * 9 + 8, none⟩ = some (.bool t.v.cl)) ∧ Below w.heap.size w u) w3 := ⟨⟨cellB hHeld.1.1 hb3, cellB hHeld.1.2.1 hb3, cellB hHeld.1.2.2.1 hb3, cellB hHeld.1.2.2.2 hb3⟩, ⟨cellB hHeld.2.1.1 hb3, cellB hHeld.2.1.2.1 hb3, cellB hHeld.2.1.2.2.1 hb3, cellB hHeld.2.1.2.2.2.1 hb3, cellB hHeld.2.1.2.2.2.2.1 hb3, cellB hHeld.2.1.2.2.2.2.2.1 hb3, cellB hHeld.2.1.2.2.2.2.2.2.1 hb3, cellB hHeld.2.1.2.2.2.2.2.2.2 hb3⟩, bl_trans hHeld.2.2 hb3⟩
  refine hK.out _ _ hH3 (fun hHeld => ?_)
  clear hK K
  refine wpAnyH_take (i := 9) (v := ?_) rfl (by kernel_rfl) (by kernel_rfl) (by kernel_rfl) (fun _ _ _ h => h) (Or.inl ⟨by rfl, ?_⟩) (by assumption) ?_
  case refine_2 => (intro w hSw; (try dsimp only at hSw); obtain ⟨⟨s0, s1, s2, s3⟩, ⟨s4, s5, s6, s7, s8, s9, s10, s11⟩, s12⟩ := hSw; go_simp; try with_reducible rfl)
  simp only [Act.put, zGA, zG0, zGC, zSA, zS0, zSC]
  refine wpAnyH_take (i := 10) (v := ?_) rfl (by kernel_rfl) (by kernel_rfl) (by kernel_rfl) (fun _ _ _ h => h) (Or.inl ⟨by rfl, ?_⟩) (by assumption) ?_
  case refine_2 => (intro w hSw; (try dsimp only at hSw); obtain ⟨⟨s0, s1, s2, s3⟩, ⟨s4, s5, s6, s7, s8, s9, s10, s11⟩, s12⟩ := hSw; go_simp; try with_reducible rfl)
  simp only [Act.put, zGA, zG0, zGC, zSA, zS0, zSC]
  refine wpAnyH_take (i := 11) (v := ?_) rfl (by kernel_rfl) (by kernel_rfl) (by kernel_rfl) (fun _ _ _ h => h) (Or.inl ⟨by rfl, ?_⟩) (by assumption) ?_
  case refine_2 => (intro w hSw; (try dsimp only at hSw); obtain ⟨⟨s0, s1, s2, s3⟩, ⟨s4, s5, s6, s7, s8, s9, s10, s11⟩, s12⟩ := hSw; go_simp; try with_reducible rfl)
  simp only [Act.put, zGA, zG0, zGC, zSA, zS0, zSC]
  refine wpAnyH_take (i := 12) (v := ?_) rfl (by kernel_rfl) (by kernel_rfl) (by kernel_rfl) (fun _ _ _ h => h) (Or.inl ⟨by rfl, ?_⟩) (by assumption) ?_
  case refine_2 => (intro w hSw; (try dsimp only at hSw); obtain ⟨⟨s0, s1, s2, s3⟩, ⟨s4, s5, s6, s7, s8, s9, s10, s11⟩, s12⟩ := hSw; go_simp; try with_reducible rfl)
  simp only [Act.put, zGA, zG0, zGC, zSA, zS0, zSC]
  refine wpAnyH_take (i := 13) (v := ?_) rfl (by kernel_rfl) (by kernel_rfl) (by kernel_rfl) (fun _ _ _ h => h) (Or.inl ⟨by rfl, ?_⟩) (by assumption) ?_
  case refine_2 => (intro w hSw; (try dsimp only at hSw); obtain ⟨⟨s0, s1, s2, s3⟩, ⟨s4, s5, s6, s7, s8, s9, s10, s11⟩, s12⟩ := hSw; go_simp; try with_reducible rfl)
  simp only [Act.put, zGA, zG0, zGC, zSA, zS0, zSC]
  refine wpAnyH_done (by kernel_rfl) ?_ _
  refine NoPanic.normal ?_
  obtain ⟨⟨k0, k1, k2, k3⟩, _, hB3⟩ := hH3
  have HB3 := hidOf hB3
  have HCd := hidOf hcd
  clear hHeld hb3 hB3 hcd hH0 HC g0 g1 g2 g3 c0 c1 c2 c3 c4 c5 c6 c7 c8
  have HM := hidOf (isMoved_any x.lo w3)
  obtain ⟨q, hq⟩ : ∃ q, decide (0 ≤ x.lo ∧ x.lo ≤ 1000000000) = q := ⟨_, rfl⟩
  rw [hq] at HM
  have HQ := hidOf (show lostB x = q from hq)
  clear hq
  go_wp2_with fail
  refine (HM.out).mono ?_
  rintro e w4 ⟨rfl, hw4⟩
  obtain rfl : w3 = w4 := hw4.symm
  clear HM
  cases q
  · have HE := hidOf (show (lostB x && legR xs x) = false by rw [HQ.out]; rfl)
    go_wp2_with fail
    go_ret
    exact ⟨rbool HE.out.symm, HB3.out⟩
  obtain ⟨ov, hov⟩ : ∃ o, x.ov = o := ⟨_, rfl⟩
  have HE := hidOf (show (lostB x && legR xs x) = (ov || (cd == 0)) by rw [HQ.out, HLR.out, hov, HCd.out]; rfl)
  rw [hov] at k3
  clear hov
  cases ov
  · go_wp2_with fail
    all_goals go_ret
    all_goals exact ⟨rbool HE.out.symm, HB3.out⟩
  · go_wp2_with fail
    all_goals go_ret
    all_goals exact ⟨rbool HE.out.symm, HB3.out⟩
/-- The closure: a leg that is not right. -/
theorem badLeg_any (a : Option Addr) (n c : Nat) (xs : List Ta) (x : Lg) (NB : Nat) (w : World) (hI : TopAt w a n xs) (hW : TWf xs) (hx : LgWf x) (hr : 0 ≤ x.tp ∧ x.tp < (n : Int)) (hok : ∀ i, i < xs.length → okR restR (tg xs i).v = true) (hN : w.cell? ⟨NB, 0, none⟩ = some (.slice a n c)) :
    Calls Tryz.prog 23 #[.agg #[.int .i64 x.tp, .int .i64 x.id, .int .i64 x.lo, .bool x.ov], .pointer (some ⟨NB, 0, none⟩)] w fun e w' => e = .returned (.bool (!(lostB x && legR xs x))) ∧ Below w.heap.size w w' := by
  have bm := bl_alloc (Below.refl w.heap.size w) (.cells #[.int .i64 x.tp, .int .i64 x.id, .int .i64 x.lo, .bool x.ov] 59)
  have hN2 := cellB hN bm
  have HC := hidOf (legOk_any a n c xs x _ (hI.keep bm) hW hx hr hok)
  obtain ⟨q, hq⟩ : ∃ q, (lostB x && legR xs x) = q := ⟨_, rfl⟩
  rw [hq] at HC
  rw [hq]
  have HB := hidOf bm
  clear hI hW hx hr hok hq bm hN
  go_enter Tryz.func23, Tryz.ntmps23
  go_wp2_with fail
  refine (HC.out).mono ?_
  rintro e w1 ⟨rfl, hb1⟩
  have HB1 := hidOf (bl_trans HB.out hb1)
  clear HC hb1 HB hN2
  go_wp2
  go_ret
  exact ⟨rfl, HB1.out⟩
def legsAll (xs : List Ta) (ls : List Lg) : Bool := decide (∀ i, i < ls.length → (lostB (lgg ls i) && legR xs (lgg ls i)) = true)
theorem legsAll_ok {xs : List Ta} {ls : List Lg} (h : ∀ i, i < ls.length → (lostB (lgg ls i) && legR xs (lgg ls i)) = true) : legsAll xs ls = true := decide_eq_true h
theorem legsAll_bad {xs : List Ta} {ls : List Lg} {i : Nat} (hi : i < ls.length) (h : (lostB (lgg ls i) && legR xs (lgg ls i)) = false) : legsAll xs ls = false := decide_eq_false fun k => by rw [k i hi] at h; cases h
set_option maxHeartbeats 1000000 in
theorem idxLeg_any (a : Option Addr) (n c : Nat) (xs : List Ta) (la : Option Addr) (ln lc : Nat) (ls : List Lg) (NB : Nat) (w : World) (hI : TopAt w a n xs) (hW : TWf xs) (hL : LegAt w la ln ls) (hln : ln ≤ 1048576) (hx : ∀ x, x ∈ ls → LgWf x) (hr : ∀ x, x ∈ ls → 0 ≤ x.tp ∧ x.tp < (n : Int)) (hok : ∀ i, i < xs.length → okR restR (tg xs i).v = true) (hN : w.cell? ⟨NB, 0, none⟩ = some (.slice a n c)) :
    Calls Tryz.prog 39 #[.slice la ln lc, .func (.func 23) #[] #[.pointer (some ⟨NB, 0, none⟩)]] w fun e w' => ∃ z : Int, e = .returned (.int .i64 z) ∧ (0 ≤ z ↔ legsAll xs ls = false) ∧ Below w.heap.size w w' := by
  have HL := hidOf hL
  have HLl := hidOf hL.len
  have HLn := hidOf hln
  have HC := hidOf (fun (k : Nat) (hk : k < ls.length) (u : World) (hu : Below w.heap.size w u) => badLeg_any a n c xs (lgg ls k) NB u (hI.keep hu) hW (hx _ (lgg_mem hk)) (hr _ (lgg_mem hk)) hok (cellB hN hu))
  clear hI hW hL hx hr hok hN hln
  go_enter Tryz.func39, Tryz.ntmps39
  go_wp2_with fail
  go_loopw [8] (fun i wr => ∃ (k : Nat), k ≤ ln ∧ i = .int .i64 k ∧ (∀ j, j < k → (lostB (lgg ls j) && legR xs (lgg ls j)) = true) ∧ Below w.heap.size w wr) (fun i _ => ln - (intOf i).toNat)
  case atStart => exact ⟨0, Nat.zero_le _, rfl, fun j hj => (by omega), Below.refl _ _⟩
  case round =>
    rename World => wr
    obtain ⟨k, hk, rfl, hall, hB⟩ := hrel
    have HA := hidOf hall
    have HB := hidOf hB
    clear hall
    by_cases hlt : k < ln
    · have hki : (0 : Int) ≤ (k : Int) ∧ (k : Int) < (ln : Int) ∧ (ln : Int) ≤ 1048576 := by have := HLn.out; omega
      obtain hr0 | ⟨b, off, rfl, hb, hcell⟩ := (HL.out.keep hB).row
      · omega
      obtain ⟨c0, c1, c2, c3⟩ := hcell k hlt
      have HK := hidOf (HC.out k (by rw [HLl.out]; exact hlt) wr hB)
      obtain ⟨y, hy⟩ : ∃ y, lgg ls k = y := ⟨_, rfl⟩
      rw [hy] at c0 c1 c2 c3 HK
      obtain ⟨q, hq⟩ : ∃ q, (lostB y && legR xs y) = q := ⟨_, rfl⟩
      rw [hq] at HK
      have HQ := hidOf (show (lostB (lgg ls k) && legR xs (lgg ls k)) = q by rw [hy]; exact hq)
      clear hy hq hB hcell
      go_wp2_with fail
      refine (HK.out).mono ?_
      rintro e w1 ⟨rfl, hb1⟩
      have HB1 := hidOf (bl_trans HB.out hb1)
      clear HK hb1 c0 c1 c2 c3
      cases q
      · go_wp2
        go_ret
        exact ⟨_, rfl, Iff.intro (fun _ => legsAll_bad (by rw [HLl.out]; exact hlt) HQ.out) (fun _ => by omega), HB1.out⟩
      · go_wp2
        go_roundw
        case rel => exact ⟨k + 1, hlt, by go_num, fun j hj => (by
          by_cases e : j = k
          · rw [e]; exact HQ.out
          · exact HA.out j (by omega)), HB1.out⟩
        case measure => simp [intOf]; omega
    · obtain rfl : k = ln := by omega
      have hki : ¬ (k : Int) < (k : Int) := by omega
      clear hB
      go_wp2
      go_ret
      exact ⟨_, rfl, Iff.intro (fun h => by omega) (fun h => by rw [legsAll_ok (fun i hi => HA.out i (by rw [HLl.out] at hi; exact hi))] at h; exact Bool.noConfusion h), HB.out⟩
theorem hasBad_any (a : Option Addr) (n c : Nat) (xs : List Ta) (la : Option Addr) (ln lc : Nat) (ls : List Lg) (NB : Nat) (w : World) (hI : TopAt w a n xs) (hW : TWf xs) (hL : LegAt w la ln ls) (hln : ln ≤ 1048576) (hx : ∀ x, x ∈ ls → LgWf x) (hr : ∀ x, x ∈ ls → 0 ≤ x.tp ∧ x.tp < (n : Int)) (hok : ∀ i, i < xs.length → okR restR (tg xs i).v = true) (hN : w.cell? ⟨NB, 0, none⟩ = some (.slice a n c)) :
    Calls Tryz.prog 22 #[.slice la ln lc, .func (.func 23) #[] #[.pointer (some ⟨NB, 0, none⟩)]] w fun e w' => e = .returned (.bool (!legsAll xs ls)) ∧ Below w.heap.size w w' := by
  have HC := hidOf (idxLeg_any a n c xs la ln lc ls NB w hI hW hL hln hx hr hok hN)
  clear hI hW hL hln hx hr hok hN
  go_enter Tryz.func22, Tryz.ntmps22
  go_wp2_with fail
  refine (HC.out).mono ?_
  rintro e w1 ⟨z, rfl, hz, hb1⟩
  have HB1 := hidOf hb1
  have HZ := hidOf hz
  clear HC hb1 hz
  by_cases h : 0 ≤ z
  · have HE := hidOf (show (!legsAll xs ls) = true by rw [HZ.out.1 h]; rfl)
    go_wp2_with fail
    go_ret
    exact ⟨rbool (by rw [HE.out] <;> (first | rfl | (simp; done) | (simp; exact h))), HB1.out⟩
  · have HE := hidOf (show (!legsAll xs ls) = false by
      cases hq : legsAll xs ls
      · exact absurd (HZ.out.2 hq) h
      · rfl)
    go_wp2_with fail
    go_ret
    exact ⟨rbool (by rw [HE.out] <;> (first | rfl | (simp; done) | (simp; omega))), HB1.out⟩
end Go.Proofs.YtffpecdjfcgadaaGreatDoor
