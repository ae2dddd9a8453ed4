/-
  The program's ring: skip.
-/
import Derived.Test.YtihdglmiecifjaaGreatZRa30
namespace Go.Proofs.YtihdglmiecifjaaGreat
open Go.RowKit Go.Maps Pl Il

theorem lostAhead_K (r s c : Int) (w : World) (h1 : IntKind.i64.wrap (s - r) = s - r) (h2 : IntKind.i64.wrap (s - r - c) = s - r - c) :
    Calls Tryz.prog 112 #[.int .i64 r, .int .i64 s, .int .i64 c] w fun e w' => e = .returned (.int .i64 (if s - r - c < 0 then 0 else s - r - c)) ∧ w' = w := by
  by_cases hn : s - r - c < 0
  · rw [if_pos hn]
    go_enter Tryz.func112, Tryz.ntmps112
    go_wp2
    all_goals go_ret
    all_goals exact ⟨rint (by omega), rfl⟩
  · rw [if_neg hn]
    go_enter Tryz.func112, Tryz.ntmps112
    go_wp2
    all_goals go_ret
    all_goals exact ⟨rint (by omega), rfl⟩
abbrev SkS (b : Nat) (v : Rv) (g k : Nat) (cu : Int) (u : World) : Prop := u.cell? ⟨b, 2, none⟩ = some (.int .i64 v.cp) ∧ u.cell? ⟨b, 55, none⟩ = some (.int .i64 v.se) ∧ u.cell? ⟨g, k * 7 + 2, none⟩ = some (.int .i64 cu)
theorem gone_eq {v : Rv} {s : Sb} {num : Int} (h : s.cu ≤ num) : goneS v s num = if (if v.se - v.cp - s.cu < 0 then 0 else v.se - v.cp - s.cu) < num - s.cu then (if v.se - v.cp - s.cu < 0 then 0 else v.se - v.cp - s.cu) else num - s.cu := by
  unfold goneS
  repeat' split
  all_goals omega
set_option maxRecDepth 100000 in
set_option maxHeartbeats 8000000 in
theorem skip_any (B b : Nat) (A : Na) (P : Nat → Tm) (f : Nat) (v : Rv) (g s sc : Nat) (ys : List Sa) (k : Nat) (num : Int) (w : World) (hR : RBody B b A P f v (some ⟨g, 0, none⟩) s sc ys w) (hs : s ≤ 2097152) (hk : k < ys.length)
    (hse : 0 ≤ v.se ∧ v.se ≤ 1000000000) (hcp : 1 ≤ v.cp ∧ v.cp ≤ 16) (hx : 0 ≤ (sg ys k).s.cu ∧ (sg ys k).s.cu ≤ num ∧ num ≤ v.se ∧ 0 ≤ (sg ys k).s.lo ∧ (sg ys k).s.lo ≤ 1000000000 ∧ 0 ≤ (sg ys k).s.pa ∧ (sg ys k).s.pa ≤ 1000000000) (d : Nat) (hd : d ≤ v.it.length) (ho : oldR (skipV v k num) = ((f + d : Nat) : Int)) :
    Calls Tryz.prog 111 #[.pointer (some ⟨b, 0, none⟩), .pointer (some ⟨g, k * 7, none⟩), .int .i64 num] w fun e w' => e = .returned (.tuple #[]) ∧ ∃ P' ys', RBody B b A P' (f + d) { skipV v k num with it := v.it.drop d } (some ⟨g, 0, none⟩) s sc ys' w' ∧ (∀ y, y ∈ ys' → ∃ x, x ∈ ys ∧ y.n = x.n) ∧ Below B w w' := by
  have hH := hR.s
  obtain ⟨x, hxx⟩ : ∃ x, sg ys k = x := ⟨_, rfl⟩
  rw [hxx] at hx
  have hcu : w.cell? ⟨g, k * 7 + 2, none⟩ = some (.int .i64 x.s.cu) := by rw [row_cell hR.srow.sb hk (by omega), hxx]; rfl
  have hS0 : SkS b v g k x.s.cu w := ⟨hH.2.2.1, hH.2.2.2.1, hcu⟩
  have hsv : v.sb.getD k Sb0 = x.s := by rw [← hR.sv, sg_svs2 hk, hxx]
  obtain ⟨la, hla⟩ : ∃ la : Int, (if v.se - v.cp - x.s.cu < 0 then 0 else v.se - v.cp - x.s.cu) = la := ⟨_, rfl⟩
  have HLa := hidOf (fun u => lostAhead_K v.cp v.se x.s.cu u (by rw [IntKind.wrap_i64]; omega) (by rw [IntKind.wrap_i64]; omega))
  rw [hla] at HLa
  have hla2 : 0 ≤ la ∧ la ≤ 1000000000 := by rw [← hla]; split <;> omega
  obtain ⟨go, hgo⟩ : ∃ go : Int, goneS v x.s num = go := ⟨_, rfl⟩
  have hgo2 : go = if la < num - x.s.cu then la else num - x.s.cu := by rw [← hgo, gone_eq hx.2.1, hla]
  have hsk : skipV v k num = { v with sb := putV (putV (putV v.sb k 4 (x.s.lo + go)) k 5 (x.s.pa + (num - x.s.cu - go))) k 2 num } := by unfold skipV; rw [hsv, hgo]
  have HSk := hidOf hsk
  have HX := hidOf hxx
  have HR := hidOf hR
  have HSv := hidOf hsv
  have hw1 : IntKind.i64.wrap (num - x.s.cu) = num - x.s.cu := by rw [IntKind.wrap_i64]; omega
  have HO := hidOf ho
  have HD := hidOf hd
  have HGo := hidOf hgo
  clear hxx hR hsv hla hgo hsk hcu hH ho hd
  go_enter Tryz.func111, Tryz.ntmps111
  go_upto_region 0 with fail
  refine wp_region_noPanic ?_
  refine wp_region_held_drew (S := fun w' => SkS b v g k x.s.cu w') (by kernel_rfl) hS0 (fun hHeld => ?_)
  refine wpAnyH_take (i := 0) (v := ?_) rfl (by kernel_rfl) (by kernel_rfl) (by kernel_rfl) (fun _ _ _ h => h) (Or.inl ⟨by rfl, ?_⟩) (by assumption) ?_
  case refine_2 => (intro w hSw; (try dsimp only at hSw); go_simp; try with_reducible rfl)
  simp only [Act.put, List.getElem_toArray, List.getElem_cons_zero, List.setIfInBounds_toArray, List.set_cons_zero, List.set_cons_succ]
  refine wpAnyH_take (i := 1) (v := ?_) rfl (by kernel_rfl) (by kernel_rfl) (by kernel_rfl) (fun _ _ _ h => h) (Or.inl ⟨by rfl, ?_⟩) (by assumption) ?_
  case refine_2 => (intro w hSw; (try dsimp only at hSw); go_simp; try with_reducible rfl)
  simp only [Act.put, zGA, zG0, zGC, zSA, zS0, zSC]
  refine wpAnyH_take (i := 2) (v := ?_) rfl (by kernel_rfl) (by kernel_rfl) (by kernel_rfl) (fun _ _ _ h => h) (Or.inl ⟨by rfl, ?_⟩) (by assumption) ?_
  case refine_2 => (intro w hSw; (try dsimp only at hSw); go_simp; try with_reducible rfl)
  simp only [Act.put, zGA, zG0, zGC, zSA, zS0, zSC]
  refine wpAnyH_take (i := 3) (v := ?_) rfl (by kernel_rfl) (by kernel_rfl) (by kernel_rfl) (fun _ _ _ h => h) (Or.inl ⟨by rfl, ?_⟩) (by assumption) ?_
  case refine_2 => (intro w hSw; (try dsimp only at hSw); go_simp; try with_reducible rfl)
  simp only [Act.put, zGA, zG0, zGC, zSA, zS0, zSC]
  refine wpAnyH_take (i := 4) (v := ?_) rfl (by kernel_rfl) (by kernel_rfl) (by kernel_rfl) (fun _ _ _ h => h) (Or.inl ⟨by rfl, ?_⟩) (by assumption) ?_
  case refine_2 => (intro w hSw; (try dsimp only at hSw); go_simp; try with_reducible rfl)
  simp only [Act.put, zGA, zG0, zGC, zSA, zS0, zSC]
  refine wpAnyH_take (i := 5) (v := ?_) rfl (by kernel_rfl) (by kernel_rfl) (by kernel_rfl) (fun _ _ _ h => h) (Or.inl ⟨by rfl, ?_⟩) (by assumption) ?_
  case refine_2 => (intro w hSw; (try dsimp only at hSw); go_simp; try with_reducible rfl)
  simp only [Act.put, zGA, zG0, zGC, zSA, zS0, zSC]
  refine wpAnyH_take (i := 6) (v := ?_) rfl (by kernel_rfl) (by kernel_rfl) (by kernel_rfl) (fun _ _ _ h => h) (Or.inl ⟨by rfl, ?_⟩) (by assumption) ?_
  case refine_2 => (intro w hSw; (try dsimp only at hSw); go_simp; try with_reducible rfl)
  simp only [Act.put, zGA, zG0, zGC, zSA, zS0, zSC]
  refine wpAnyH_take (i := 7) (v := ?_) rfl (by kernel_rfl) (by kernel_rfl) (by kernel_rfl) (fun _ _ _ h => h) (Or.inl ⟨by rfl, ?_⟩) (by assumption) ?_
  case refine_2 => (intro w hSw; (try dsimp only at hSw); go_simp; try with_reducible rfl)
  simp only [Act.put, zGA, zG0, zGC, zSA, zS0, zSC]
  refine wpAnyH_take (i := 8) (v := ?_) rfl (by kernel_rfl) (by kernel_rfl) (by kernel_rfl) (fun _ _ _ h => h) (Or.inl ⟨by rfl, ?_⟩) (by assumption) ?_
  case refine_2 => (intro w hSw; (try dsimp only at hSw); go_simp; try with_reducible rfl)
  simp only [Act.put, zGA, zG0, zGC, zSA, zS0, zSC]
  refine wpAnyH_take (i := 9) (v := ?_) rfl (by kernel_rfl) (by kernel_rfl) (by kernel_rfl) (fun _ _ _ h => h) (Or.inl ⟨by rfl, ?_⟩) (by assumption) ?_
  case refine_2 => (intro w hSw; (try dsimp only at hSw); go_simp; try with_reducible rfl)
  simp only [Act.put, zGA, zG0, zGC, zSA, zS0, zSC]
  refine wpAnyH_take (i := 10) (v := ?_) rfl (by kernel_rfl) (by kernel_rfl) (by kernel_rfl) (fun _ _ _ h => h) (Or.inl ⟨by rfl, ?_⟩) (by assumption) ?_
  case refine_2 => (intro w hSw; (try dsimp only at hSw); go_simp; try with_reducible rfl)
  simp only [Act.put, zGA, zG0, zGC, zSA, zS0, zSC]
  refine wpAnyH_take (i := 11) (v := ?_) rfl (by kernel_rfl) (by kernel_rfl) (by kernel_rfl) (fun _ _ _ h => h) (Or.inl ⟨by rfl, ?_⟩) (by assumption) ?_
  case refine_2 => (intro w hSw; (try dsimp only at hSw); go_simp; try with_reducible rfl)
  simp only [Act.put, zGA, zG0, zGC, zSA, zS0, zSC]
  refine wpAnyH_take (i := 12) (v := ?_) rfl (by kernel_rfl) (by kernel_rfl) (by kernel_rfl) (fun _ _ _ h => h) (Or.inl ⟨by rfl, ?_⟩) (by assumption) ?_
  case refine_2 => (intro w hSw; (try dsimp only at hSw); go_simp; try with_reducible rfl)
  simp only [Act.put, zGA, zG0, zGC, zSA, zS0, zSC]
  refine wpAnyH_take (i := 13) (v := ?_) rfl (by kernel_rfl) (by kernel_rfl) (by kernel_rfl) (fun _ _ _ h => h) (Or.inl ⟨by rfl, ?_⟩) (by assumption) ?_
  case refine_2 => (intro w hSw; (try dsimp only at hSw); go_simp; try with_reducible rfl)
  simp only [Act.put, zGA, zG0, zGC, zSA, zS0, zSC]
  refine wpAnyH_take (i := 14) (v := ?_) rfl (by kernel_rfl) (by kernel_rfl) (by kernel_rfl) (fun _ _ _ h => h) (Or.inl ⟨by rfl, ?_⟩) (by assumption) ?_
  case refine_2 => (intro w hSw; (try dsimp only at hSw); go_simp; try with_reducible rfl)
  simp only [Act.put, zGA, zG0, zGC, zSA, zS0, zSC]
  refine wpAnyH_take (i := 15) (v := ?_) rfl (by kernel_rfl) (by kernel_rfl) (by kernel_rfl) (fun _ _ _ h => h) (Or.inl ⟨by rfl, ?_⟩) (by assumption) ?_
  case refine_2 => (intro w hSw; (try dsimp only at hSw); go_simp; try with_reducible rfl)
  simp only [Act.put, zGA, zG0, zGC, zSA, zS0, zSC]
  refine wpAnyH_take (i := 16) (v := ?_) rfl (by kernel_rfl) (by kernel_rfl) (by kernel_rfl) (fun _ _ _ h => h) (Or.inl ⟨by rfl, ?_⟩) (by assumption) ?_
  case refine_2 => (intro w hSw; (try dsimp only at hSw); go_simp; try with_reducible rfl)
  simp only [Act.put, zGA, zG0, zGC, zSA, zS0, zSC]
  refine wpAnyH_take (i := 17) (v := ?_) rfl (by kernel_rfl) (by kernel_rfl) (by kernel_rfl) (fun _ _ _ h => h) (Or.inl ⟨by rfl, ?_⟩) (by assumption) ?_
  case refine_2 => (intro w hSw; (try dsimp only at hSw); go_simp; try with_reducible rfl)
  simp only [Act.put, zGA, zG0, zGC, zSA, zS0, zSC]
  refine wpAnyH_take (i := 18) (v := ?_) rfl (by kernel_rfl) (by kernel_rfl) (by kernel_rfl) (fun _ _ _ h => h) (Or.inl ⟨by rfl, ?_⟩) (by assumption) ?_
  case refine_2 => (intro w hSw; (try dsimp only at hSw); go_simp; try with_reducible rfl)
  simp only [Act.put, zGA, zG0, zGC, zSA, zS0, zSC]
  refine wpAnyH_ready (rs := [19]) (by kernel_rfl) (by simp) ?_
  refine AllReadyH.cons rfl (fun K hK => ?_) AllReadyH.nil
  go_simp
  refine (HLa.out _).mono ?_
  rintro e w5 ⟨rfl, rfl⟩
  go_wp2_with fail
  refine hK.out _ _ hHeld (fun hHeld => ?_)
  clear hK K
  refine wpAnyH_ready (rs := [20]) (by kernel_rfl) (by simp) ?_
  refine AllReadyH.cons rfl (fun K hK => ?_) AllReadyH.nil
  go_simp
  refine hK.out _ _ hHeld (fun hHeld => ?_)
  clear hK K
  refine wpAnyH_take (i := 21) (v := ?_) rfl (by kernel_rfl) (by kernel_rfl) (by kernel_rfl) (fun _ _ _ h => h) (Or.inl ⟨by rfl, ?_⟩) (by assumption) ?_
  case refine_2 => (intro w hSw; (try dsimp only at hSw); go_simp; try with_reducible rfl)
  simp only [Act.put, zGA, zG0, zGC, zSA, zS0, zSC]
  refine wpAnyH_done (by kernel_rfl) ?_ _
  refine NoPanic.normal ?_
  rw [← hgo2]
  have hgb : 0 ≤ go ∧ go ≤ num - x.s.cu := by rw [hgo2]; split <;> omega
  clear hgo2 hHeld hla2 HLa hS0
  have body0 := HR.out.keep (Below.refl _ _).drew
  have l4 : w.cell? ⟨g, k * 7 + 4, none⟩ = some (.int .i64 x.s.lo) := by rw [row_cell HR.out.srow.sb hk (by omega), HX.out]; rfl
  have fr := fun o => World.ownsRow.frozenAt HR.out.srow.sb o
  have hw2 : IntKind.i64.wrap (x.s.lo + go) = x.s.lo + go := by rw [IntKind.wrap_i64]; omega
  obtain ⟨U1, hU1⟩ : ∃ U, w.drew.setCell ⟨g, k * 7 + 4, none⟩ (.int .i64 (x.s.lo + go)) = U := ⟨_, rfl⟩
  have body1 := body0.put hk (by omega) (by omega) (r := 4) (x.s.lo + go)
  rw [hU1] at body1
  have hb1 : Below B w U1 := by rw [← hU1]; exact ((Below.refl _ _).drew).setCell (p := ⟨g, k * 7 + 4, none⟩) (row_lt HR.out.srow.sb (q := g) rfl).1 _
  have hk1 : k < (putS ys k 4 (x.s.lo + go)).length := by rw [putS_len]; exact hk
  have hg1 : sg (putS ys k 4 (x.s.lo + go)) k = putA x 4 (x.s.lo + go) := by rw [putS_get hk, if_pos rfl, HX.out]
  go_upto_region 2 with fail
  try rw [hU1]
  clear hU1 l4 fr body0 hw2
  have c5 : U1.cell? ⟨g, k * 7 + 5, none⟩ = some (.int .i64 x.s.pa) := by rw [row_cell body1.srow.sb hk1 (by omega), hg1]; rfl
  have c2 : U1.cell? ⟨g, k * 7 + 2, none⟩ = some (.int .i64 x.s.cu) := by rw [row_cell body1.srow.sb hk1 (by omega), hg1]; rfl
  have fr := fun o => World.ownsRow.frozenAt body1.srow.sb o
  have hS1 : U1.cell? ⟨g, k * 7 + 2, none⟩ = some (.int .i64 x.s.cu) ∧ True := ⟨c2, True.intro⟩
  have hw3 : IntKind.i64.wrap (num - x.s.cu - go) = num - x.s.cu - go := by rw [IntKind.wrap_i64]; omega
  have hw4 : IntKind.i64.wrap (x.s.pa + (num - x.s.cu - go)) = x.s.pa + (num - x.s.cu - go) := by rw [IntKind.wrap_i64]; omega
  obtain ⟨U2, hU2⟩ : ∃ U, U1.drew.setCell ⟨g, k * 7 + 5, none⟩ (.int .i64 (x.s.pa + (num - x.s.cu - go))) = U := ⟨_, rfl⟩
  have body2 := (body1.keep (Below.refl _ _).drew).put hk1 (by omega) (by omega) (r := 5) (x.s.pa + (num - x.s.cu - go))
  rw [hU2] at body2
  have hS2 : U2.cell? ⟨g, k * 7 + 2, none⟩ = some (.int .i64 x.s.cu) ∧ True := ⟨by rw [← hU2, World.cell?_setCell_other _ _ _ _ (by intro e; injection e with _ e2; omega)]; exact c2, True.intro⟩
  have hb2 : Below B U1 U2 := by rw [← hU2]; exact ((Below.refl _ _).drew).setCell (p := ⟨g, k * 7 + 5, none⟩) (row_lt body1.srow.sb (q := g) rfl).1 _
  have HB1 := hidOf body1
  have HB2 := hidOf body2
  clear body1 body2 c2
  refine wp_region_noPanic ?_
  refine wp_region_held_drew (S := fun w' => w'.cell? ⟨g, k * 7 + 2, none⟩ = some (.int .i64 x.s.cu) ∧ True) (by kernel_rfl) hS1 (fun hHeld => ?_)
  refine wpAnyH_take (i := 0) (v := ?_) rfl (by kernel_rfl) (by kernel_rfl) (by kernel_rfl) (fun _ _ _ h => h) (Or.inl ⟨by rfl, ?_⟩) (by assumption) ?_
  case refine_2 => (intro w hSw; (try dsimp only at hSw); go_simp; try with_reducible rfl)
  simp only [Act.put, List.getElem_toArray, List.getElem_cons_zero, List.setIfInBounds_toArray, List.set_cons_zero, List.set_cons_succ]
  refine wpAnyH_take (i := 1) (v := ?_) rfl (by kernel_rfl) (by kernel_rfl) (by kernel_rfl) (fun _ _ _ h => h) (Or.inl ⟨by rfl, ?_⟩) (by assumption) ?_
  case refine_2 => (intro w hSw; (try dsimp only at hSw); go_simp; try with_reducible rfl)
  simp only [Act.put, zGA, zG0, zGC, zSA, zS0, zSC]
  refine wpAnyH_take (i := 2) (v := ?_) rfl (by kernel_rfl) (by kernel_rfl) (by kernel_rfl) (fun _ _ _ h => h) (Or.inl ⟨by rfl, ?_⟩) (by assumption) ?_
  case refine_2 => (intro w hSw; (try dsimp only at hSw); go_simp; try with_reducible rfl)
  simp only [Act.put, zGA, zG0, zGC, zSA, zS0, zSC]
  refine wpAnyH_take (i := 4) (v := ?_) rfl (by kernel_rfl) (by kernel_rfl) (by kernel_rfl) (fun _ _ _ h => h) (Or.inl ⟨by rfl, ?_⟩) (by assumption) ?_
  case refine_2 => (intro w hSw; (try dsimp only at hSw); go_simp; try with_reducible rfl)
  simp only [Act.put, zGA, zG0, zGC, zSA, zS0, zSC]
  refine wpAnyH_take (i := 5) (v := ?_) rfl (by kernel_rfl) (by kernel_rfl) (by kernel_rfl) (fun _ _ _ h => h) (Or.inl ⟨by rfl, ?_⟩) (by assumption) ?_
  case refine_2 => (intro w hSw; (try dsimp only at hSw); go_simp; try with_reducible rfl)
  simp only [Act.put, zGA, zG0, zGC, zSA, zS0, zSC]
  refine wpAnyH_take (i := 6) (v := ?_) rfl (by kernel_rfl) (by kernel_rfl) (by kernel_rfl) (fun _ _ _ h => h) (Or.inl ⟨by rfl, ?_⟩) (by assumption) ?_
  case refine_2 => (intro w hSw; (try dsimp only at hSw); go_simp; try with_reducible rfl)
  simp only [Act.put, zGA, zG0, zGC, zSA, zS0, zSC]
  refine wpAnyH_take (i := 7) (v := ?_) rfl (by kernel_rfl) (by kernel_rfl) (by kernel_rfl) (fun _ _ _ h => h) (Or.inl ⟨by rfl, ?_⟩) (by assumption) ?_
  case refine_2 => (intro w hSw; (try dsimp only at hSw); go_simp; try with_reducible rfl)
  simp only [Act.put, zGA, zG0, zGC, zSA, zS0, zSC]
  refine wpAnyH_take (i := 8) (v := ?_) rfl (by kernel_rfl) (by kernel_rfl) (by kernel_rfl) (fun _ _ _ h => h) (Or.inl ⟨by rfl, ?_⟩) (by assumption) ?_
  case refine_2 => (intro w hSw; (try dsimp only at hSw); go_simp; try with_reducible rfl)
  simp only [Act.put, zGA, zG0, zGC, zSA, zS0, zSC]
  refine wpAnyH_take (i := 9) (v := ?_) rfl (by kernel_rfl) (by kernel_rfl) (by kernel_rfl) (fun _ _ _ h => h) (Or.inl ⟨by rfl, ?_⟩) (by assumption) ?_
  case refine_2 => (intro w hSw; (try dsimp only at hSw); go_simp; try with_reducible rfl)
  simp only [Act.put, zGA, zG0, zGC, zSA, zS0, zSC]
  refine wpAnyH_take (i := 10) (v := ?_) rfl (by kernel_rfl) (by kernel_rfl) (by kernel_rfl) (fun _ _ _ h => h) (Or.inl ⟨by rfl, ?_⟩) (by assumption) ?_
  case refine_2 => (intro w hSw; (try dsimp only at hSw); go_simp; try with_reducible rfl)
  simp only [Act.put, zGA, zG0, zGC, zSA, zS0, zSC]
  refine wpAnyH_take (i := 11) (v := ?_) rfl (by kernel_rfl) (by kernel_rfl) (by kernel_rfl) (fun _ _ _ h => h) (Or.inl ⟨by rfl, ?_⟩) (by assumption) ?_
  case refine_2 => (intro w hSw; (try dsimp only at hSw); go_simp; try with_reducible rfl)
  simp only [Act.put, zGA, zG0, zGC, zSA, zS0, zSC]
  refine wpAnyH_ready (rs := [3]) (by kernel_rfl) (by simp) ?_
  refine AllReadyH.cons rfl (fun K hK => ?_) AllReadyH.nil
  go_simp
  refine hK.out _ _ hHeld (fun hHeld => ?_)
  clear hK K
  refine wpAnyH_take (i := 12) (v := ?_) rfl (by kernel_rfl) (by kernel_rfl) (by kernel_rfl) (fun _ _ _ h => h) (Or.inl ⟨by rfl, ?_⟩) (by assumption) ?_
  case refine_2 => (intro w hSw; (try dsimp only at hSw); go_simp; try with_reducible rfl)
  simp only [Act.put, zGA, zG0, zGC, zSA, zS0, zSC]
  refine wpAnyH_take (i := 13) (v := ?_) rfl (by kernel_rfl) (by kernel_rfl) (by kernel_rfl) (fun _ _ _ h => h) (Or.inl ⟨by rfl, ?_⟩) (by assumption) ?_
  case refine_2 => (intro w hSw; (try dsimp only at hSw); go_simp; try with_reducible rfl)
  simp only [Act.put, zGA, zG0, zGC, zSA, zS0, zSC]
  refine wpAnyH_take (i := 14) (v := ?_) rfl (by kernel_rfl) (by kernel_rfl) (by kernel_rfl) (fun _ _ _ h => h) (Or.inl ⟨by rfl, ?_⟩) (by assumption) ?_
  case refine_2 => (intro w hSw; (try dsimp only at hSw); go_simp; try with_reducible rfl)
  simp only [Act.put, zGA, zG0, zGC, zSA, zS0, zSC]
  refine wpAnyH_ready (rs := [15]) (by kernel_rfl) (by simp) ?_
  refine AllReadyH.cons rfl (fun K hK => ?_) AllReadyH.nil
  go_simp
  refine hK.out _ _ hS2 (fun hHeld => ?_)
  clear hK K
  refine wpAnyH_done (by kernel_rfl) ?_ _
  refine NoPanic.normal ?_
  clear hU2 hS1 hHeld c5 fr hw3 hw4 HB1
  obtain ⟨y1, hy1⟩ : ∃ y, putS ys k 4 (x.s.lo + go) = y := ⟨_, rfl⟩
  rw [hy1] at HB2 hk1
  obtain ⟨y2, hy2⟩ : ∃ y, putS y1 k 5 (x.s.pa + (num - x.s.cu - go)) = y := ⟨_, rfl⟩
  rw [hy2] at HB2
  have hk2 : k < y2.length := by rw [← hy2, putS_len]; exact hk1
  have e2 := hS2.1
  have fr2 := fun o => World.ownsRow.frozenAt HB2.out.srow.sb o
  obtain ⟨U3, hU3⟩ : ∃ U, U2.setCell ⟨g, k * 7 + 2, none⟩ (.int .i64 num) = U := ⟨_, rfl⟩
  have body3 := HB2.out.put hk2 (by omega) (by omega) (r := 2) num
  rw [hU3] at body3
  have hb3 : Below B U2 U3 := by rw [← hU3]; exact (Below.refl _ _).setCell (p := ⟨g, k * 7 + 2, none⟩) (row_lt HB2.out.srow.sb (q := g) rfl).1 _
  have hv3 : ({ v with sb := putV (putV (putV v.sb k 4 (x.s.lo + go)) k 5 (x.s.pa + (num - x.s.cu - go))) k 2 num } : Rv) = skipV v k num := HSk.out.symm
  have body3' : RBody B b A P f (skipV v k num) (some ⟨g, 0, none⟩) s sc (putS y2 k 2 num) U3 := by rw [← hv3]; exact body3
  have HDr := hidOf (dropOld_any B b A P f (skipV v k num) (some ⟨g, 0, none⟩) s sc (putS y2 k 2 num) U3 body3' hs hse hcp d HD.out HO.out)
  have HYs := hidOf (show ∀ y, y ∈ putS y2 k 2 num → ∃ x, x ∈ ys ∧ y.n = x.n from fun y hy => by
    obtain ⟨a1, h1, _, n1, _⟩ := putS_mem hk2 y hy
    rw [← hy2] at h1
    obtain ⟨a2, h2, _, n2, _⟩ := putS_mem hk1 a1 h1
    rw [← hy1] at h2
    obtain ⟨a3, h3, _, n3, _⟩ := putS_mem hk a2 h2
    exact ⟨a3, h3, by rw [n1, n2, n3]⟩)
  have HBl := hidOf (show Below B w U3 from (hb1.trans hb2).trans hb3)
  have hBge := HR.out.wst.ge
  clear hy1 hy2 body3 body3' hv3 hb1 hb2 hb3 hS2
  go_wp2_with fail
  refine (HDr.out).mono ?_
  rintro e w6 ⟨rfl, P', body6, gr6⟩
  go_wp2_with fail
  go_end0
  exact ⟨rfl, P', _, body6, HYs.out, HBl.out.grown gr6 (by have h1 := HBl.out.size; have h2 := HR.out.wst.lt; omega) (fun j hj => by injection hj with hj; rw [← hj]; exact hBge)⟩
end Go.Proofs.YtihdglmiecifjaaGreat
