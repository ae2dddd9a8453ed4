/-
  Rings: Lag, of both sides.
-/
import Derived.Test.YtihdglmiecifjaaZRbRR317
import Derived.Deep.CutRange
namespace Go.Proofs.Ytihdglmiecifjaa
open Go.RowKit Pl Il

/-- What Lag tells. -/
def lagOk (v : Rv) (id : Int) : Bool := okR restR v && decide (0 ≤ atR v.sb id)
def lagB (v : Rv) (id : Int) : Int := if lagOk v id = true then v.se - cuR v.sb (atR v.sb id) else 0
def lagM (v : Rv) (id : Int) : Int := if lagOk v id = true then (if v.se - v.cp - cuR v.sb (atR v.sb id) < 0 then 0 else v.se - v.cp - cuR v.sb (atR v.sb id)) else 0
def LagDone (F : Nat) : Prop := ∀ (M : Rm) (v : Rv) (id : Int) (w : World), RIn w M v → RLe M 1048576 → RCap M → RWf v →
  Calls Try.prog F #[.agg #[.int .i64 v.cp, .int .i64 v.se, .slice M.ia M.i M.ic, .int .i64 v.nx, .slice M.sa M.s M.sc, .slice M.la M.l M.lc, .slice M.ga M.g M.gc, .bool v.cl], .int .i64 id] w fun e w' => e = .returned (.tuple #[.int .i64 (lagB v id), .int .i64 (lagM v id), .bool (lagOk v id)]) ∧ Below w.heap.size w w'
set_option maxRecDepth 100000 in
set_option maxHeartbeats 8000000 in
theorem specLag_any : LagDone 11 := by
  intro M v id w hI hm hcap hw
  obtain ⟨W0, hW0⟩ : ∃ W, W = w.alloc (.cells #[.int .i64 v.cp, .int .i64 v.se, .slice M.ia M.i M.ic, .int .i64 v.nx, .slice M.sa M.s M.sc, .slice M.la M.l M.lc, .slice M.ga M.g M.gc, .bool v.cl] 32) := ⟨_, rfl⟩
  have hX : RHold w M v W0 := by
    have b0 : Below w.heap.size w W0 := by rw [hW0]; exact bl_alloc (Below.refl _ _) _
    exact ⟨by rw [hW0]; exact BoxL.new w (rC M v) _, hI.keep b0, b0⟩
  have hsl : v.sb.length = M.s := by
    have h1 := hI.sb.len
    have h2 := congrArg List.length hI.sv
    simp [svs] at h2
    omega
  have HSl := hidOf hsl
  have HOk := hidOf (fun (h : okR restR v = true) => ok_bounds h)
  have HHd := hidOf (fun (h : okR restR v = true) => ok_head h)
  have HC := hidOf (fun (u : World) (hu : RHold w M v u) => specRingOk_any M v u hu.rin hm hcap hw)
  have HA := hidOf (fun (u : World) (hu : RHold w M v u) => l9At_any M v id u hu.rin (hm.mono (by omega)))
  have p0 := hX.box.cs 0 (by simp)
  have p1 := hX.box.cs 1 (by simp)
  have p2 := hX.box.cs 2 (by simp)
  have p3 := hX.box.cs 3 (by simp)
  have p4 := hX.box.cs 4 (by simp)
  have p5 := hX.box.cs 5 (by simp)
  have p6 := hX.box.cs 6 (by simp)
  have p7 := hX.box.cs 7 (by simp)
  simp at p0 p1 p2 p3 p4 p5 p6 p7
  have hMs := hm.s
  have HX := hidOf hX
  obtain ⟨q, hq⟩ : ∃ q, okR restR v = q := ⟨_, rfl⟩
  rw [hq] at HC
  have HQ := hidOf hq
  clear hI hm hX hcap hw hsl hq
  go_enter Try.func11, Try.ntmps11
  go_upto_region 1 with fail
  rw [← hW0]
  clear hW0
  go_wp2_with fail
  refine (HA.out _ HX.out).mono ?_
  rintro e w0 ⟨rfl, hb0⟩
  have hX := HX.out.keep hb0
  clear hb0 HX p0 p1 p2 p3 p4 p5 p6 p7
  have p0 := hX.box.cs 0 (by simp)
  have p1 := hX.box.cs 1 (by simp)
  have p2 := hX.box.cs 2 (by simp)
  have p3 := hX.box.cs 3 (by simp)
  have p4 := hX.box.cs 4 (by simp)
  have p5 := hX.box.cs 5 (by simp)
  have p6 := hX.box.cs 6 (by simp)
  have p7 := hX.box.cs 7 (by simp)
  simp at p0 p1 p2 p3 p4 p5 p6 p7
  have HX := hidOf hX
  clear hX
  go_wp2_with fail
  refine (HC.out _ HX.out).mono ?_
  rintro e w1 ⟨rfl, hb1⟩
  have hX := HX.out.keep hb1
  clear hb1 HX p0 p1 p2 p3 p4 p5 p6 p7
  cases q
  · have HL := hidOf (show lagOk v id = false by unfold lagOk; rw [HQ.out]; rfl)
    have HX := hidOf hX
    clear hX
    go_wp2
    go_ret3
    rw [show lagB v id = 0 from if_neg (by rw [HL.out]; simp), show lagM v id = 0 from if_neg (by rw [HL.out]; simp), HL.out]
    exact ⟨rfl, HX.out.below⟩
  by_cases hk0 : atR v.sb id < 0
  · have HL := hidOf (show lagOk v id = false by unfold lagOk; rw [decide_eq_false (show ¬ 0 ≤ atR v.sb id by omega), Bool.and_false])
    have HX := hidOf hX
    clear hX
    go_wp2
    go_ret3
    rw [show lagB v id = 0 from if_neg (by rw [HL.out]; simp), show lagM v id = 0 from if_neg (by rw [HL.out]; simp), HL.out]
    exact ⟨rfl, HX.out.below⟩
  have hk0d : decide (atR v.sb id < 0) = false := decide_eq_false hk0
  have hk1 : (0 : Int) ≤ atR v.sb id := by omega
  obtain ⟨j, hj, hjl⟩ := atR_get2 hk1
  have hjs : j < M.s := by have := HSl.out; omega
  have hk2 : atR v.sb id < (M.s : Int) := by omega
  obtain hr | ⟨b, off, ea, hb, hcell⟩ := hX.rin.sb.row
  · omega
  have hcj := hcell j hjs
  have hjt : (atR v.sb id).toNat = j := by rw [hj]; simp
  have hcu := sb_get hX.rin.sv (show j < M.xs.length by rw [hX.rin.sb.len]; exact hjs)
  have HCu := hidOf (show cuR v.sb (atR v.sb id) = (sg M.xs j).s.cu by unfold cuR; rw [hjt, hcu])
  have hbd := ((HOk.out HQ.out).2 (sg M.xs j).s (by rw [← hcu, List.getD_eq_getElem?_getD, List.getElem?_eq_getElem hjl]; exact List.getElem_mem hjl)).1
  have hhd := HHd.out HQ.out
  rw [← hjt] at hcj HCu hbd
  obtain ⟨x, hx⟩ : ∃ x, sg M.xs (atR v.sb id).toNat = x := ⟨_, rfl⟩
  rw [hx] at hcj HCu hbd
  have HL := hidOf (show lagOk v id = true by unfold lagOk; rw [HQ.out, decide_eq_true hk1]; rfl)
  have HRB := hidOf (show lagB v id = v.se - x.s.cu by unfold lagB; rw [if_pos HL.out, HCu.out])
  have HRM := hidOf (show lagM v id = if v.se - v.cp - x.s.cu < 0 then 0 else v.se - v.cp - x.s.cu by unfold lagM; rw [if_pos HL.out, HCu.out])
  have w1 : IntKind.i64.wrap (v.se - v.cp) = v.se - v.cp := by rw [IntKind.wrap_i64]; omega
  have w2 : IntKind.i64.wrap (v.se - v.cp - x.s.cu) = v.se - v.cp - x.s.cu := by rw [IntKind.wrap_i64]; omega
  have w3 : IntKind.i64.wrap (v.se - x.s.cu) = v.se - x.s.cu := by rw [IntKind.wrap_i64]; omega
  have HU := hidOf (hX.sub (x := x) (y := x) ea hcj hcj.c0)
  have hH := hX.sub (x := x) (y := x) ea hcj hcj.c0
  clear hX hcell hcj ea hj hjt hjs hjl hb hx hcu hbd hhd hk0 HCu
  go_upto_region 4 with fail
  refine wp_region_noPanic ?_
  refine wp_region_held_drew (S := fun w' => RSub w M v (some ⟨b, off, none⟩) b (off + (atR v.sb id).toNat * 7) (off + (atR v.sb id).toNat * 7) x x w') (by kernel_rfl) hH.drew (fun hHeld => ?_)
  refine wpAnyH_take (i := 0) (v := ?_) rfl (by kernel_rfl) (by kernel_rfl) (by kernel_rfl) (fun _ _ _ h => h) (Or.inl ⟨by rfl, ?_⟩) (by assumption) ?_
  case refine_2 => (intro w hSw; (try dsimp only at hSw); go_simp; try with_reducible rfl)
  simp only [Act.put, List.getElem_toArray, List.getElem_cons_zero, List.setIfInBounds_toArray, List.set_cons_zero, List.set_cons_succ]
  refine wpAnyH_take (i := 1) (v := ?_) rfl (by kernel_rfl) (by kernel_rfl) (by kernel_rfl) (fun _ _ _ h => h) (Or.inl ⟨by rfl, ?_⟩) (by assumption) ?_
  case refine_2 => (intro w hSw; (try dsimp only at hSw); go_simp; try with_reducible rfl)
  simp only [Act.put, zGA, zG0, zGC, zSA, zS0, zSC]
  refine wpAnyH_take (i := 2) (v := ?_) rfl (by kernel_rfl) (by kernel_rfl) (by kernel_rfl) (fun _ _ _ h => h) (Or.inl ⟨by rfl, ?_⟩) (by assumption) ?_
  case refine_2 => (intro w hSw; (try dsimp only at hSw); go_simp; try with_reducible rfl)
  simp only [Act.put, zGA, zG0, zGC, zSA, zS0, zSC]
  refine wpAnyH_take (i := 3) (v := ?_) rfl (by kernel_rfl) (by kernel_rfl) (by kernel_rfl) (fun _ _ _ h => h) (Or.inl ⟨by rfl, ?_⟩) (by assumption) ?_
  case refine_2 => (intro w hSw; (try dsimp only at hSw); go_simp; try with_reducible rfl)
  simp only [Act.put, zGA, zG0, zGC, zSA, zS0, zSC]
  refine wpAnyH_take (i := 4) (v := ?_) rfl (by kernel_rfl) (by kernel_rfl) (by kernel_rfl) (fun _ _ _ h => h) (Or.inl ⟨by rfl, ?_⟩) (by assumption) ?_
  case refine_2 => (intro w hSw; (try dsimp only at hSw); go_simp; try with_reducible rfl)
  simp only [Act.put, zGA, zG0, zGC, zSA, zS0, zSC]
  refine wpAnyH_take (i := 5) (v := ?_) rfl (by kernel_rfl) (by kernel_rfl) (by kernel_rfl) (fun _ _ _ h => h) (Or.inl ⟨by rfl, ?_⟩) (by assumption) ?_
  case refine_2 => (intro w hSw; (try dsimp only at hSw); go_simp; try with_reducible rfl)
  simp only [Act.put, zGA, zG0, zGC, zSA, zS0, zSC]
  refine wpAnyH_take (i := 6) (v := ?_) rfl (by kernel_rfl) (by kernel_rfl) (by kernel_rfl) (fun _ _ _ h => h) (Or.inl ⟨by rfl, ?_⟩) (by assumption) ?_
  case refine_2 => (intro w hSw; (try dsimp only at hSw); go_simp; try with_reducible rfl)
  simp only [Act.put, zGA, zG0, zGC, zSA, zS0, zSC]
  refine wpAnyH_take (i := 7) (v := ?_) rfl (by kernel_rfl) (by kernel_rfl) (by kernel_rfl) (fun _ _ _ h => h) (Or.inl ⟨by rfl, ?_⟩) (by assumption) ?_
  case refine_2 => (intro w hSw; (try dsimp only at hSw); go_simp; try with_reducible rfl)
  simp only [Act.put, zGA, zG0, zGC, zSA, zS0, zSC]
  refine wpAnyH_take (i := 8) (v := ?_) rfl (by kernel_rfl) (by kernel_rfl) (by kernel_rfl) (fun _ _ _ h => h) (Or.inl ⟨by rfl, ?_⟩) (by assumption) ?_
  case refine_2 => (intro w hSw; (try dsimp only at hSw); go_simp; try with_reducible rfl)
  simp only [Act.put, zGA, zG0, zGC, zSA, zS0, zSC]
  refine wpAnyH_take (i := 9) (v := ?_) rfl (by kernel_rfl) (by kernel_rfl) (by kernel_rfl) (fun _ _ _ h => h) (Or.inl ⟨by rfl, ?_⟩) (by assumption) ?_
  case refine_2 => (intro w hSw; (try dsimp only at hSw); go_simp; try with_reducible rfl)
  simp only [Act.put, zGA, zG0, zGC, zSA, zS0, zSC]
  refine wpAnyH_take (i := 10) (v := ?_) rfl (by kernel_rfl) (by kernel_rfl) (by kernel_rfl) (fun _ _ _ h => h) (Or.inl ⟨by rfl, ?_⟩) (by assumption) ?_
  case refine_2 => (intro w hSw; (try dsimp only at hSw); go_simp; try with_reducible rfl)
  simp only [Act.put, zGA, zG0, zGC, zSA, zS0, zSC]
  refine wpAnyH_take (i := 11) (v := ?_) rfl (by kernel_rfl) (by kernel_rfl) (by kernel_rfl) (fun _ _ _ h => h) (Or.inl ⟨by rfl, ?_⟩) (by assumption) ?_
  case refine_2 => (intro w hSw; (try dsimp only at hSw); go_simp; try with_reducible rfl)
  simp only [Act.put, zGA, zG0, zGC, zSA, zS0, zSC]
  refine wpAnyH_take (i := 12) (v := ?_) rfl (by kernel_rfl) (by kernel_rfl) (by kernel_rfl) (fun _ _ _ h => h) (Or.inl ⟨by rfl, ?_⟩) (by assumption) ?_
  case refine_2 => (intro w hSw; (try dsimp only at hSw); go_simp; try with_reducible rfl)
  simp only [Act.put, zGA, zG0, zGC, zSA, zS0, zSC]
  refine wpAnyH_done (by kernel_rfl) ?_ _
  refine NoPanic.normal ?_
  have hT := RSub.hold hHeld
  have hH : RSub w M v (some ⟨b, off, none⟩) b (off + (atR v.sb id).toNat * 7) (off + (atR v.sb id).toNat * 7) x x _ := hHeld
  clear hHeld hT
  by_cases hn : v.se - v.cp - x.s.cu < 0
  · rw [if_pos hn] at HRM
    go_upto_region 7 with fail
    refine wp_region_noPanic ?_
    refine wp_region_held_drew (S := fun w' => RSub w M v (some ⟨b, off, none⟩) b (off + (atR v.sb id).toNat * 7) (off + (atR v.sb id).toNat * 7) x x w') (by kernel_rfl) hH.drew (fun hHeld => ?_)
    refine wpAnyH_take (i := 0) (v := ?_) rfl (by kernel_rfl) (by kernel_rfl) (by kernel_rfl) (fun _ _ _ h => h) (Or.inl ⟨by rfl, ?_⟩) (by assumption) ?_
    case refine_2 => (intro w hSw; (try dsimp only at hSw); go_simp; try with_reducible rfl)
    simp only [Act.put, List.getElem_toArray, List.getElem_cons_zero, List.setIfInBounds_toArray, List.set_cons_zero, List.set_cons_succ]
    refine wpAnyH_take (i := 1) (v := ?_) rfl (by kernel_rfl) (by kernel_rfl) (by kernel_rfl) (fun _ _ _ h => h) (Or.inl ⟨by rfl, ?_⟩) (by assumption) ?_
    case refine_2 => (intro w hSw; (try dsimp only at hSw); go_simp; try with_reducible rfl)
    simp only [Act.put, zGA, zG0, zGC, zSA, zS0, zSC]
    refine wpAnyH_take (i := 2) (v := ?_) rfl (by kernel_rfl) (by kernel_rfl) (by kernel_rfl) (fun _ _ _ h => h) (Or.inl ⟨by rfl, ?_⟩) (by assumption) ?_
    case refine_2 => (intro w hSw; (try dsimp only at hSw); go_simp; try with_reducible rfl)
    simp only [Act.put, zGA, zG0, zGC, zSA, zS0, zSC]
    refine wpAnyH_take (i := 3) (v := ?_) rfl (by kernel_rfl) (by kernel_rfl) (by kernel_rfl) (fun _ _ _ h => h) (Or.inl ⟨by rfl, ?_⟩) (by assumption) ?_
    case refine_2 => (intro w hSw; (try dsimp only at hSw); go_simp; try with_reducible rfl)
    simp only [Act.put, zGA, zG0, zGC, zSA, zS0, zSC]
    refine wpAnyH_take (i := 4) (v := ?_) rfl (by kernel_rfl) (by kernel_rfl) (by kernel_rfl) (fun _ _ _ h => h) (Or.inl ⟨by rfl, ?_⟩) (by assumption) ?_
    case refine_2 => (intro w hSw; (try dsimp only at hSw); go_simp; try with_reducible rfl)
    simp only [Act.put, zGA, zG0, zGC, zSA, zS0, zSC]
    refine wpAnyH_take (i := 5) (v := ?_) rfl (by kernel_rfl) (by kernel_rfl) (by kernel_rfl) (fun _ _ _ h => h) (Or.inl ⟨by rfl, ?_⟩) (by assumption) ?_
    case refine_2 => (intro w hSw; (try dsimp only at hSw); go_simp; try with_reducible rfl)
    simp only [Act.put, zGA, zG0, zGC, zSA, zS0, zSC]
    refine wpAnyH_take (i := 6) (v := ?_) rfl (by kernel_rfl) (by kernel_rfl) (by kernel_rfl) (fun _ _ _ h => h) (Or.inl ⟨by rfl, ?_⟩) (by assumption) ?_
    case refine_2 => (intro w hSw; (try dsimp only at hSw); go_simp; try with_reducible rfl)
    simp only [Act.put, zGA, zG0, zGC, zSA, zS0, zSC]
    refine wpAnyH_take (i := 7) (v := ?_) rfl (by kernel_rfl) (by kernel_rfl) (by kernel_rfl) (fun _ _ _ h => h) (Or.inl ⟨by rfl, ?_⟩) (by assumption) ?_
    case refine_2 => (intro w hSw; (try dsimp only at hSw); go_simp; try with_reducible rfl)
    simp only [Act.put, zGA, zG0, zGC, zSA, zS0, zSC]
    refine wpAnyH_take (i := 8) (v := ?_) rfl (by kernel_rfl) (by kernel_rfl) (by kernel_rfl) (fun _ _ _ h => h) (Or.inl ⟨by rfl, ?_⟩) (by assumption) ?_
    case refine_2 => (intro w hSw; (try dsimp only at hSw); go_simp; try with_reducible rfl)
    simp only [Act.put, zGA, zG0, zGC, zSA, zS0, zSC]
    refine wpAnyH_take (i := 9) (v := ?_) rfl (by kernel_rfl) (by kernel_rfl) (by kernel_rfl) (fun _ _ _ h => h) (Or.inl ⟨by rfl, ?_⟩) (by assumption) ?_
    case refine_2 => (intro w hSw; (try dsimp only at hSw); go_simp; try with_reducible rfl)
    simp only [Act.put, zGA, zG0, zGC, zSA, zS0, zSC]
    refine wpAnyH_take (i := 10) (v := ?_) rfl (by kernel_rfl) (by kernel_rfl) (by kernel_rfl) (fun _ _ _ h => h) (Or.inl ⟨by rfl, ?_⟩) (by assumption) ?_
    case refine_2 => (intro w hSw; (try dsimp only at hSw); go_simp; try with_reducible rfl)
    simp only [Act.put, zGA, zG0, zGC, zSA, zS0, zSC]
    refine wpAnyH_take (i := 11) (v := ?_) rfl (by kernel_rfl) (by kernel_rfl) (by kernel_rfl) (fun _ _ _ h => h) (Or.inl ⟨by rfl, ?_⟩) (by assumption) ?_
    case refine_2 => (intro w hSw; (try dsimp only at hSw); go_simp; try with_reducible rfl)
    simp only [Act.put, zGA, zG0, zGC, zSA, zS0, zSC]
    refine wpAnyH_take (i := 12) (v := ?_) rfl (by kernel_rfl) (by kernel_rfl) (by kernel_rfl) (fun _ _ _ h => h) (Or.inl ⟨by rfl, ?_⟩) (by assumption) ?_
    case refine_2 => (intro w hSw; (try dsimp only at hSw); go_simp; try with_reducible rfl)
    simp only [Act.put, zGA, zG0, zGC, zSA, zS0, zSC]
    refine wpAnyH_done (by kernel_rfl) ?_ _
    refine NoPanic.normal ?_
    have hT := RSub.hold hHeld
    have HT := hidOf hT
    clear hT hHeld hH
    go_wp2
    go_ret3
    rw [HRB.out, HRM.out, HL.out]
    exact ⟨rfl, HT.out.below⟩
  · rw [if_neg hn] at HRM
    go_upto_region 7 with fail
    refine wp_region_noPanic ?_
    refine wp_region_held_drew (S := fun w' => RSub w M v (some ⟨b, off, none⟩) b (off + (atR v.sb id).toNat * 7) (off + (atR v.sb id).toNat * 7) x x w') (by kernel_rfl) hH.drew (fun hHeld => ?_)
    refine wpAnyH_take (i := 0) (v := ?_) rfl (by kernel_rfl) (by kernel_rfl) (by kernel_rfl) (fun _ _ _ h => h) (Or.inl ⟨by rfl, ?_⟩) (by assumption) ?_
    case refine_2 => (intro w hSw; (try dsimp only at hSw); go_simp; try with_reducible rfl)
    simp only [Act.put, List.getElem_toArray, List.getElem_cons_zero, List.setIfInBounds_toArray, List.set_cons_zero, List.set_cons_succ]
    refine wpAnyH_take (i := 1) (v := ?_) rfl (by kernel_rfl) (by kernel_rfl) (by kernel_rfl) (fun _ _ _ h => h) (Or.inl ⟨by rfl, ?_⟩) (by assumption) ?_
    case refine_2 => (intro w hSw; (try dsimp only at hSw); go_simp; try with_reducible rfl)
    simp only [Act.put, zGA, zG0, zGC, zSA, zS0, zSC]
    refine wpAnyH_take (i := 2) (v := ?_) rfl (by kernel_rfl) (by kernel_rfl) (by kernel_rfl) (fun _ _ _ h => h) (Or.inl ⟨by rfl, ?_⟩) (by assumption) ?_
    case refine_2 => (intro w hSw; (try dsimp only at hSw); go_simp; try with_reducible rfl)
    simp only [Act.put, zGA, zG0, zGC, zSA, zS0, zSC]
    refine wpAnyH_take (i := 3) (v := ?_) rfl (by kernel_rfl) (by kernel_rfl) (by kernel_rfl) (fun _ _ _ h => h) (Or.inl ⟨by rfl, ?_⟩) (by assumption) ?_
    case refine_2 => (intro w hSw; (try dsimp only at hSw); go_simp; try with_reducible rfl)
    simp only [Act.put, zGA, zG0, zGC, zSA, zS0, zSC]
    refine wpAnyH_take (i := 4) (v := ?_) rfl (by kernel_rfl) (by kernel_rfl) (by kernel_rfl) (fun _ _ _ h => h) (Or.inl ⟨by rfl, ?_⟩) (by assumption) ?_
    case refine_2 => (intro w hSw; (try dsimp only at hSw); go_simp; try with_reducible rfl)
    simp only [Act.put, zGA, zG0, zGC, zSA, zS0, zSC]
    refine wpAnyH_take (i := 5) (v := ?_) rfl (by kernel_rfl) (by kernel_rfl) (by kernel_rfl) (fun _ _ _ h => h) (Or.inl ⟨by rfl, ?_⟩) (by assumption) ?_
    case refine_2 => (intro w hSw; (try dsimp only at hSw); go_simp; try with_reducible rfl)
    simp only [Act.put, zGA, zG0, zGC, zSA, zS0, zSC]
    refine wpAnyH_take (i := 6) (v := ?_) rfl (by kernel_rfl) (by kernel_rfl) (by kernel_rfl) (fun _ _ _ h => h) (Or.inl ⟨by rfl, ?_⟩) (by assumption) ?_
    case refine_2 => (intro w hSw; (try dsimp only at hSw); go_simp; try with_reducible rfl)
    simp only [Act.put, zGA, zG0, zGC, zSA, zS0, zSC]
    refine wpAnyH_take (i := 7) (v := ?_) rfl (by kernel_rfl) (by kernel_rfl) (by kernel_rfl) (fun _ _ _ h => h) (Or.inl ⟨by rfl, ?_⟩) (by assumption) ?_
    case refine_2 => (intro w hSw; (try dsimp only at hSw); go_simp; try with_reducible rfl)
    simp only [Act.put, zGA, zG0, zGC, zSA, zS0, zSC]
    refine wpAnyH_take (i := 8) (v := ?_) rfl (by kernel_rfl) (by kernel_rfl) (by kernel_rfl) (fun _ _ _ h => h) (Or.inl ⟨by rfl, ?_⟩) (by assumption) ?_
    case refine_2 => (intro w hSw; (try dsimp only at hSw); go_simp; try with_reducible rfl)
    simp only [Act.put, zGA, zG0, zGC, zSA, zS0, zSC]
    refine wpAnyH_take (i := 9) (v := ?_) rfl (by kernel_rfl) (by kernel_rfl) (by kernel_rfl) (fun _ _ _ h => h) (Or.inl ⟨by rfl, ?_⟩) (by assumption) ?_
    case refine_2 => (intro w hSw; (try dsimp only at hSw); go_simp; try with_reducible rfl)
    simp only [Act.put, zGA, zG0, zGC, zSA, zS0, zSC]
    refine wpAnyH_take (i := 10) (v := ?_) rfl (by kernel_rfl) (by kernel_rfl) (by kernel_rfl) (fun _ _ _ h => h) (Or.inl ⟨by rfl, ?_⟩) (by assumption) ?_
    case refine_2 => (intro w hSw; (try dsimp only at hSw); go_simp; try with_reducible rfl)
    simp only [Act.put, zGA, zG0, zGC, zSA, zS0, zSC]
    refine wpAnyH_take (i := 11) (v := ?_) rfl (by kernel_rfl) (by kernel_rfl) (by kernel_rfl) (fun _ _ _ h => h) (Or.inl ⟨by rfl, ?_⟩) (by assumption) ?_
    case refine_2 => (intro w hSw; (try dsimp only at hSw); go_simp; try with_reducible rfl)
    simp only [Act.put, zGA, zG0, zGC, zSA, zS0, zSC]
    refine wpAnyH_take (i := 12) (v := ?_) rfl (by kernel_rfl) (by kernel_rfl) (by kernel_rfl) (fun _ _ _ h => h) (Or.inl ⟨by rfl, ?_⟩) (by assumption) ?_
    case refine_2 => (intro w hSw; (try dsimp only at hSw); go_simp; try with_reducible rfl)
    simp only [Act.put, zGA, zG0, zGC, zSA, zS0, zSC]
    refine wpAnyH_done (by kernel_rfl) ?_ _
    refine NoPanic.normal ?_
    have hT := RSub.hold hHeld
    have HT := hidOf hT
    clear hT hHeld hH
    go_wp2
    go_ret3
    rw [HRB.out, HRM.out, HL.out]
    exact ⟨rfl, HT.out.below⟩
theorem lostAhead_any (r s c : Int) (w : World) (h1 : IntKind.i64.wrap (s - r) = s - r) (h2 : IntKind.i64.wrap (s - r - c) = s - r - c) :
    Calls Try.prog 36 #[.int .i64 r, .int .i64 s, .int .i64 c] w fun e w' => e = .returned (.int .i64 (if s - r - c < 0 then 0 else s - r - c)) ∧ w' = w := by
  by_cases hn : s - r - c < 0
  · rw [if_pos hn]
    go_enter Try.func36, Try.ntmps36
    go_wp2
    all_goals go_ret
    all_goals exact ⟨rint (by omega), rfl⟩
  · rw [if_neg hn]
    go_enter Try.func36, Try.ntmps36
    go_wp2
    all_goals go_ret
    all_goals exact ⟨rint (by omega), rfl⟩
set_option maxRecDepth 100000 in
set_option maxHeartbeats 8000000 in
theorem implLag_any : LagDone 12 := by
  intro M v id w hI hm hcap hw
  obtain ⟨W0, hW0⟩ : ∃ W, W = w.alloc (.cells #[.int .i64 v.cp, .int .i64 v.se, .slice M.ia M.i M.ic, .int .i64 v.nx, .slice M.sa M.s M.sc, .slice M.la M.l M.lc, .slice M.ga M.g M.gc, .bool v.cl] 32) := ⟨_, rfl⟩
  have hX : RHold w M v W0 := by
    have b0 : Below w.heap.size w W0 := by rw [hW0]; exact bl_alloc (Below.refl _ _) _
    exact ⟨by rw [hW0]; exact BoxL.new w (rC M v) _, hI.keep b0, b0⟩
  have hsl : v.sb.length = M.s := by
    have h1 := hI.sb.len
    have h2 := congrArg List.length hI.sv
    simp [svs] at h2
    omega
  have HSl := hidOf hsl
  have HOk := hidOf (fun (h : okR restR v = true) => ok_bounds h)
  have HHd := hidOf (fun (h : okR restR v = true) => ok_head h)
  have HC := hidOf (fun (u : World) (hu : RHold w M v u) => implRingOk_any M v u hu.rin hm hcap hw)
  have HA := hidOf (fun (u : World) (hu : RHold w M v u) => placeOfSub_any M.sa M.s M.sc M.xs id u hu.rin.sb (Nat.le_trans hm.s (by omega)))
  rw [hI.sv] at HA
  have p0 := hX.box.cs 0 (by simp)
  have p1 := hX.box.cs 1 (by simp)
  have p2 := hX.box.cs 2 (by simp)
  have p3 := hX.box.cs 3 (by simp)
  have p4 := hX.box.cs 4 (by simp)
  have p5 := hX.box.cs 5 (by simp)
  have p6 := hX.box.cs 6 (by simp)
  have p7 := hX.box.cs 7 (by simp)
  simp at p0 p1 p2 p3 p4 p5 p6 p7
  have hMs := hm.s
  have HX := hidOf hX
  obtain ⟨q, hq⟩ : ∃ q, okR restR v = q := ⟨_, rfl⟩
  rw [hq] at HC
  have HQ := hidOf hq
  clear hI hm hX hcap hw hsl hq
  go_enter Try.func12, Try.ntmps12
  go_upto_region 1 with fail
  rw [← hW0]
  clear hW0
  go_wp2_with fail
  refine (HC.out _ HX.out).mono ?_
  rintro e w1 ⟨rfl, hb1⟩
  have hX := HX.out.keep hb1
  clear hb1 HX p0 p1 p2 p3 p4 p5 p6 p7
  cases q
  · have HL := hidOf (show lagOk v id = false by unfold lagOk; rw [HQ.out]; rfl)
    have HX := hidOf hX
    clear hX
    go_wp2
    go_ret3
    rw [show lagB v id = 0 from if_neg (by rw [HL.out]; simp), show lagM v id = 0 from if_neg (by rw [HL.out]; simp), HL.out]
    exact ⟨rfl, HX.out.below⟩
  have p4 := hX.box.cs 4 (by simp)
  simp at p4
  have HX := hidOf hX
  clear hX
  go_wp2_with fail
  refine (HA.out _ HX.out).mono ?_
  rintro e w2 ⟨rfl, hb2⟩
  have hX := HX.out.keep hb2
  clear hb2 HX p4
  by_cases hk0 : atR v.sb id < 0
  · have HL := hidOf (show lagOk v id = false by unfold lagOk; rw [decide_eq_false (show ¬ 0 ≤ atR v.sb id by omega), Bool.and_false])
    have HX := hidOf hX
    clear hX
    go_wp2
    go_ret3
    rw [show lagB v id = 0 from if_neg (by rw [HL.out]; simp), show lagM v id = 0 from if_neg (by rw [HL.out]; simp), HL.out]
    exact ⟨rfl, HX.out.below⟩
  have hk1 : (0 : Int) ≤ atR v.sb id := by omega
  obtain ⟨j, hj, hjl⟩ := atR_get2 hk1
  have hjs : j < M.s := by have := HSl.out; omega
  have hk2 : atR v.sb id < (M.s : Int) := by omega
  obtain hr | ⟨b, off, ea, hb, hcell⟩ := hX.rin.sb.row
  · omega
  have hcj := hcell j hjs
  have hjt : (atR v.sb id).toNat = j := by rw [hj]; simp
  have hcu := sb_get hX.rin.sv (show j < M.xs.length by rw [hX.rin.sb.len]; exact hjs)
  have HCu := hidOf (show cuR v.sb (atR v.sb id) = (sg M.xs j).s.cu by unfold cuR; rw [hjt, hcu])
  have hbd := ((HOk.out HQ.out).2 (sg M.xs j).s (by rw [← hcu, List.getD_eq_getElem?_getD, List.getElem?_eq_getElem hjl]; exact List.getElem_mem hjl)).1
  have hhd := HHd.out HQ.out
  rw [← hjt] at hcj HCu hbd
  obtain ⟨x, hx⟩ : ∃ x, sg M.xs (atR v.sb id).toNat = x := ⟨_, rfl⟩
  rw [hx] at hcj HCu hbd
  have HL := hidOf (show lagOk v id = true by unfold lagOk; rw [HQ.out, decide_eq_true hk1]; rfl)
  have HRB := hidOf (show lagB v id = v.se - x.s.cu by unfold lagB; rw [if_pos HL.out, HCu.out])
  have HRM := hidOf (show lagM v id = if v.se - v.cp - x.s.cu < 0 then 0 else v.se - v.cp - x.s.cu by unfold lagM; rw [if_pos HL.out, HCu.out])
  have w1 : IntKind.i64.wrap (v.se - v.cp) = v.se - v.cp := by rw [IntKind.wrap_i64]; omega
  have w2 : IntKind.i64.wrap (v.se - v.cp - x.s.cu) = v.se - v.cp - x.s.cu := by rw [IntKind.wrap_i64]; omega
  have w3 : IntKind.i64.wrap (v.se - x.s.cu) = v.se - x.s.cu := by rw [IntKind.wrap_i64]; omega
  have HU := hidOf (hX.sub (x := x) (y := x) ea hcj hcj.c0)
  have hH := hX.sub (x := x) (y := x) ea hcj hcj.c0
  clear hX hcell hcj ea hj hjt hjs hjl hb hx hcu hbd hhd hk0 HCu
  have r0 := hH.1
  have r1 := hH.2.1
  have r4 := hH.2.2.2.2.1
  have rc := hH.2.2.2.2.2.2.2.2.2.2.1
  have HLA := hidOf (fun (u : World) => lostAhead_any v.cp v.se x.s.cu u w1 w2)
  rw [← HRM.out] at HLA
  go_upto_region 7 with fail
  clear r0 r1 r4 rc
  refine wp_region_noPanic ?_
  refine wp_region_held_drew (S := fun w' => RSub w M v (some ⟨b, off, none⟩) b (off + (atR v.sb id).toNat * 7) (off + (atR v.sb id).toNat * 7) x x w') (by kernel_rfl) hH.drew (fun hHeld => ?_)
  refine wpAnyH_take (i := 0) (v := ?_) rfl (by kernel_rfl) (by kernel_rfl) (by kernel_rfl) (fun _ _ _ h => h) (Or.inl ⟨by rfl, ?_⟩) (by assumption) ?_
  case refine_2 => (intro w hSw; (try dsimp only at hSw); go_simp; try with_reducible rfl)
  simp only [Act.put, List.getElem_toArray, List.getElem_cons_zero, List.setIfInBounds_toArray, List.set_cons_zero, List.set_cons_succ]
  refine wpAnyH_take (i := 1) (v := ?_) rfl (by kernel_rfl) (by kernel_rfl) (by kernel_rfl) (fun _ _ _ h => h) (Or.inl ⟨by rfl, ?_⟩) (by assumption) ?_
  case refine_2 => (intro w hSw; (try dsimp only at hSw); go_simp; try with_reducible rfl)
  simp only [Act.put, zGA, zG0, zGC, zSA, zS0, zSC]
  refine wpAnyH_take (i := 2) (v := ?_) rfl (by kernel_rfl) (by kernel_rfl) (by kernel_rfl) (fun _ _ _ h => h) (Or.inl ⟨by rfl, ?_⟩) (by assumption) ?_
  case refine_2 => (intro w hSw; (try dsimp only at hSw); go_simp; try with_reducible rfl)
  simp only [Act.put, zGA, zG0, zGC, zSA, zS0, zSC]
  refine wpAnyH_take (i := 3) (v := ?_) rfl (by kernel_rfl) (by kernel_rfl) (by kernel_rfl) (fun _ _ _ h => h) (Or.inl ⟨by rfl, ?_⟩) (by assumption) ?_
  case refine_2 => (intro w hSw; (try dsimp only at hSw); go_simp; try with_reducible rfl)
  simp only [Act.put, zGA, zG0, zGC, zSA, zS0, zSC]
  refine wpAnyH_take (i := 4) (v := ?_) rfl (by kernel_rfl) (by kernel_rfl) (by kernel_rfl) (fun _ _ _ h => h) (Or.inl ⟨by rfl, ?_⟩) (by assumption) ?_
  case refine_2 => (intro w hSw; (try dsimp only at hSw); go_simp; try with_reducible rfl)
  simp only [Act.put, zGA, zG0, zGC, zSA, zS0, zSC]
  refine wpAnyH_take (i := 5) (v := ?_) rfl (by kernel_rfl) (by kernel_rfl) (by kernel_rfl) (fun _ _ _ h => h) (Or.inl ⟨by rfl, ?_⟩) (by assumption) ?_
  case refine_2 => (intro w hSw; (try dsimp only at hSw); go_simp; try with_reducible rfl)
  simp only [Act.put, zGA, zG0, zGC, zSA, zS0, zSC]
  refine wpAnyH_take (i := 6) (v := ?_) rfl (by kernel_rfl) (by kernel_rfl) (by kernel_rfl) (fun _ _ _ h => h) (Or.inl ⟨by rfl, ?_⟩) (by assumption) ?_
  case refine_2 => (intro w hSw; (try dsimp only at hSw); go_simp; try with_reducible rfl)
  simp only [Act.put, zGA, zG0, zGC, zSA, zS0, zSC]
  refine wpAnyH_take (i := 7) (v := ?_) rfl (by kernel_rfl) (by kernel_rfl) (by kernel_rfl) (fun _ _ _ h => h) (Or.inl ⟨by rfl, ?_⟩) (by assumption) ?_
  case refine_2 => (intro w hSw; (try dsimp only at hSw); go_simp; try with_reducible rfl)
  simp only [Act.put, zGA, zG0, zGC, zSA, zS0, zSC]
  refine wpAnyH_take (i := 8) (v := ?_) rfl (by kernel_rfl) (by kernel_rfl) (by kernel_rfl) (fun _ _ _ h => h) (Or.inl ⟨by rfl, ?_⟩) (by assumption) ?_
  case refine_2 => (intro w hSw; (try dsimp only at hSw); go_simp; try with_reducible rfl)
  simp only [Act.put, zGA, zG0, zGC, zSA, zS0, zSC]
  refine wpAnyH_ready (rs := [9]) (by kernel_rfl) (by simp) ?_
  refine AllReadyH.cons rfl (fun K hK => ?_) AllReadyH.nil
  go_simp
  refine (HLA.out _).mono ?_
  rintro e w9 ⟨rfl, rfl⟩
  go_wp2_with fail
  refine hK.out _ _ hHeld (fun hHeld => ?_)
  clear hK K
  refine wpAnyH_take (i := 10) (v := ?_) rfl (by kernel_rfl) (by kernel_rfl) (by kernel_rfl) (fun _ _ _ h => h) (Or.inl ⟨by rfl, ?_⟩) (by assumption) ?_
  case refine_2 => (intro w hSw; (try dsimp only at hSw); go_simp; try with_reducible rfl)
  simp only [Act.put, zGA, zG0, zGC, zSA, zS0, zSC]
  refine wpAnyH_take (i := 11) (v := ?_) rfl (by kernel_rfl) (by kernel_rfl) (by kernel_rfl) (fun _ _ _ h => h) (Or.inl ⟨by rfl, ?_⟩) (by assumption) ?_
  case refine_2 => (intro w hSw; (try dsimp only at hSw); go_simp; try with_reducible rfl)
  simp only [Act.put, zGA, zG0, zGC, zSA, zS0, zSC]
  refine wpAnyH_take (i := 12) (v := ?_) rfl (by kernel_rfl) (by kernel_rfl) (by kernel_rfl) (fun _ _ _ h => h) (Or.inl ⟨by rfl, ?_⟩) (by assumption) ?_
  case refine_2 => (intro w hSw; (try dsimp only at hSw); go_simp; try with_reducible rfl)
  simp only [Act.put, zGA, zG0, zGC, zSA, zS0, zSC]
  refine wpAnyH_done (by kernel_rfl) ?_ _
  refine NoPanic.normal ?_
  have hT := RSub.hold hHeld
  have HT := hidOf hT
  clear hT hHeld hH
  go_wp2
  go_ret3
  rw [HRB.out, HL.out]
  exact ⟨rfl, HT.out.below⟩
end Go.Proofs.Ytihdglmiecifjaa
