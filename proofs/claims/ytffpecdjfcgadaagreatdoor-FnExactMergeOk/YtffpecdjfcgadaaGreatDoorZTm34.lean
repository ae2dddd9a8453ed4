/-
  The program's rings: right messages.
-/
import Derived.Test.YtffpecdjfcgadaaGreatDoorZTm33
namespace Go.Proofs.YtffpecdjfcgadaaGreatDoor
open Go.RowKit Pl Il

theorem msgs_bad {v : Rv} {m : Nat} (hm : m < v.it.length) (h : okB (qg v.it m).1 (qg v.it m).2.1 (qg v.it m).2.2 = false) : msgsR v = false := by
  unfold msgsR
  rw [List.all_eq_false]
  exact ⟨_, qg_mem hm, by rw [h]; simp⟩
theorem msgs_good {v : Rv} (h : ∀ j, j < v.it.length → okB (qg v.it j).1 (qg v.it j).2.1 (qg v.it j).2.2 = true) : msgsR v = true := by
  unfold msgsR
  rw [List.all_eq_true]
  intro x hx
  obtain ⟨j, hj, rfl⟩ := List.getElem_of_mem hx
  have := h j hj
  rwa [qg_eq hj] at this
set_option maxRecDepth 100000 in
set_option maxHeartbeats 4000000 in
theorem itemsOk_any (M : Rm) (v : Rv) (w : World) (hI : RIn w M v) (hm : RLe M 2097152) (hse : 0 ≤ v.se ∧ v.se ≤ 1000000000) (hcp : 1 ≤ v.cp ∧ v.cp ≤ 16) :
    Calls Tryz.prog 59 #[.agg #[.int .i64 v.cp, .int .i64 v.se, .slice M.ia M.i M.ic, .int .i64 v.nx, .slice M.sa M.s M.sc, .slice M.la M.l M.lc, .slice M.ga M.g M.gc, .bool v.cl]] w fun e w' => e = .returned (.bool (itemsI v)) ∧ Below w.heap.size w w' := by
  obtain ⟨W0, hW0⟩ : ∃ W, W = w.alloc (.cells #[.int .i64 v.cp, .int .i64 v.se, .slice M.ia M.i M.ic, .int .i64 v.nx, .slice M.sa M.s M.sc, .slice M.la M.l M.lc, .slice M.ga M.g M.gc, .bool v.cl] 53) := ⟨_, rfl⟩
  have hX : RHold w M v W0 := by
    have b0 : Below w.heap.size w W0 := by rw [hW0]; exact bl_alloc (Below.refl _ _) _
    exact ⟨by rw [hW0]; exact BoxL.new w (rC M v) _, hI.keep b0, b0⟩
  have hil : v.it.length = M.i := hI.it.len
  have hob := oldR_bd hse.1 hcp.1
  have HO := hidOf (fun (u : World) (hu : RHold w M v u) => oldestOf_any M v u hu.rin.sb hu.rin.sv hm.s hse hcp)
  have hMI := hm.i
  have HIl := hidOf hil
  obtain ⟨q, hq⟩ : ∃ q, itemsI v = q := ⟨_, rfl⟩
  rw [hq]
  have HQ := hidOf (show (decide ((v.it.length : Int) = v.se - oldR v) && msgsR v) = q by rw [← hq]; rfl)
  obtain ⟨o, ho⟩ : ∃ o, oldR v = o := ⟨_, rfl⟩
  rw [ho] at HO hob HQ
  have hwo : IntKind.i64.wrap (v.se - o) = v.se - o := by rw [IntKind.wrap_i64]; omega
  have HX := hidOf hX
  have hH := hX.cel
  clear hI hm hX hil hq ho
  go_enter Tryz.func59, Tryz.ntmps59
  go_wp2_with fail
  rw [← hW0]
  clear hW0
  by_cases hq : (M.i : Int) = v.se - o
  case neg =>
    have hqd : ((M.i : Int) != v.se - o) = true := by simp [hq]
    have HV := hidOf (show q = false by rw [← HQ.out, HIl.out, decide_eq_false hq]; rfl)
    clear hq
    refine wp_region_noPanic ?_
    refine wp_region_held_drew (S := fun w' => RCel w M v w') (by kernel_rfl) hH.drew (fun hHeld => ?_)
    refine wpAnyH_take (i := 0) (v := ?_) rfl (by kernel_rfl) (by kernel_rfl) (by kernel_rfl) (fun _ _ _ h => h) (Or.inl ⟨by rfl, ?_⟩) (by assumption) ?_
    case refine_2 => (intro w hSw; (try dsimp only at hSw); go_simp; try with_reducible rfl)
    simp only [Act.put, List.getElem_toArray, List.getElem_cons_zero, List.setIfInBounds_toArray, List.set_cons_zero, List.set_cons_succ]
    refine wpAnyH_take (i := 1) (v := ?_) rfl (by kernel_rfl) (by kernel_rfl) (by kernel_rfl) (fun _ _ _ h => h) (Or.inl ⟨by rfl, ?_⟩) (by assumption) ?_
    case refine_2 => (intro w hSw; (try dsimp only at hSw); go_simp; try with_reducible rfl)
    simp only [Act.put, zGA, zG0, zGC, zSA, zS0, zSC]
    refine wpAnyH_take (i := 2) (v := ?_) rfl (by kernel_rfl) (by kernel_rfl) (by kernel_rfl) (fun _ _ _ h => h) (Or.inl ⟨by rfl, ?_⟩) (by assumption) ?_
    case refine_2 => (intro w hSw; (try dsimp only at hSw); go_simp; try with_reducible rfl)
    simp only [Act.put, zGA, zG0, zGC, zSA, zS0, zSC]
    refine wpAnyH_take (i := 3) (v := ?_) rfl (by kernel_rfl) (by kernel_rfl) (by kernel_rfl) (fun _ _ _ h => h) (Or.inl ⟨by rfl, ?_⟩) (by assumption) ?_
    case refine_2 => (intro w hSw; (try dsimp only at hSw); go_simp; try with_reducible rfl)
    simp only [Act.put, zGA, zG0, zGC, zSA, zS0, zSC]
    refine wpAnyH_take (i := 4) (v := ?_) rfl (by kernel_rfl) (by kernel_rfl) (by kernel_rfl) (fun _ _ _ h => h) (Or.inl ⟨by rfl, ?_⟩) (by assumption) ?_
    case refine_2 => (intro w hSw; (try dsimp only at hSw); go_simp; try with_reducible rfl)
    simp only [Act.put, zGA, zG0, zGC, zSA, zS0, zSC]
    refine wpAnyH_take (i := 5) (v := ?_) rfl (by kernel_rfl) (by kernel_rfl) (by kernel_rfl) (fun _ _ _ h => h) (Or.inl ⟨by rfl, ?_⟩) (by assumption) ?_
    case refine_2 => (intro w hSw; (try dsimp only at hSw); go_simp; try with_reducible rfl)
    simp only [Act.put, zGA, zG0, zGC, zSA, zS0, zSC]
    refine wpAnyH_take (i := 6) (v := ?_) rfl (by kernel_rfl) (by kernel_rfl) (by kernel_rfl) (fun _ _ _ h => h) (Or.inl ⟨by rfl, ?_⟩) (by assumption) ?_
    case refine_2 => (intro w hSw; (try dsimp only at hSw); go_simp; try with_reducible rfl)
    simp only [Act.put, zGA, zG0, zGC, zSA, zS0, zSC]
    refine wpAnyH_take (i := 7) (v := ?_) rfl (by kernel_rfl) (by kernel_rfl) (by kernel_rfl) (fun _ _ _ h => h) (Or.inl ⟨by rfl, ?_⟩) (by assumption) ?_
    case refine_2 => (intro w hSw; (try dsimp only at hSw); go_simp; try with_reducible rfl)
    simp only [Act.put, zGA, zG0, zGC, zSA, zS0, zSC]
    refine wpAnyH_take (i := 8) (v := ?_) rfl (by kernel_rfl) (by kernel_rfl) (by kernel_rfl) (fun _ _ _ h => h) (Or.inl ⟨by rfl, ?_⟩) (by assumption) ?_
    case refine_2 => (intro w hSw; (try dsimp only at hSw); go_simp; try with_reducible rfl)
    simp only [Act.put, zGA, zG0, zGC, zSA, zS0, zSC]
    refine wpAnyH_take (i := 9) (v := ?_) rfl (by kernel_rfl) (by kernel_rfl) (by kernel_rfl) (fun _ _ _ h => h) (Or.inl ⟨by rfl, ?_⟩) (by assumption) ?_
    case refine_2 => (intro w hSw; (try dsimp only at hSw); go_simp; try with_reducible rfl)
    simp only [Act.put, zGA, zG0, zGC, zSA, zS0, zSC]
    refine wpAnyH_take (i := 10) (v := ?_) rfl (by kernel_rfl) (by kernel_rfl) (by kernel_rfl) (fun _ _ _ h => h) (Or.inl ⟨by rfl, ?_⟩) (by assumption) ?_
    case refine_2 => (intro w hSw; (try dsimp only at hSw); go_simp; try with_reducible rfl)
    simp only [Act.put, zGA, zG0, zGC, zSA, zS0, zSC]
    refine wpAnyH_ready (rs := [11]) (by kernel_rfl) (by simp) ?_
    refine AllReadyH.cons rfl (fun K hK => ?_) AllReadyH.nil
    go_simp
    refine (HO.out _ (RCel.hold hHeld)).mono ?_
    rintro e w5 ⟨rfl, hb5⟩
    go_wp2_with fail
    have hS1 := RCel.keep hHeld hb5
    refine hK.out _ _ hS1 (fun hHeld => ?_)
    clear hK K
    refine wpAnyH_take (i := 12) (v := ?_) rfl (by kernel_rfl) (by kernel_rfl) (by kernel_rfl) (fun _ _ _ h => h) (Or.inl ⟨by rfl, ?_⟩) (by assumption) ?_
    case refine_2 => (intro w hSw; (try dsimp only at hSw); go_simp; try with_reducible rfl)
    simp only [Act.put, zGA, zG0, zGC, zSA, zS0, zSC]
    refine wpAnyH_take (i := 13) (v := ?_) rfl (by kernel_rfl) (by kernel_rfl) (by kernel_rfl) (fun _ _ _ h => h) (Or.inl ⟨by rfl, ?_⟩) (by assumption) ?_
    case refine_2 => (intro w hSw; (try dsimp only at hSw); go_simp; try with_reducible rfl)
    simp only [Act.put, zGA, zG0, zGC, zSA, zS0, zSC]
    refine wpAnyH_done (by kernel_rfl) ?_ _
    refine NoPanic.normal ?_
    have hU := RCel.hold hHeld
    clear hHeld hS1 hb5 hH
    have HU := hidOf hU
    clear hU
    go_wp2
    go_ret
    rw [HV.out]
    exact ⟨rfl, HU.out.below⟩
  have hqd : ((M.i : Int) != v.se - o) = false := by simp [hq]
  have HV := hidOf (show msgsR v = q by rw [← HQ.out, HIl.out, decide_eq_true hq]; rfl)
  clear hq HQ
  refine wp_region_noPanic ?_
  refine wp_region_held_drew (S := fun w' => RCel w M v w') (by kernel_rfl) hH.drew (fun hHeld => ?_)
  refine wpAnyH_take (i := 0) (v := ?_) rfl (by kernel_rfl) (by kernel_rfl) (by kernel_rfl) (fun _ _ _ h => h) (Or.inl ⟨by rfl, ?_⟩) (by assumption) ?_
  case refine_2 => (intro w hSw; (try dsimp only at hSw); go_simp; try with_reducible rfl)
  simp only [Act.put, List.getElem_toArray, List.getElem_cons_zero, List.setIfInBounds_toArray, List.set_cons_zero, List.set_cons_succ]
  refine wpAnyH_take (i := 1) (v := ?_) rfl (by kernel_rfl) (by kernel_rfl) (by kernel_rfl) (fun _ _ _ h => h) (Or.inl ⟨by rfl, ?_⟩) (by assumption) ?_
  case refine_2 => (intro w hSw; (try dsimp only at hSw); go_simp; try with_reducible rfl)
  simp only [Act.put, zGA, zG0, zGC, zSA, zS0, zSC]
  refine wpAnyH_take (i := 2) (v := ?_) rfl (by kernel_rfl) (by kernel_rfl) (by kernel_rfl) (fun _ _ _ h => h) (Or.inl ⟨by rfl, ?_⟩) (by assumption) ?_
  case refine_2 => (intro w hSw; (try dsimp only at hSw); go_simp; try with_reducible rfl)
  simp only [Act.put, zGA, zG0, zGC, zSA, zS0, zSC]
  refine wpAnyH_take (i := 3) (v := ?_) rfl (by kernel_rfl) (by kernel_rfl) (by kernel_rfl) (fun _ _ _ h => h) (Or.inl ⟨by rfl, ?_⟩) (by assumption) ?_
  case refine_2 => (intro w hSw; (try dsimp only at hSw); go_simp; try with_reducible rfl)
  simp only [Act.put, zGA, zG0, zGC, zSA, zS0, zSC]
  refine wpAnyH_take (i := 4) (v := ?_) rfl (by kernel_rfl) (by kernel_rfl) (by kernel_rfl) (fun _ _ _ h => h) (Or.inl ⟨by rfl, ?_⟩) (by assumption) ?_
  case refine_2 => (intro w hSw; (try dsimp only at hSw); go_simp; try with_reducible rfl)
  simp only [Act.put, zGA, zG0, zGC, zSA, zS0, zSC]
  refine wpAnyH_take (i := 5) (v := ?_) rfl (by kernel_rfl) (by kernel_rfl) (by kernel_rfl) (fun _ _ _ h => h) (Or.inl ⟨by rfl, ?_⟩) (by assumption) ?_
  case refine_2 => (intro w hSw; (try dsimp only at hSw); go_simp; try with_reducible rfl)
  simp only [Act.put, zGA, zG0, zGC, zSA, zS0, zSC]
  refine wpAnyH_take (i := 6) (v := ?_) rfl (by kernel_rfl) (by kernel_rfl) (by kernel_rfl) (fun _ _ _ h => h) (Or.inl ⟨by rfl, ?_⟩) (by assumption) ?_
  case refine_2 => (intro w hSw; (try dsimp only at hSw); go_simp; try with_reducible rfl)
  simp only [Act.put, zGA, zG0, zGC, zSA, zS0, zSC]
  refine wpAnyH_take (i := 7) (v := ?_) rfl (by kernel_rfl) (by kernel_rfl) (by kernel_rfl) (fun _ _ _ h => h) (Or.inl ⟨by rfl, ?_⟩) (by assumption) ?_
  case refine_2 => (intro w hSw; (try dsimp only at hSw); go_simp; try with_reducible rfl)
  simp only [Act.put, zGA, zG0, zGC, zSA, zS0, zSC]
  refine wpAnyH_take (i := 8) (v := ?_) rfl (by kernel_rfl) (by kernel_rfl) (by kernel_rfl) (fun _ _ _ h => h) (Or.inl ⟨by rfl, ?_⟩) (by assumption) ?_
  case refine_2 => (intro w hSw; (try dsimp only at hSw); go_simp; try with_reducible rfl)
  simp only [Act.put, zGA, zG0, zGC, zSA, zS0, zSC]
  refine wpAnyH_take (i := 9) (v := ?_) rfl (by kernel_rfl) (by kernel_rfl) (by kernel_rfl) (fun _ _ _ h => h) (Or.inl ⟨by rfl, ?_⟩) (by assumption) ?_
  case refine_2 => (intro w hSw; (try dsimp only at hSw); go_simp; try with_reducible rfl)
  simp only [Act.put, zGA, zG0, zGC, zSA, zS0, zSC]
  refine wpAnyH_take (i := 10) (v := ?_) rfl (by kernel_rfl) (by kernel_rfl) (by kernel_rfl) (fun _ _ _ h => h) (Or.inl ⟨by rfl, ?_⟩) (by assumption) ?_
  case refine_2 => (intro w hSw; (try dsimp only at hSw); go_simp; try with_reducible rfl)
  simp only [Act.put, zGA, zG0, zGC, zSA, zS0, zSC]
  refine wpAnyH_ready (rs := [11]) (by kernel_rfl) (by simp) ?_
  refine AllReadyH.cons rfl (fun K hK => ?_) AllReadyH.nil
  go_simp
  refine (HO.out _ (RCel.hold hHeld)).mono ?_
  rintro e w5 ⟨rfl, hb5⟩
  go_wp2_with fail
  have hS1 := RCel.keep hHeld hb5
  refine hK.out _ _ hS1 (fun hHeld => ?_)
  clear hK K
  refine wpAnyH_take (i := 12) (v := ?_) rfl (by kernel_rfl) (by kernel_rfl) (by kernel_rfl) (fun _ _ _ h => h) (Or.inl ⟨by rfl, ?_⟩) (by assumption) ?_
  case refine_2 => (intro w hSw; (try dsimp only at hSw); go_simp; try with_reducible rfl)
  simp only [Act.put, zGA, zG0, zGC, zSA, zS0, zSC]
  refine wpAnyH_take (i := 13) (v := ?_) rfl (by kernel_rfl) (by kernel_rfl) (by kernel_rfl) (fun _ _ _ h => h) (Or.inl ⟨by rfl, ?_⟩) (by assumption) ?_
  case refine_2 => (intro w hSw; (try dsimp only at hSw); go_simp; try with_reducible rfl)
  simp only [Act.put, zGA, zG0, zGC, zSA, zS0, zSC]
  refine wpAnyH_done (by kernel_rfl) ?_ _
  refine NoPanic.normal ?_
  have hU := RCel.hold hHeld
  clear hHeld hS1 hb5 hH
  have p2 := hU.box.cs 2 (by simp)
  simp at p2
  have HU := hidOf hU
  clear hU HX
  go_wp2_with fail
  clear p2
  go_loopw [22] (fun i wr => ∃ k : Nat, k ≤ M.i ∧ i = .int .i64 k ∧ (∀ j, j < k → okB (qg v.it j).1 (qg v.it j).2.1 (qg v.it j).2.2 = true) ∧ RHold w M v wr) (fun i _ => M.i - (intOf i).toNat)
  case atStart => exact ⟨0, Nat.zero_le _, rfl, fun j hj => (by omega), HU.out⟩
  case round =>
    rename World => wr
    obtain ⟨m, hm, rfl, hto, hX⟩ := hrel
    have Hto := hidOf hto
    clear hto HU
    by_cases hlt2 : m < M.i
    · obtain hr | ⟨b, off, ea, hb, hcell⟩ := hX.rin.it.row
      · omega
      obtain ⟨c0, c1, c2⟩ := hcell m hlt2
      have hsh := hX.rin.it.short _ (qg_mem (show m < v.it.length by rw [hX.rin.it.len]; exact hlt2))
      have HBm := hidOf (fun (h : okB (qg v.it m).1 (qg v.it m).2.1 (qg v.it m).2.2 = false) => show msgsR v = false from msgs_bad (show m < v.it.length by rw [hX.rin.it.len]; exact hlt2) h)
      obtain ⟨x, hx⟩ : ∃ x, qg v.it m = x := ⟨_, rfl⟩
      rw [hx] at c0 c1 c2 hsh HBm
      obtain ⟨x1, x2, x3⟩ := x
      simp only at c0 c1 c2 hsh HBm
      have HX := hidOf hX
      have HXx := hidOf hx
      have HC := hidOf (fun (u : World) => implMsgOk_any x1 x2 x3 u hsh)
      have hmi : (m : Int) < (M.i : Int) := by omega
      rw [ea]
      clear hX hcell hx ea hb hsh
      go_wp2_with fail
      refine (HC.out _).mono ?_
      rintro e w5 ⟨rfl, hb5⟩
      have hX5 := (HX.out.keep (bl_alloc (Below.refl _ _) _)).keep hb5
      clear hb5
      have HX5 := hidOf hX5
      clear hX5
      cases hok : okB x1 x2 x3
      · have HR := hidOf (HBm.out hok)
        clear hok
        go_wp2
        go_ret
        rw [← HV.out, HR.out]
        exact ⟨rfl, HX5.out.below⟩
      · have Hok := hidOf hok
        clear hok
        go_wp2
        go_roundw
        case rel => exact ⟨m + 1, by omega, by go_num, fun j hj => (by
          by_cases e : j = m
          · rw [e, HXx.out]; exact Hok.out
          · exact Hto.out j (by omega)), HX5.out⟩
        case measure => simp [intOf]; omega
    · have HR := hidOf (show msgsR v = true from msgs_good (fun j hj => Hto.out j (by have := HIl.out; omega)))
      have HX := hidOf hX
      clear hX
      go_wp2
      go_ret
      rw [← HV.out, HR.out]
      exact ⟨rfl, HX.out.below⟩
end Go.Proofs.YtffpecdjfcgadaaGreatDoor
