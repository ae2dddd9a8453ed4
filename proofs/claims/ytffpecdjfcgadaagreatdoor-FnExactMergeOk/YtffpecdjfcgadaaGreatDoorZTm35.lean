/-
  The program's rings: right ones who wait.
-/
import Derived.Test.YtffpecdjfcgadaaGreatDoorZTm34
import Derived.Test.YtffpecdjfcgadaaGreatDoorZTm24
import Derived.Deep.CutRange
namespace Go.Proofs.YtffpecdjfcgadaaGreatDoor
open Go.RowKit Go.Maps Pl Il

theorem pstep_append_ex {P : Program} {ops : Array Oper} {o : Oper} {a : Act} {w : World} {K : Act → World → Prop} {Q : Exit → Act → World → Prop} {E : Prop} {R : Value → World → Prop} (hgd : o.guard = none) (s x : Operand) (t : TypeId)
    (ho : o.op = .call { callee := .builtin .append, args := #[s, x], argTypes := #[t, t] }) (v u : Value) (hs : a.eval s = v) (hx : a.eval x = u)
    (hr : ∃ v' w', (Builtin.append_ #[t, t] o.type #[v, u]).run P w = .ok v' w' ∧ R v' w') (h : ∀ v' w', R v' w' → K (a.put o.dst v') w') :
    if Region.wanted o (yielded ops a.tmps) = true then Oper.wp P o a w K Q else E := by
  have hw : Region.wanted o (yielded ops a.tmps) = true := by simp [Region.wanted, hgd]
  rw [if_pos hw]
  obtain ⟨v', w', hrun, hR⟩ := hr
  unfold Oper.wp execOp
  simp only [ho, resolve, invoke, builtin, Sem.run_bind, Sem.run_pure, Result.andThen_ok, List.map_toArray, List.map_cons, List.map_nil, hs, hx, hrun]
  exact h v' w' hR
theorem pstep_append_run {P : Program} {ops : Array Oper} {o : Oper} {a : Act} {w w' : World} {K : Act → World → Prop} {Q : Exit → Act → World → Prop} {E : Prop} (hgd : o.guard = none) (s x : Operand) (t : TypeId)
    (ho : o.op = .call { callee := .builtin .append, args := #[s, x], argTypes := #[t, t] }) (v u v' : Value) (hs : a.eval s = v) (hx : a.eval x = u)
    (hr : (Builtin.append_ #[t, t] o.type #[v, u]).run P w = .ok v' w') (h : K (a.put o.dst v') w') :
    if Region.wanted o (yielded ops a.tmps) = true then Oper.wp P o a w K Q else E :=
  pstep_append_ex (R := fun v1 w1 => v1 = v' ∧ w1 = w') hgd s x t ho v u hs hx ⟨v', w', hr, rfl, rfl⟩ (fun _ _ h1 => by obtain ⟨rfl, rfl⟩ := h1; exact h)
theorem atR_get2 {sb : List Sb} {id : Int} (h : 0 ≤ atR sb id) : ∃ j : Nat, atR sb id = (j : Int) ∧ j < sb.length := by
  unfold atR at *
  cases hf : sb.findIdx? (fun s => s.id == id) with
  | none => rw [hf] at h; simp at h
  | some i =>
    rw [List.findIdx?_eq_some_iff_getElem] at hf
    exact ⟨i, rfl, hf.1⟩
theorem all_of {f : Int → Bool} {xs : List Int} (h : ∀ j, j < xs.length → f (xs.getD j 0) = true) : xs.all f = true := by
  rw [List.all_eq_true]
  intro x hx
  obtain ⟨i, hi, rfl⟩ := get_of hx
  exact h i hi
theorem all_bad {f : Int → Bool} {xs : List Int} {j : Nat} (hj : j < xs.length) (h : f (xs.getD j 0) = false) : xs.all f = false := by
  rw [List.all_eq_false]
  exact ⟨_, get_mem hj, by rw [h]; simp⟩
theorem line_bad2 {v : Rv} {q : Bool} (hq : (!(v.cl && decide (0 < v.ln.length)) && (v.ln.all (lineI v) && (v.gs.all (grantI v) && decide (dist (v.ln ++ v.gs) = (v.ln ++ v.gs).length)))) = q) {j : Nat} (hj : j < v.ln.length) (h : lineI v (v.ln.getD j 0) = false) : q = false := by
  rw [← hq, all_bad hj h]
  simp
theorem grant_bad2 {v : Rv} {q : Bool} (hq : (!(v.cl && decide (0 < v.ln.length)) && (v.ln.all (lineI v) && (v.gs.all (grantI v) && decide (dist (v.ln ++ v.gs) = (v.ln ++ v.gs).length)))) = q) {j : Nat} (hj : j < v.gs.length) (h : grantI v (v.gs.getD j 0) = false) : q = false := by
  rw [← hq, all_bad hj h]
  simp
theorem own_ge {B : Nat} {w : World} {a : Option Addr} {n c : Nat} {xs : List Value} (h : w.ownsRow B 3 1 (.slice a n c) n xs) (k : Nat) (hk : (Value.slice a n c).ownBlock = some k) : B ≤ k := by
  obtain ⟨_, ⟨e1, e2⟩ | ⟨b, cap', cur, e1, hB, _⟩⟩ := h
  · cases e1
    simp [Value.ownBlock] at hk
  · injection e1 with e1 _ _
    subst e1
    simp [Value.ownBlock] at hk
    omega
set_option maxRecDepth 100000 in
set_option maxHeartbeats 8000000 in
theorem ringWaitersOk_any (M : Rm) (v : Rv) (w : World) (hI : RIn w M v) (hm : RLe M 1048576) (hw : RWf v) :
    Calls Tryz.prog 60 #[.agg #[.int .i64 v.cp, .int .i64 v.se, .slice M.ia M.i M.ic, .int .i64 v.nx, .slice M.sa M.s M.sc, .slice M.la M.l M.lc, .slice M.ga M.g M.gc, .bool v.cl]] w fun e w' => e = .returned (.bool (waitI v)) ∧ Below w.heap.size w w' := by
  obtain ⟨W0, hW0⟩ : ∃ W, W = w.alloc (.cells #[.int .i64 v.cp, .int .i64 v.se, .slice M.ia M.i M.ic, .int .i64 v.nx, .slice M.sa M.s M.sc, .slice M.la M.l M.lc, .slice M.ga M.g M.gc, .bool v.cl] 53) := ⟨_, rfl⟩
  have hX : RHold w M v W0 := by
    have b0 : Below w.heap.size w W0 := by rw [hW0]; exact bl_alloc (Below.refl _ _) _
    exact ⟨by rw [hW0]; exact BoxL.new w (rC M v) _, hI.keep b0, b0⟩
  have hsl : v.sb.length = M.s := by
    have h1 := hI.sb.len
    have h2 := congrArg List.length hI.sv
    simp [svs] at h2
    omega
  have hll0 : v.ln.length = M.l := hI.ln.len
  have hMs : M.s ≤ 2097152 := Nat.le_trans hm.s (by omega)
  have hML1 := hm.l
  have hML : M.l ≤ 2097152 := Nat.le_trans hm.l (by omega)
  have hMG := hm.g
  have HSl := hidOf hsl
  have hwf : wfL (v.ln ++ v.gs) := fun x hx => by
    rcases List.mem_append.1 hx with h | h
    · exact hw.ln x h
    · exact hw.gs x h
  obtain ⟨q, hq⟩ : ∃ q, waitI v = q := ⟨_, rfl⟩
  rw [hq]
  have HQ := hidOf (show (!(v.cl && decide (0 < v.ln.length)) && (v.ln.all (lineI v) && (v.gs.all (grantI v) && decide (dist (v.ln ++ v.gs) = (v.ln ++ v.gs).length)))) = q by rw [← hq]; rfl)
  have p5 := hX.box.cs 5 (by simp)
  have p7 := hX.box.cs 7 (by simp)
  simp at p5 p7
  have HX := hidOf hX
  obtain ⟨c, hc⟩ : ∃ c, v.cl = c := ⟨_, rfl⟩
  rw [show some (Value.bool v.cl) = some (Value.bool c) by rw [hc]] at p7
  have HC0 := hidOf hc
  clear hI hm hX hsl hq hw hc
  cases c
  · have HN := hidOf (show (!(v.cl && decide (0 < v.ln.length))) = true by rw [HC0.out]; rfl)
    clear hll0
    go_enter Tryz.func60, Tryz.ntmps60
    go_upto_region 1 with fail
    rw [← hW0]
    clear hW0
    go_upto_region 3 with fail
    clear p7
    go_wp2_with fail
    clear p5
    go_loopw [20] (fun i wr => ∃ k : Nat, k ≤ M.l ∧ i = .int .i64 k ∧ (∀ j, j < k → lineI v (v.ln.getD j 0) = true) ∧ RHold w M v wr) (fun i _ => M.l - (intOf i).toNat)
    case atStart => exact ⟨0, Nat.zero_le _, rfl, fun j hj => (by omega), HX.out⟩
    case round =>
      rename World => wr
      obtain ⟨k, hk, rfl, hto, hX⟩ := hrel
      have Hto := hidOf hto
      clear hto HX
      by_cases hlt : k < M.l
      · obtain ⟨y, hy⟩ : ∃ y, v.ln.getD k 0 = y := ⟨_, rfl⟩
        have HBad := hidOf (fun (h : lineI v y = false) => show q = false from line_bad2 HQ.out (show k < v.ln.length by rw [hX.rin.ln.len]; exact hlt) (by rw [hy]; exact h))
        obtain hr | ⟨b0, off0, ea, hb, hcell⟩ := hX.rin.ln.row
        · omega
        have c0 := hcell k hlt
        rw [hy] at c0
        have HY := hidOf hy
        have hki : (k : Int) < (M.l : Int) := by omega
        have HC := hidOf (fun (u : World) (hu : RHold w M v u) => placeOfSub_any M.sa M.s M.sc M.xs y u hu.rin.sb hMs)
        rw [hX.rin.sv] at HC
        have p4 := hX.box.cs 4 (by simp)
        simp at p4
        have HX := hidOf hX
        rw [ea]
        clear hX hcell hy hb ea
        go_wp2_with fail
        refine (HC.out _ HX.out).mono ?_
        rintro e w5 ⟨rfl, hb5⟩
        have hX5 := HX.out.keep hb5
        clear hb5 HX p4 c0
        go_upto_region 7 with fail
        go_cut [40] from 28 to 40 (fun c wx => c = .bool (!lineI v y) ∧ RHold w M v wx)
        case first =>
          by_cases hk0 : atR v.sb y < 0
          · have HWa := hidOf (show lineI v y = false by
              unfold lineI
              rw [decide_eq_false (show ¬ 0 ≤ atR v.sb y by omega)]
              rfl)
            have hkd : decide (atR v.sb y < 0) = true := decide_eq_true hk0
            have hH := hX5.cel
            clear hk0 hX5
            refine wp_region_noPanic ?_
            refine wp_region_held_drew (S := fun w' => RCel w M v w') (by kernel_rfl) hH.drew (fun hHeld => ?_)
            refine wpAnyH_take (i := 0) (v := ?_) rfl (by kernel_rfl) (by kernel_rfl) (by kernel_rfl) (fun _ _ _ h => h) (Or.inl ⟨by rfl, ?_⟩) (by assumption) ?_
            case refine_2 => (intro w hSw; (try dsimp only at hSw); go_simp; try with_reducible rfl)
            simp only [Act.put, List.getElem_toArray, List.getElem_cons_zero, List.setIfInBounds_toArray, List.set_cons_zero, List.set_cons_succ]
            refine wpAnyH_take (i := 1) (v := ?_) rfl (by kernel_rfl) (by kernel_rfl) (by kernel_rfl) (fun _ _ _ h => h) (Or.inl ⟨by rfl, ?_⟩) (by assumption) ?_
            case refine_2 => (intro w hSw; (try dsimp only at hSw); go_simp; try with_reducible rfl)
            simp only [Act.put, zGA, zG0, zGC, zSA, zS0, zSC]
            refine wpAnyH_take (i := 2) (v := ?_) rfl (by kernel_rfl) (by kernel_rfl) (by kernel_rfl) (fun _ _ _ h => h) (Or.inl ⟨by rfl, ?_⟩) (by assumption) ?_
            case refine_2 => (intro w hSw; (try dsimp only at hSw); go_simp; try with_reducible rfl)
            simp only [Act.put, zGA, zG0, zGC, zSA, zS0, zSC]
            refine wpAnyH_take (i := 3) (v := undef) rfl (by kernel_rfl) (by kernel_rfl) (by kernel_rfl) (fun _ _ _ h => h) (Or.inr ⟨by rfl, rfl⟩) (by assumption) ?_
            simp only [Act.put, zGA, zG0, zGC, zSA, zS0, zSC]
            refine wpAnyH_take (i := 4) (v := undef) rfl (by kernel_rfl) (by kernel_rfl) (by kernel_rfl) (fun _ _ _ h => h) (Or.inr ⟨by rfl, rfl⟩) (by assumption) ?_
            simp only [Act.put, zGA, zG0, zGC, zSA, zS0, zSC]
            refine wpAnyH_take (i := 5) (v := undef) rfl (by kernel_rfl) (by kernel_rfl) (by kernel_rfl) (fun _ _ _ h => h) (Or.inr ⟨by rfl, rfl⟩) (by assumption) ?_
            simp only [Act.put, zGA, zG0, zGC, zSA, zS0, zSC]
            refine wpAnyH_take (i := 6) (v := undef) rfl (by kernel_rfl) (by kernel_rfl) (by kernel_rfl) (fun _ _ _ h => h) (Or.inr ⟨by rfl, rfl⟩) (by assumption) ?_
            simp only [Act.put, zGA, zG0, zGC, zSA, zS0, zSC]
            refine wpAnyH_take (i := 7) (v := undef) rfl (by kernel_rfl) (by kernel_rfl) (by kernel_rfl) (fun _ _ _ h => h) (Or.inr ⟨by rfl, rfl⟩) (by assumption) ?_
            simp only [Act.put, zGA, zG0, zGC, zSA, zS0, zSC]
            refine wpAnyH_take (i := 8) (v := undef) rfl (by kernel_rfl) (by kernel_rfl) (by kernel_rfl) (fun _ _ _ h => h) (Or.inr ⟨by rfl, rfl⟩) (by assumption) ?_
            simp only [Act.put, zGA, zG0, zGC, zSA, zS0, zSC]
            refine wpAnyH_take (i := 9) (v := undef) rfl (by kernel_rfl) (by kernel_rfl) (by kernel_rfl) (fun _ _ _ h => h) (Or.inr ⟨by rfl, rfl⟩) (by assumption) ?_
            simp only [Act.put, zGA, zG0, zGC, zSA, zS0, zSC]
            refine wpAnyH_take (i := 10) (v := undef) rfl (by kernel_rfl) (by kernel_rfl) (by kernel_rfl) (fun _ _ _ h => h) (Or.inr ⟨by rfl, rfl⟩) (by assumption) ?_
            simp only [Act.put, zGA, zG0, zGC, zSA, zS0, zSC]
            refine wpAnyH_take (i := 11) (v := undef) rfl (by kernel_rfl) (by kernel_rfl) (by kernel_rfl) (fun _ _ _ h => h) (Or.inr ⟨by rfl, rfl⟩) (by assumption) ?_
            simp only [Act.put, zGA, zG0, zGC, zSA, zS0, zSC]
            refine wpAnyH_take (i := 12) (v := ?_) rfl (by kernel_rfl) (by kernel_rfl) (by kernel_rfl) (fun _ _ _ h => h) (Or.inl ⟨by rfl, ?_⟩) (by assumption) ?_
            case refine_2 => (intro w hSw; (try dsimp only at hSw); go_simp; try with_reducible rfl)
            simp only [Act.put, zGA, zG0, zGC, zSA, zS0, zSC]
            refine wpAnyH_done (by kernel_rfl) ?_ _
            refine NoPanic.normal ?_
            have hT9 := RCel.hold hHeld
            go_wp2_with fail
            go_meet
            exact ⟨by rw [HWa.out]; rfl, hT9⟩
          have hkd : decide (atR v.sb y < 0) = false := decide_eq_false hk0
          have hk1 : (0 : Int) ≤ atR v.sb y := by omega
          obtain ⟨j, hj, hjl⟩ := atR_get2 hk1
          have hjs : j < M.s := by have := HSl.out; omega
          have hk2 : atR v.sb y < (M.s : Int) := by omega
          obtain hr | ⟨b, off, ea, hb, hcell⟩ := hX5.rin.sb.row
          · omega
          have hcj := hcell j hjs
          have hjt : (atR v.sb y).toNat = j := by rw [hj]; simp
          have HCu := hidOf (show (sg M.xs j).s.cu = cuR v.sb (atR v.sb y) by
            unfold cuR
            rw [hjt, sb_get hX5.rin.sv (by rw [hX5.rin.sb.len]; exact hjs)])
          rw [← hjt] at hcj HCu
          obtain ⟨x, hx⟩ : ∃ x, sg M.xs (atR v.sb y).toNat = x := ⟨_, rfl⟩
          rw [hx] at hcj HCu
          have hH : RSub w M v (some ⟨b, off, none⟩) b (off + (atR v.sb y).toNat * 7) (off + (atR v.sb y).toNat * 7) x x w5 := hX5.sub ea hcj hcj.c0
          clear hX5 hcell hcj ea hj hjt hjs hjl hk0 hb hx
          by_cases hcu : x.s.cu = v.se
          · have HWa := hidOf (show lineI v y = true by
              unfold lineI
              rw [decide_eq_true hk1, ← HCu.out, decide_eq_true hcu]
              rfl)
            have hcd : (x.s.cu != v.se) = false := by rw [hcu]; simp
            clear hcu
            refine wp_region_noPanic ?_
            refine wp_region_held_drew (S := fun w' => RSub w M v (some ⟨b, off, none⟩) b (off + (atR v.sb y).toNat * 7) (off + (atR v.sb y).toNat * 7) x x w') (by kernel_rfl) hH.drew (fun hHeld => ?_)
            refine wpAnyH_take (i := 0) (v := ?_) rfl (by kernel_rfl) (by kernel_rfl) (by kernel_rfl) (fun _ _ _ h => h) (Or.inl ⟨by rfl, ?_⟩) (by assumption) ?_
            case refine_2 => (intro w hSw; (try dsimp only at hSw); go_simp; try with_reducible rfl)
            simp only [Act.put, List.getElem_toArray, List.getElem_cons_zero, List.setIfInBounds_toArray, List.set_cons_zero, List.set_cons_succ]
            refine wpAnyH_take (i := 1) (v := ?_) rfl (by kernel_rfl) (by kernel_rfl) (by kernel_rfl) (fun _ _ _ h => h) (Or.inl ⟨by rfl, ?_⟩) (by assumption) ?_
            case refine_2 => (intro w hSw; (try dsimp only at hSw); go_simp; try with_reducible rfl)
            simp only [Act.put, zGA, zG0, zGC, zSA, zS0, zSC]
            refine wpAnyH_take (i := 2) (v := ?_) rfl (by kernel_rfl) (by kernel_rfl) (by kernel_rfl) (fun _ _ _ h => h) (Or.inl ⟨by rfl, ?_⟩) (by assumption) ?_
            case refine_2 => (intro w hSw; (try dsimp only at hSw); go_simp; try with_reducible rfl)
            simp only [Act.put, zGA, zG0, zGC, zSA, zS0, zSC]
            refine wpAnyH_take (i := 3) (v := ?_) rfl (by kernel_rfl) (by kernel_rfl) (by kernel_rfl) (fun _ _ _ h => h) (Or.inl ⟨by rfl, ?_⟩) (by assumption) ?_
            case refine_2 => (intro w hSw; (try dsimp only at hSw); go_simp; try with_reducible rfl)
            simp only [Act.put, zGA, zG0, zGC, zSA, zS0, zSC]
            refine wpAnyH_take (i := 4) (v := ?_) rfl (by kernel_rfl) (by kernel_rfl) (by kernel_rfl) (fun _ _ _ h => h) (Or.inl ⟨by rfl, ?_⟩) (by assumption) ?_
            case refine_2 => (intro w hSw; (try dsimp only at hSw); go_simp; try with_reducible rfl)
            simp only [Act.put, zGA, zG0, zGC, zSA, zS0, zSC]
            refine wpAnyH_take (i := 5) (v := ?_) rfl (by kernel_rfl) (by kernel_rfl) (by kernel_rfl) (fun _ _ _ h => h) (Or.inl ⟨by rfl, ?_⟩) (by assumption) ?_
            case refine_2 => (intro w hSw; (try dsimp only at hSw); go_simp; try with_reducible rfl)
            simp only [Act.put, zGA, zG0, zGC, zSA, zS0, zSC]
            refine wpAnyH_take (i := 6) (v := ?_) rfl (by kernel_rfl) (by kernel_rfl) (by kernel_rfl) (fun _ _ _ h => h) (Or.inl ⟨by rfl, ?_⟩) (by assumption) ?_
            case refine_2 => (intro w hSw; (try dsimp only at hSw); go_simp; try with_reducible rfl)
            simp only [Act.put, zGA, zG0, zGC, zSA, zS0, zSC]
            refine wpAnyH_take (i := 7) (v := ?_) rfl (by kernel_rfl) (by kernel_rfl) (by kernel_rfl) (fun _ _ _ h => h) (Or.inl ⟨by rfl, ?_⟩) (by assumption) ?_
            case refine_2 => (intro w hSw; (try dsimp only at hSw); go_simp; try with_reducible rfl)
            simp only [Act.put, zGA, zG0, zGC, zSA, zS0, zSC]
            refine wpAnyH_take (i := 8) (v := ?_) rfl (by kernel_rfl) (by kernel_rfl) (by kernel_rfl) (fun _ _ _ h => h) (Or.inl ⟨by rfl, ?_⟩) (by assumption) ?_
            case refine_2 => (intro w hSw; (try dsimp only at hSw); go_simp; try with_reducible rfl)
            simp only [Act.put, zGA, zG0, zGC, zSA, zS0, zSC]
            refine wpAnyH_take (i := 9) (v := ?_) rfl (by kernel_rfl) (by kernel_rfl) (by kernel_rfl) (fun _ _ _ h => h) (Or.inl ⟨by rfl, ?_⟩) (by assumption) ?_
            case refine_2 => (intro w hSw; (try dsimp only at hSw); go_simp; try with_reducible rfl)
            simp only [Act.put, zGA, zG0, zGC, zSA, zS0, zSC]
            refine wpAnyH_take (i := 10) (v := ?_) rfl (by kernel_rfl) (by kernel_rfl) (by kernel_rfl) (fun _ _ _ h => h) (Or.inl ⟨by rfl, ?_⟩) (by assumption) ?_
            case refine_2 => (intro w hSw; (try dsimp only at hSw); go_simp; try with_reducible rfl)
            simp only [Act.put, zGA, zG0, zGC, zSA, zS0, zSC]
            refine wpAnyH_take (i := 11) (v := ?_) rfl (by kernel_rfl) (by kernel_rfl) (by kernel_rfl) (fun _ _ _ h => h) (Or.inl ⟨by rfl, ?_⟩) (by assumption) ?_
            case refine_2 => (intro w hSw; (try dsimp only at hSw); go_simp; try with_reducible rfl)
            simp only [Act.put, zGA, zG0, zGC, zSA, zS0, zSC]
            refine wpAnyH_take (i := 12) (v := ?_) rfl (by kernel_rfl) (by kernel_rfl) (by kernel_rfl) (fun _ _ _ h => h) (Or.inl ⟨by rfl, ?_⟩) (by assumption) ?_
            case refine_2 => (intro w hSw; (try dsimp only at hSw); go_simp; try with_reducible rfl)
            simp only [Act.put, zGA, zG0, zGC, zSA, zS0, zSC]
            refine wpAnyH_done (by kernel_rfl) ?_ _
            refine NoPanic.normal ?_
            have hT9 := RSub.hold hHeld
            go_wp2_with fail
            go_meet
            exact ⟨by rw [HWa.out]; rfl, hT9⟩
          · have HWa := hidOf (show lineI v y = false by
              unfold lineI
              rw [decide_eq_true hk1, ← HCu.out, decide_eq_false hcu]
              rfl)
            have hcd : (x.s.cu != v.se) = true := by simp [hcu]
            clear hcu
            refine wp_region_noPanic ?_
            refine wp_region_held_drew (S := fun w' => RSub w M v (some ⟨b, off, none⟩) b (off + (atR v.sb y).toNat * 7) (off + (atR v.sb y).toNat * 7) x x w') (by kernel_rfl) hH.drew (fun hHeld => ?_)
            refine wpAnyH_take (i := 0) (v := ?_) rfl (by kernel_rfl) (by kernel_rfl) (by kernel_rfl) (fun _ _ _ h => h) (Or.inl ⟨by rfl, ?_⟩) (by assumption) ?_
            case refine_2 => (intro w hSw; (try dsimp only at hSw); go_simp; try with_reducible rfl)
            simp only [Act.put, List.getElem_toArray, List.getElem_cons_zero, List.setIfInBounds_toArray, List.set_cons_zero, List.set_cons_succ]
            refine wpAnyH_take (i := 1) (v := ?_) rfl (by kernel_rfl) (by kernel_rfl) (by kernel_rfl) (fun _ _ _ h => h) (Or.inl ⟨by rfl, ?_⟩) (by assumption) ?_
            case refine_2 => (intro w hSw; (try dsimp only at hSw); go_simp; try with_reducible rfl)
            simp only [Act.put, zGA, zG0, zGC, zSA, zS0, zSC]
            refine wpAnyH_take (i := 2) (v := ?_) rfl (by kernel_rfl) (by kernel_rfl) (by kernel_rfl) (fun _ _ _ h => h) (Or.inl ⟨by rfl, ?_⟩) (by assumption) ?_
            case refine_2 => (intro w hSw; (try dsimp only at hSw); go_simp; try with_reducible rfl)
            simp only [Act.put, zGA, zG0, zGC, zSA, zS0, zSC]
            refine wpAnyH_take (i := 3) (v := ?_) rfl (by kernel_rfl) (by kernel_rfl) (by kernel_rfl) (fun _ _ _ h => h) (Or.inl ⟨by rfl, ?_⟩) (by assumption) ?_
            case refine_2 => (intro w hSw; (try dsimp only at hSw); go_simp; try with_reducible rfl)
            simp only [Act.put, zGA, zG0, zGC, zSA, zS0, zSC]
            refine wpAnyH_take (i := 4) (v := ?_) rfl (by kernel_rfl) (by kernel_rfl) (by kernel_rfl) (fun _ _ _ h => h) (Or.inl ⟨by rfl, ?_⟩) (by assumption) ?_
            case refine_2 => (intro w hSw; (try dsimp only at hSw); go_simp; try with_reducible rfl)
            simp only [Act.put, zGA, zG0, zGC, zSA, zS0, zSC]
            refine wpAnyH_take (i := 5) (v := ?_) rfl (by kernel_rfl) (by kernel_rfl) (by kernel_rfl) (fun _ _ _ h => h) (Or.inl ⟨by rfl, ?_⟩) (by assumption) ?_
            case refine_2 => (intro w hSw; (try dsimp only at hSw); go_simp; try with_reducible rfl)
            simp only [Act.put, zGA, zG0, zGC, zSA, zS0, zSC]
            refine wpAnyH_take (i := 6) (v := ?_) rfl (by kernel_rfl) (by kernel_rfl) (by kernel_rfl) (fun _ _ _ h => h) (Or.inl ⟨by rfl, ?_⟩) (by assumption) ?_
            case refine_2 => (intro w hSw; (try dsimp only at hSw); go_simp; try with_reducible rfl)
            simp only [Act.put, zGA, zG0, zGC, zSA, zS0, zSC]
            refine wpAnyH_take (i := 7) (v := ?_) rfl (by kernel_rfl) (by kernel_rfl) (by kernel_rfl) (fun _ _ _ h => h) (Or.inl ⟨by rfl, ?_⟩) (by assumption) ?_
            case refine_2 => (intro w hSw; (try dsimp only at hSw); go_simp; try with_reducible rfl)
            simp only [Act.put, zGA, zG0, zGC, zSA, zS0, zSC]
            refine wpAnyH_take (i := 8) (v := ?_) rfl (by kernel_rfl) (by kernel_rfl) (by kernel_rfl) (fun _ _ _ h => h) (Or.inl ⟨by rfl, ?_⟩) (by assumption) ?_
            case refine_2 => (intro w hSw; (try dsimp only at hSw); go_simp; try with_reducible rfl)
            simp only [Act.put, zGA, zG0, zGC, zSA, zS0, zSC]
            refine wpAnyH_take (i := 9) (v := ?_) rfl (by kernel_rfl) (by kernel_rfl) (by kernel_rfl) (fun _ _ _ h => h) (Or.inl ⟨by rfl, ?_⟩) (by assumption) ?_
            case refine_2 => (intro w hSw; (try dsimp only at hSw); go_simp; try with_reducible rfl)
            simp only [Act.put, zGA, zG0, zGC, zSA, zS0, zSC]
            refine wpAnyH_take (i := 10) (v := ?_) rfl (by kernel_rfl) (by kernel_rfl) (by kernel_rfl) (fun _ _ _ h => h) (Or.inl ⟨by rfl, ?_⟩) (by assumption) ?_
            case refine_2 => (intro w hSw; (try dsimp only at hSw); go_simp; try with_reducible rfl)
            simp only [Act.put, zGA, zG0, zGC, zSA, zS0, zSC]
            refine wpAnyH_take (i := 11) (v := ?_) rfl (by kernel_rfl) (by kernel_rfl) (by kernel_rfl) (fun _ _ _ h => h) (Or.inl ⟨by rfl, ?_⟩) (by assumption) ?_
            case refine_2 => (intro w hSw; (try dsimp only at hSw); go_simp; try with_reducible rfl)
            simp only [Act.put, zGA, zG0, zGC, zSA, zS0, zSC]
            refine wpAnyH_take (i := 12) (v := ?_) rfl (by kernel_rfl) (by kernel_rfl) (by kernel_rfl) (fun _ _ _ h => h) (Or.inl ⟨by rfl, ?_⟩) (by assumption) ?_
            case refine_2 => (intro w hSw; (try dsimp only at hSw); go_simp; try with_reducible rfl)
            simp only [Act.put, zGA, zG0, zGC, zSA, zS0, zSC]
            refine wpAnyH_done (by kernel_rfl) ?_ _
            refine NoPanic.normal ?_
            have hT9 := RSub.hold hHeld
            go_wp2_with fail
            go_meet
            exact ⟨by rw [HWa.out]; rfl, hT9⟩
        case rest =>
          rename World => w8
          obtain ⟨hc, hX8⟩ := hcut
          obtain ⟨r, hr⟩ : ∃ r, lineI v y = r := ⟨_, rfl⟩
          rw [hr] at hc
          have HR := hidOf hr
          have HX8 := hidOf hX8
          clear hr hX5 hX8
          cases r
          · simp only [Bool.not_false] at hc
            subst hc
            have HV := hidOf (HBad.out HR.out)
            go_wp2
            go_ret
            rw [HV.out]
            exact ⟨rfl, HX8.out.below⟩
          · simp only [Bool.not_true] at hc
            subst hc
            go_wp2
            go_roundw
            case rel => exact ⟨k + 1, by omega, by go_num, fun j hj => (by
              by_cases e : j = k
              · rw [e, HY.out]; exact HR.out
              · exact Hto.out j (by omega)), HX8.out⟩
            case measure => simp [intOf]; omega
      · have HLn := hidOf (show v.ln.all (lineI v) = true from all_of (fun j hj => Hto.out j (by have := hX.rin.ln.len; omega)))
        have p6 := hX.box.cs 6 (by simp)
        simp at p6
        have HX := hidOf hX
        clear hX Hto
        go_wp2_with fail
        clear p6 hlt hk
        go_loopw [45] (fun i wr => ∃ k : Nat, k ≤ M.g ∧ i = .int .i64 k ∧ (∀ j, j < k → grantI v (v.gs.getD j 0) = true) ∧ RHold w M v wr) (fun i _ => M.g - (intOf i).toNat)
        case atStart => exact ⟨0, Nat.zero_le _, rfl, fun j hj => (by omega), HX.out⟩
        case round =>
          rename World => wr2
          obtain ⟨m, hm, rfl, hto, hX⟩ := hrel
          have Hto := hidOf hto
          clear hto HX
          by_cases hlt : m < M.g
          · obtain ⟨y, hy⟩ : ∃ y, v.gs.getD m 0 = y := ⟨_, rfl⟩
            have HBad := hidOf (fun (h : grantI v y = false) => show q = false from grant_bad2 HQ.out (show m < v.gs.length by rw [hX.rin.gs.len]; exact hlt) (by rw [hy]; exact h))
            obtain hr | ⟨b0, off0, ea, hb, hcell⟩ := hX.rin.gs.row
            · omega
            have c0 := hcell m hlt
            rw [hy] at c0
            have HY := hidOf hy
            have hki : (m : Int) < (M.g : Int) := by omega
            have HC := hidOf (fun (u : World) (hu : RHold w M v u) => placeOfSub_any M.sa M.s M.sc M.xs y u hu.rin.sb hMs)
            rw [hX.rin.sv] at HC
            have p4 := hX.box.cs 4 (by simp)
            simp at p4
            have HX := hidOf hX
            rw [ea]
            clear hX hcell hy hb ea
            go_wp2_with fail
            refine (HC.out _ HX.out).mono ?_
            rintro e w5 ⟨rfl, hb5⟩
            have HX5 := hidOf (HX.out.keep hb5)
            clear hb5 HX p4 c0
            by_cases hk0 : atR v.sb y < 0
            · have HV := hidOf (HBad.out (show grantI v y = false by unfold grantI; exact decide_eq_false (by omega)))
              go_wp2
              go_ret
              rw [HV.out]
              exact ⟨rfl, HX5.out.below⟩
            · have HR := hidOf (show grantI v y = true by unfold grantI; exact decide_eq_true (by omega))
              go_wp2
              go_roundw
              case rel => exact ⟨m + 1, by omega, by go_num, fun j hj => (by
                by_cases e : j = m
                · rw [e, HY.out]; exact HR.out
                · exact Hto.out j (by omega)), HX5.out⟩
              case measure => simp [intOf]; omega
          · have HGs := hidOf (show v.gs.all (grantI v) = true from all_of (fun j hj => Hto.out j (by have := hX.rin.gs.len; omega)))
            have hll := hX.rin.ln.len
            have hgl := hX.rin.gs.len
            have HD := hidOf (show q = decide (dist (v.ln ++ v.gs) = (v.ln ++ v.gs).length) by
              rw [← HQ.out, HLn.out, HGs.out, HN.out]
              rfl)
            have HCp := hidOf (fun (u : World) (hu : RHold w M v u) => copied_row M.la M.l M.lc v.ln u hu.rin.ln hML)
            have hH := hX.cel
            clear hX Hto
            go_wp2_with fail
            refine wp_region_noPanic ?_
            refine wp_region_held_drew (S := fun w' => RCel w M v w') (by kernel_rfl) hH.drew (fun hHeld => ?_)
            refine wpAnyH_take (i := 0) (v := ?_) rfl (by kernel_rfl) (by kernel_rfl) (by kernel_rfl) (fun _ _ _ h => h) (Or.inl ⟨by rfl, ?_⟩) (by assumption) ?_
            case refine_2 => (intro w hSw; (try dsimp only at hSw); go_simp; try with_reducible rfl)
            simp only [Act.put, List.getElem_toArray, List.getElem_cons_zero, List.setIfInBounds_toArray, List.set_cons_zero, List.set_cons_succ]
            refine wpAnyH_take (i := 1) (v := ?_) rfl (by kernel_rfl) (by kernel_rfl) (by kernel_rfl) (fun _ _ _ h => h) (Or.inl ⟨by rfl, ?_⟩) (by assumption) ?_
            case refine_2 => (intro w hSw; (try dsimp only at hSw); go_simp; try with_reducible rfl)
            simp only [Act.put, zGA, zG0, zGC, zSA, zS0, zSC]
            refine wpAnyH_take (i := 3) (v := ?_) rfl (by kernel_rfl) (by kernel_rfl) (by kernel_rfl) (fun _ _ _ h => h) (Or.inl ⟨by rfl, ?_⟩) (by assumption) ?_
            case refine_2 => (intro w hSw; (try dsimp only at hSw); go_simp; try with_reducible rfl)
            simp only [Act.put, zGA, zG0, zGC, zSA, zS0, zSC]
            refine wpAnyH_take (i := 4) (v := ?_) rfl (by kernel_rfl) (by kernel_rfl) (by kernel_rfl) (fun _ _ _ h => h) (Or.inl ⟨by rfl, ?_⟩) (by assumption) ?_
            case refine_2 => (intro w hSw; (try dsimp only at hSw); go_simp; try with_reducible rfl)
            simp only [Act.put, zGA, zG0, zGC, zSA, zS0, zSC]
            refine wpAnyH_ready (rs := [2]) (by kernel_rfl) (by simp) ?_
            refine AllReadyH.cons rfl (fun K hK => ?_) AllReadyH.nil
            go_simp
            refine (HCp.out _ (RCel.hold hHeld)).mono ?_
            rintro e w5 ⟨a1, c1, rfl, ho1, hb5⟩
            go_wp2_with fail
            have hS5 := RCel.keep hHeld hb5
            obtain ⟨a3, c3, w6, hr6, ho6, hg6, _⟩ := append_ownS _ M.l (.slice a1 M.l c1) v.ln M.ga M.g M.gc v.gs w5 ho1 hb5.size (RCel.hold hS5).rin.gs (by omega)
            have hb6 := hb5.grown hg6 hb5.size (fun k hk => own_ge ho1 k hk)
            have hS6 := RCel.keep hHeld hb6
            obtain ⟨hi6, _⟩ := row_own ho6
            refine hK.out _ _ hS5 (fun hHeld => ?_)
            clear hK K
            refine wpAnyH_ready (rs := [5]) (by kernel_rfl) (by simp) ?_
            refine AllReadyH.cons rfl (fun K hK => ?_) AllReadyH.nil
            refine pstep_append_run (by rfl) _ _ 41 (by rfl) (.slice a1 M.l c1) (.slice M.ga M.g M.gc) _ (by rfl) (by rfl) hr6 ?_
            refine hK.out _ _ hS6 (fun hHeld => ?_)
            clear hK K
            simp only [Act.put, zGA, zG0, zGC, zSA, zS0, zSC]
            refine wpAnyH_take (i := 6) (v := ?_) rfl (by kernel_rfl) (by kernel_rfl) (by kernel_rfl) (fun _ _ _ h => h) (Or.inl ⟨by rfl, ?_⟩) (by assumption) ?_
            case refine_2 => (intro w hSw; (try dsimp only at hSw); go_simp; try with_reducible rfl)
            simp only [Act.put, zGA, zG0, zGC, zSA, zS0, zSC]
            refine wpAnyH_done (by kernel_rfl) ?_ _
            refine NoPanic.normal ?_
            have HB6 := hidOf (RCel.hold hS6).below
            have HLL := hidOf (And.intro hll hgl)
            have HC := hidOf (queueOf_any a3 (M.l + M.g) c3 (v.ln ++ v.gs) w6 hi6.ints (by omega) hwf)
            clear hS5 hS6 hr6 ho6 hg6 hb6 hb5 ho1 hi6 hHeld hH HCp hll hgl
            go_wp2_with fail
            refine (HC.out).mono ?_
            rintro e w7 ⟨qb, rfl, hq, hb7⟩
            obtain ⟨mb, cv, D, hp⟩ := id hq
            have c1 := hp.mem.c1
            have hown := hp.mem.map
            have hsz := hp.rd.size rfl
            have HB7 := hidOf (bl_trans HB6.out hb7)
            clear hq hp hb7 HC HB6
            go_wp2_with (first
              | (at_len; refine wpList_len_own _ rfl _ 130 rfl 3 3 Tryz.underlying130 _ mb _ D rfl hown ?_)
              | go_in)
            go_ret
            refine ⟨rbool ?_, HB7.out⟩
            rw [HD.out]
            have hLL := HLL.out
            rw [List.length_append, hLL.1, hLL.2, Bool.eq_iff_iff]
            simp
            omega
  · by_cases hl0 : 0 < M.l
    · have HV := hidOf (show q = false by rw [← HQ.out, HC0.out, hll0, decide_eq_true hl0]; rfl)
      have hl1 : (0 : Int) < (M.l : Int) := by omega
      clear hll0 hl0
      go_enter Tryz.func60, Tryz.ntmps60
      go_upto_region 1 with fail
      rw [← hW0]
      clear hW0
      go_wp2
      go_ret
      rw [HV.out]
      exact ⟨rfl, HX.out.below⟩
    · have HN := hidOf (show (!(v.cl && decide (0 < v.ln.length))) = true by rw [HC0.out, hll0, decide_eq_false hl0]; rfl)
      have hl1 : ¬ (0 : Int) < (M.l : Int) := by omega
      clear hll0 hl0
      go_enter Tryz.func60, Tryz.ntmps60
      go_upto_region 1 with fail
      rw [← hW0]
      clear hW0
      go_upto_region 3 with fail
      have Hl1 := hidOf hl1
      clear p7 hl1
      repeat (rename ¬ 0 < M.l => hz; clear hz)
      go_wp2_with fail
      clear p5
      go_loopw [20] (fun i wr => ∃ k : Nat, k ≤ M.l ∧ i = .int .i64 k ∧ (∀ j, j < k → lineI v (v.ln.getD j 0) = true) ∧ RHold w M v wr) (fun i _ => M.l - (intOf i).toNat)
      case atStart => exact ⟨0, Nat.zero_le _, rfl, fun j hj => (by omega), HX.out⟩
      case round =>
        rename World => wr
        obtain ⟨k, hk, rfl, hto, hX⟩ := hrel
        have Hto := hidOf hto
        clear hto HX
        by_cases hlt : k < M.l
        · exfalso
          have := Hl1.out
          omega
        · have HLn := hidOf (show v.ln.all (lineI v) = true from all_of (fun j hj => Hto.out j (by have := hX.rin.ln.len; omega)))
          have p6 := hX.box.cs 6 (by simp)
          simp at p6
          have HX := hidOf hX
          clear hX Hto
          go_wp2_with fail
          clear p6 hlt hk
          go_loopw [45] (fun i wr => ∃ k : Nat, k ≤ M.g ∧ i = .int .i64 k ∧ (∀ j, j < k → grantI v (v.gs.getD j 0) = true) ∧ RHold w M v wr) (fun i _ => M.g - (intOf i).toNat)
          case atStart => exact ⟨0, Nat.zero_le _, rfl, fun j hj => (by omega), HX.out⟩
          case round =>
            rename World => wr2
            obtain ⟨m, hm, rfl, hto, hX⟩ := hrel
            have Hto := hidOf hto
            clear hto HX
            by_cases hlt : m < M.g
            · obtain ⟨y, hy⟩ : ∃ y, v.gs.getD m 0 = y := ⟨_, rfl⟩
              have HBad := hidOf (fun (h : grantI v y = false) => show q = false from grant_bad2 HQ.out (show m < v.gs.length by rw [hX.rin.gs.len]; exact hlt) (by rw [hy]; exact h))
              obtain hr | ⟨b0, off0, ea, hb, hcell⟩ := hX.rin.gs.row
              · omega
              have c0 := hcell m hlt
              rw [hy] at c0
              have HY := hidOf hy
              have hki : (m : Int) < (M.g : Int) := by omega
              have HC := hidOf (fun (u : World) (hu : RHold w M v u) => placeOfSub_any M.sa M.s M.sc M.xs y u hu.rin.sb hMs)
              rw [hX.rin.sv] at HC
              have p4 := hX.box.cs 4 (by simp)
              simp at p4
              have HX := hidOf hX
              rw [ea]
              clear hX hcell hy hb ea
              go_wp2_with fail
              refine (HC.out _ HX.out).mono ?_
              rintro e w5 ⟨rfl, hb5⟩
              have HX5 := hidOf (HX.out.keep hb5)
              clear hb5 HX p4 c0
              by_cases hk0 : atR v.sb y < 0
              · have HV := hidOf (HBad.out (show grantI v y = false by unfold grantI; exact decide_eq_false (by omega)))
                go_wp2
                go_ret
                rw [HV.out]
                exact ⟨rfl, HX5.out.below⟩
              · have HR := hidOf (show grantI v y = true by unfold grantI; exact decide_eq_true (by omega))
                go_wp2
                go_roundw
                case rel => exact ⟨m + 1, by omega, by go_num, fun j hj => (by
                  by_cases e : j = m
                  · rw [e, HY.out]; exact HR.out
                  · exact Hto.out j (by omega)), HX5.out⟩
                case measure => simp [intOf]; omega
            · have HGs := hidOf (show v.gs.all (grantI v) = true from all_of (fun j hj => Hto.out j (by have := hX.rin.gs.len; omega)))
              have hll := hX.rin.ln.len
              have hgl := hX.rin.gs.len
              have HD := hidOf (show q = decide (dist (v.ln ++ v.gs) = (v.ln ++ v.gs).length) by
                rw [← HQ.out, HLn.out, HGs.out, HN.out]
                rfl)
              have HCp := hidOf (fun (u : World) (hu : RHold w M v u) => copied_row M.la M.l M.lc v.ln u hu.rin.ln hML)
              have hH := hX.cel
              clear hX Hto
              go_wp2_with fail
              refine wp_region_noPanic ?_
              refine wp_region_held_drew (S := fun w' => RCel w M v w') (by kernel_rfl) hH.drew (fun hHeld => ?_)
              refine wpAnyH_take (i := 0) (v := ?_) rfl (by kernel_rfl) (by kernel_rfl) (by kernel_rfl) (fun _ _ _ h => h) (Or.inl ⟨by rfl, ?_⟩) (by assumption) ?_
              case refine_2 => (intro w hSw; (try dsimp only at hSw); go_simp; try with_reducible rfl)
              simp only [Act.put, List.getElem_toArray, List.getElem_cons_zero, List.setIfInBounds_toArray, List.set_cons_zero, List.set_cons_succ]
              refine wpAnyH_take (i := 1) (v := ?_) rfl (by kernel_rfl) (by kernel_rfl) (by kernel_rfl) (fun _ _ _ h => h) (Or.inl ⟨by rfl, ?_⟩) (by assumption) ?_
              case refine_2 => (intro w hSw; (try dsimp only at hSw); go_simp; try with_reducible rfl)
              simp only [Act.put, zGA, zG0, zGC, zSA, zS0, zSC]
              refine wpAnyH_take (i := 3) (v := ?_) rfl (by kernel_rfl) (by kernel_rfl) (by kernel_rfl) (fun _ _ _ h => h) (Or.inl ⟨by rfl, ?_⟩) (by assumption) ?_
              case refine_2 => (intro w hSw; (try dsimp only at hSw); go_simp; try with_reducible rfl)
              simp only [Act.put, zGA, zG0, zGC, zSA, zS0, zSC]
              refine wpAnyH_take (i := 4) (v := ?_) rfl (by kernel_rfl) (by kernel_rfl) (by kernel_rfl) (fun _ _ _ h => h) (Or.inl ⟨by rfl, ?_⟩) (by assumption) ?_
              case refine_2 => (intro w hSw; (try dsimp only at hSw); go_simp; try with_reducible rfl)
              simp only [Act.put, zGA, zG0, zGC, zSA, zS0, zSC]
              refine wpAnyH_ready (rs := [2]) (by kernel_rfl) (by simp) ?_
              refine AllReadyH.cons rfl (fun K hK => ?_) AllReadyH.nil
              go_simp
              refine (HCp.out _ (RCel.hold hHeld)).mono ?_
              rintro e w5 ⟨a1, c1, rfl, ho1, hb5⟩
              go_wp2_with fail
              have hS5 := RCel.keep hHeld hb5
              obtain ⟨a3, c3, w6, hr6, ho6, hg6, _⟩ := append_ownS _ M.l (.slice a1 M.l c1) v.ln M.ga M.g M.gc v.gs w5 ho1 hb5.size (RCel.hold hS5).rin.gs (by omega)
              have hb6 := hb5.grown hg6 hb5.size (fun k hk => own_ge ho1 k hk)
              have hS6 := RCel.keep hHeld hb6
              obtain ⟨hi6, _⟩ := row_own ho6
              refine hK.out _ _ hS5 (fun hHeld => ?_)
              clear hK K
              refine wpAnyH_ready (rs := [5]) (by kernel_rfl) (by simp) ?_
              refine AllReadyH.cons rfl (fun K hK => ?_) AllReadyH.nil
              refine pstep_append_run (by rfl) _ _ 41 (by rfl) (.slice a1 M.l c1) (.slice M.ga M.g M.gc) _ (by rfl) (by rfl) hr6 ?_
              refine hK.out _ _ hS6 (fun hHeld => ?_)
              clear hK K
              simp only [Act.put, zGA, zG0, zGC, zSA, zS0, zSC]
              refine wpAnyH_take (i := 6) (v := ?_) rfl (by kernel_rfl) (by kernel_rfl) (by kernel_rfl) (fun _ _ _ h => h) (Or.inl ⟨by rfl, ?_⟩) (by assumption) ?_
              case refine_2 => (intro w hSw; (try dsimp only at hSw); go_simp; try with_reducible rfl)
              simp only [Act.put, zGA, zG0, zGC, zSA, zS0, zSC]
              refine wpAnyH_done (by kernel_rfl) ?_ _
              refine NoPanic.normal ?_
              have HB6 := hidOf (RCel.hold hS6).below
              have HLL := hidOf (And.intro hll hgl)
              have HC := hidOf (queueOf_any a3 (M.l + M.g) c3 (v.ln ++ v.gs) w6 hi6.ints (by omega) hwf)
              clear hS5 hS6 hr6 ho6 hg6 hb6 hb5 ho1 hi6 hHeld hH HCp hll hgl
              go_wp2_with fail
              refine (HC.out).mono ?_
              rintro e w7 ⟨qb, rfl, hq, hb7⟩
              obtain ⟨mb, cv, D, hp⟩ := id hq
              have c1 := hp.mem.c1
              have hown := hp.mem.map
              have hsz := hp.rd.size rfl
              have HB7 := hidOf (bl_trans HB6.out hb7)
              clear hq hp hb7 HC HB6
              go_wp2_with (first
                | (at_len; refine wpList_len_own _ rfl _ 130 rfl 3 3 Tryz.underlying130 _ mb _ D rfl hown ?_)
                | go_in)
              go_ret
              refine ⟨rbool ?_, HB7.out⟩
              rw [HD.out]
              have hLL := HLL.out
              rw [List.length_append, hLL.1, hLL.2, Bool.eq_iff_iff]
              simp
              omega
end Go.Proofs.YtffpecdjfcgadaaGreatDoor
