/-
  The program's round of messages: where those of some numbers stand.
  copy of messages into a block.
-/
import Derived.Test.YtihdglmiecifjaaGreatZRa23
import Derived.Deep.CutRange
import Derived.Laws.CopyRow
namespace Go.Proofs.YtihdglmiecifjaaGreat
open Go.RowKit Pl Il

/-- Where they stand, up to the array's end and behind its turn. -/
def spanA (b o s n : Nat) : Value := if s + n ≤ 17 then .slice (some ⟨b, o + s * 3, none⟩) n (17 - s) else .slice (some ⟨b, o + s * 3, none⟩) (17 - s) (17 - s)
def spanB (b o s n : Nat) : Value := if s + n ≤ 17 then .slice none 0 0 else .slice (some ⟨b, o, none⟩) (s + n - 17) 17
theorem arr17 : Tryz.prog.underlying 141 = some (.array (Tryz.prog.arrayLen 141) (Tryz.prog.elem 141)) := by kernel_rfl
theorem arr17len : Tryz.prog.arrayLen 141 = 17 := by kernel_rfl
theorem arr17sz (w : World) : (sizeOf (Tryz.prog.elem 141)).run Tryz.prog w = .ok 3 w := by kernel_rfl
theorem add_at (b o k : Nat) : (⟨b, o, none⟩ : Addr).add k = ⟨b, o + k, none⟩ := Addr.add_lit ..
theorem slice_lh (b o s e : Nat) (u : World) (h1 : s ≤ e) (h2 : e ≤ 17) (h3 : s < 17) :
    (Instr.sliceAt 141 (.pointer (some ⟨b, o, none⟩)) (some (.int .i64 (s : Int))) (some (.int .i64 (e : Int))) none).run Tryz.prog u = .ok (.slice (some ⟨b, o + s * 3, none⟩) (e - s) (17 - s)) u := by
  rw [run_sliceAt_array_lh u 141 _ arr17 .i64 .i64 _ _ (by omega) (by omega) (by rw [arr17len]; omega), arr17sz, Result.andThen_ok, arr17len]
  simp only [slicedAt, Int.toNat_natCast, add_at]
  rw [if_neg (by omega)]
theorem slice_h (b o e : Nat) (u : World) (h2 : e ≤ 17) :
    (Instr.sliceAt 141 (.pointer (some ⟨b, o, none⟩)) none (some (.int .i64 (e : Int))) none).run Tryz.prog u = .ok (.slice (some ⟨b, o, none⟩) e 17) u := by
  rw [run_sliceAt_array_h u 141 _ arr17 .i64 _ (by omega) (by rw [arr17len]; omega), arr17sz, Result.andThen_ok, arr17len]
  simp [slicedAt, add_at]
theorem slice_l (b o s : Nat) (u : World) (h3 : s < 17) :
    (Instr.sliceAt 141 (.pointer (some ⟨b, o, none⟩)) (some (.int .i64 (s : Int))) none none).run Tryz.prog u = .ok (.slice (some ⟨b, o + s * 3, none⟩) (17 - s) (17 - s)) u := by
  rw [run_sliceAt_array_l u 141 _ arr17 .i64 _ (by omega) (by rw [arr17len]; omega), arr17sz, Result.andThen_ok, arr17len]
  simp only [slicedAt, Int.toNat_natCast, add_at]
  rw [if_neg (by omega)]
set_option maxRecDepth 100000 in
set_option maxHeartbeats 4000000 in
theorem span_any (b o f n : Nat) (w : World) (hf : f ≤ 2000000000) (hn : n ≤ 17) :
    Calls Tryz.prog 174 #[.pointer (some ⟨b, o, none⟩), .int .i64 (f : Int), .int .i64 ((f + n : Nat) : Int)] w fun e w' => e = .returned (.tuple #[spanA b o (f % 17) n, spanB b o (f % 17) n]) ∧ Below w.heap.size w w' := by
  have hs : f % 17 < 17 := Nat.mod_lt _ (by omega)
  have hr : (f : Int) % 17 = ((f % 17 : Nat) : Int) := by omega
  obtain ⟨s, hS⟩ : ∃ s, f % 17 = s := ⟨_, rfl⟩
  rw [hS] at hs hr ⊢
  clear hS
  have he : (s : Int) + ((f : Int) + (n : Int)) - (f : Int) = ((s + n : Nat) : Int) := by omega
  by_cases h : s + n ≤ 17
  · have HA := hidOf (show spanA b o s n = .slice (some ⟨b, o + s * 3, none⟩) n (17 - s) from if_pos h)
    have HB := hidOf (show spanB b o s n = .slice none 0 0 from if_pos h)
    have hi : (s : Int) + (n : Int) ≤ 17 := by omega
    have hsl := slice_lh b o s (s + n) w (by omega) h hs
    rw [Nat.add_sub_cancel_left, show ((s + n : Nat) : Int) = (s : Int) + (n : Int) by omega] at hsl
    rw [HA.out, HB.out]
    clear h
    go_enter Tryz.func174, Tryz.ntmps174
    go_wp2_with fail
    go_ret2
    exact ⟨rfl, Below.refl _ _⟩
  · have HA := hidOf (show spanA b o s n = .slice (some ⟨b, o + s * 3, none⟩) (17 - s) (17 - s) from if_neg h)
    have HB := hidOf (show spanB b o s n = .slice (some ⟨b, o, none⟩) (s + n - 17) 17 from if_neg h)
    have hi : ¬ (s : Int) + (n : Int) ≤ 17 := by omega
    have hsl := fun u => slice_l b o s u hs
    have hsh := fun u => slice_h b o (s + n - 17) u (by omega)
    have hw : IntKind.i64.wrap ((s + n - 17 : Nat) : Int) = ((s + n - 17 : Nat) : Int) := by rw [IntKind.wrap_i64]; omega
    have hw2 : (s : Int) + (n : Int) - 17 = ((s + n - 17 : Nat) : Int) := by omega
    rw [HA.out, HB.out]
    clear h
    have hB : Below w.heap.size w w := Below.refl _ _
    go_enter Tryz.func174, Tryz.ntmps174
    go_upto_region 5 with fail
    refine wp_region_noPanic ?_
    refine wp_region_held_drew (S := fun w' => Below w.heap.size w w') (by kernel_rfl) hB.drew (fun hHeld => ?_)
    refine wpAnyH_take (i := 0) (v := ?_) rfl (by kernel_rfl) (by kernel_rfl) (by kernel_rfl) (fun _ _ _ h => h) (Or.inl ⟨by rfl, ?_⟩) (by assumption) ?_
    case refine_2 => (intro w hSw; (try dsimp only at hSw); go_simp; try with_reducible rfl)
    simp only [Act.put, List.getElem_toArray, List.getElem_cons_zero, List.setIfInBounds_toArray, List.set_cons_zero, List.set_cons_succ]
    refine wpAnyH_take (i := 1) (v := ?_) rfl (by kernel_rfl) (by kernel_rfl) (by kernel_rfl) (fun _ _ _ h => h) (Or.inl ⟨by rfl, ?_⟩) (by assumption) ?_
    case refine_2 => (intro w hSw; (try dsimp only at hSw); go_simp; try with_reducible rfl)
    simp only [Act.put, zGA, zG0, zGC, zSA, zS0, zSC]
    refine wpAnyH_take (i := 2) (v := ?_) rfl (by kernel_rfl) (by kernel_rfl) (by kernel_rfl) (fun _ _ _ h => h) (Or.inl ⟨by rfl, ?_⟩) (by assumption) ?_
    case refine_2 => (intro w hSw; (try dsimp only at hSw); go_simp; try with_reducible rfl)
    simp only [Act.put, zGA, zG0, zGC, zSA, zS0, zSC]
    refine wpAnyH_take (i := 3) (v := ?_) rfl (by kernel_rfl) (by kernel_rfl) (by kernel_rfl) (fun _ _ _ h => h) (Or.inl ⟨by rfl, ?_⟩) (by assumption) ?_
    case refine_2 => (intro w hSw; (try dsimp only at hSw); go_simp; try with_reducible rfl)
    simp only [Act.put, zGA, zG0, zGC, zSA, zS0, zSC]
    refine wpAnyH_take (i := 4) (v := ?_) rfl (by kernel_rfl) (by kernel_rfl) (by kernel_rfl) (fun _ _ _ h => h) (Or.inl ⟨by rfl, ?_⟩) (by assumption) ?_
    case refine_2 => (intro w hSw; (try dsimp only at hSw); go_simp; try with_reducible rfl)
    simp only [Act.put, zGA, zG0, zGC, zSA, zS0, zSC]
    refine wpAnyH_take (i := 5) (v := ?_) rfl (by kernel_rfl) (by kernel_rfl) (by kernel_rfl) (fun _ _ _ h => h) (Or.inl ⟨by rfl, ?_⟩) (by assumption) ?_
    case refine_2 => (intro w hSw; (try dsimp only at hSw); go_simp; try with_reducible rfl)
    simp only [Act.put, zGA, zG0, zGC, zSA, zS0, zSC]
    refine wpAnyH_take (i := 6) (v := ?_) rfl (by kernel_rfl) (by kernel_rfl) (by kernel_rfl) (fun _ _ _ h => h) (Or.inl ⟨by rfl, ?_⟩) (by assumption) ?_
    case refine_2 => (intro w hSw; (try dsimp only at hSw); go_simp; try with_reducible rfl)
    simp only [Act.put, zGA, zG0, zGC, zSA, zS0, zSC]
    refine wpAnyH_take (i := 7) (v := ?_) rfl (by kernel_rfl) (by kernel_rfl) (by kernel_rfl) (fun _ _ _ h => h) (Or.inl ⟨by rfl, ?_⟩) (by assumption) ?_
    case refine_2 => (intro w hSw; (try dsimp only at hSw); go_simp; try with_reducible rfl)
    simp only [Act.put, zGA, zG0, zGC, zSA, zS0, zSC]
    refine wpAnyH_take (i := 8) (v := ?_) rfl (by kernel_rfl) (by kernel_rfl) (by kernel_rfl) (fun _ _ _ h => h) (Or.inl ⟨by rfl, ?_⟩) (by assumption) ?_
    case refine_2 => (intro w hSw; (try dsimp only at hSw); go_simp; try with_reducible rfl)
    simp only [Act.put, zGA, zG0, zGC, zSA, zS0, zSC]
    refine wpAnyH_take (i := 9) (v := ?_) rfl (by kernel_rfl) (by kernel_rfl) (by kernel_rfl) (fun _ _ _ h => h) (Or.inl ⟨by rfl, ?_⟩) (by assumption) ?_
    case refine_2 => (intro w hSw; (try dsimp only at hSw); go_simp; try with_reducible rfl)
    simp only [Act.put, zGA, zG0, zGC, zSA, zS0, zSC]
    refine wpAnyH_take (i := 10) (v := ?_) rfl (by kernel_rfl) (by kernel_rfl) (by kernel_rfl) (fun _ _ _ h => h) (Or.inl ⟨by rfl, ?_⟩) (by assumption) ?_
    case refine_2 => (intro w hSw; (try dsimp only at hSw); go_simp; try with_reducible rfl)
    simp only [Act.put, zGA, zG0, zGC, zSA, zS0, zSC]
    refine wpAnyH_take (i := 11) (v := ?_) rfl (by kernel_rfl) (by kernel_rfl) (by kernel_rfl) (fun _ _ _ h => h) (Or.inl ⟨by rfl, ?_⟩) (by assumption) ?_
    case refine_2 => (intro w hSw; (try dsimp only at hSw); go_simp; try with_reducible rfl)
    simp only [Act.put, zGA, zG0, zGC, zSA, zS0, zSC]
    refine wpAnyH_take (i := 12) (v := ?_) rfl (by kernel_rfl) (by kernel_rfl) (by kernel_rfl) (fun _ _ _ h => h) (Or.inl ⟨by rfl, ?_⟩) (by assumption) ?_
    case refine_2 => (intro w hSw; (try dsimp only at hSw); go_simp; try with_reducible rfl)
    simp only [Act.put, zGA, zG0, zGC, zSA, zS0, zSC]
    refine wpAnyH_done (by kernel_rfl) ?_ _
    refine NoPanic.normal ?_
    go_wp2
    go_ret2
    exact ⟨rfl, hHeld⟩
end Go.Proofs.YtihdglmiecifjaaGreat
namespace Go.Proofs.YtihdglmiecifjaaGreat
open Go.RowKit Pl Il

theorem run_copyG {P : Program} (w : World) (dT sT ty elem : TypeId) (sz g o dLen dCap : Nat) (a : Addr) (sLen sCap : Nat) (cur : Array Value) (t : TypeId) (cs : List Value)
    (hu : P.underlying dT = some (.slice elem)) (hs : (P.info? elem).map (·.size) = some sz)
    (hg : w.heap[g]? = some (.cells cur t (0, 0))) (hn : cs.length = Nat.min sLen dLen * sz)
    (hsrc : ∀ j v, cs[j]? = some v → w.cell? (a.add j) = some v) (hfit : o + cs.length ≤ cur.size) (h1 : ∀ v ∈ cs, v.oneCell' = true) :
    (Builtin.copy_ #[dT, sT] ty #[.slice (some ⟨g, o, none⟩) dLen dCap, .slice (some a) sLen sCap]).run P w =
      .ok (goInt (Nat.min sLen dLen)) (w.setRow g (cur.toList.take o ++ cs ++ cur.toList.drop (o + cs.length)).toArray) := by
  have hl := run_loadCells_list (P := P) w a cs hsrc
  have hst := run_storeCells_at P g o t cs 0 cur w hg (by simpa using hfit) h1
  cases hq : P.info? elem with
  | none => simp [hq] at hs
  | some i =>
    have hi : i.size = sz := by simpa [hq] using hs
    simp [Builtin.copy_, run_underlying hu, Builtin.lenOf, Builtin.firstCells, sizeOf, typeInfo, hq, hi, ← hn, hl, hst]
theorem infoMz : (Tryz.prog.info? 30).map (·.size) = some 3 := by kernel_rfl
/-- Nothing to copy to. -/
theorem copy_tonil (w : World) (a : Option Addr) (n c : Nat) : (Builtin.copy_ #[24, 24] 3 #[.slice none 0 0, .slice a n c]).run Tryz.prog w = .ok (.int .i64 0) w := by
  cases hq : Tryz.prog.info? 30 with
  | none => have := infoMz; rw [hq] at this; cases this
  | some i =>
    cases a <;> simp [Builtin.copy_, run_underlying Tryz.underlying24, Builtin.lenOf, Builtin.firstCells, sizeOf, typeInfo, hq, loadCells, loadCellsFrom, goInt]
/-- A block's cells from d on were written over, k messages; nothing else has turned. -/
structure CpyP (b d k : Nat) (ts : List Tm) (w w' : World) : Prop where
  blk : ∀ cur t, w.heap[b]? = some (.cells cur t (0, 0)) → ∃ cur' : Array Value, w'.heap[b]? = some (.cells cur' t (0, 0)) ∧ cur'.size = cur.size
  grown : w.grownBy w' (some b)
  cells : ∀ j, w'.cell? ⟨b, j, none⟩ = if d ≤ j ∧ j < d + k * 3 then (qflat ts)[j - d]? else w.cell? ⟨b, j, none⟩
theorem grown_setRow (w : World) (g : Nat) (cs : Array Value) : w.grownBy (w.setRow g cs) (some g) := ⟨rfl, rfl, rfl, by simp, fun k _ hk => setRow_other _ _ _ _ (by rintro rfl; exact hk rfl)⟩
theorem seg_at {l cs : List Value} {d j : Nat} (hd : d + cs.length ≤ l.length) : (l.take d ++ cs ++ l.drop (d + cs.length))[j]? = if d ≤ j ∧ j < d + cs.length then cs[j - d]? else l[j]? := by
  by_cases h1 : j < d
  · rw [if_neg (by omega), List.append_assoc, List.getElem?_append_left (by simp; omega), List.getElem?_take_of_lt h1]
  · by_cases h2 : j < d + cs.length
    · rw [if_pos (by omega), List.append_assoc, List.getElem?_append_right (by simp; omega), List.getElem?_append_left (by simp; omega)]
      simp only [List.length_take]
      rw [Nat.min_eq_left (by omega)]
    · rw [if_neg (by omega), List.getElem?_append_right (by simp; omega)]
      simp only [List.length_append, List.length_take]
      rw [Nat.min_eq_left (by omega), List.getElem?_drop]
      congr 1
      omega
theorem copy_msgs (w : World) (b d dLen dCap : Nat) (a : Option Addr) (n c : Nat) (ts : List Tm) (cur : Array Value) (t : TypeId) (hg : w.heap[b]? = some (.cells cur t (0, 0))) (hI : TmAt w a n ts) (hfit : d + dLen * 3 ≤ cur.size) :
    ∃ w', (Builtin.copy_ #[24, 24] 3 #[.slice (some ⟨b, d, none⟩) dLen dCap, .slice a n c]).run Tryz.prog w = .ok (.int .i64 ((Nat.min n dLen : Nat) : Int)) w' ∧ CpyP b d (Nat.min n dLen) ts w w' := by
  cases a with
  | none =>
    obtain rfl : n = 0 := by
      rcases hI.row with h | ⟨b', off', e, _⟩
      · exact h
      · cases e
    refine ⟨w, ?_, ⟨fun cur t h => ⟨cur, h, rfl⟩, ⟨rfl, rfl, rfl, Nat.le_refl _, fun _ _ _ => rfl⟩, fun j => by rw [if_neg (by simp)]⟩⟩
    cases hq : Tryz.prog.info? 30 with
    | none => have := infoMz; rw [hq] at this; cases this
    | some i => simp [Builtin.copy_, run_underlying Tryz.underlying24, Builtin.lenOf, Builtin.firstCells, sizeOf, typeInfo, hq, storeCells, goInt]
  | some ad =>
    have hlen : ((qflat ts).take (Nat.min n dLen * 3)).length = Nat.min n dLen * 3 := by
      rw [List.length_take, length_qflat, hI.len]
      have : Nat.min n dLen ≤ n := Nat.min_le_left _ _
      omega
    have hmd : Nat.min n dLen ≤ dLen := Nat.min_le_right _ _
    have hr := run_copyG (P := Tryz.prog) w 24 24 3 30 3 b d dLen dCap ad n c cur t ((qflat ts).take (Nat.min n dLen * 3)) Tryz.underlying24 infoMz hg hlen
      (fun j v hj => by
        rcases hI.src with h0 | ⟨b', off', e, hc⟩
        · subst h0
          simp at hj
        · cases e
          rw [Addr.add_lit]
          refine hc j v ?_
          rw [← hj, List.getElem?_take_of_lt]
          have := (List.getElem?_eq_some_iff.1 hj).1
          rw [hlen] at this
          exact this) (by rw [hlen]; omega) (fun v hv => one_qflat ts v (List.mem_of_mem_take hv))
    refine ⟨_, hr, ⟨fun cur2 t2 h2 => ?_, grown_setRow _ _ _, fun j => ?_⟩⟩
    · rw [hg] at h2
      cases h2
      refine ⟨_, setRow_heap w b cur _ t _ hg, ?_⟩
      simp only [List.size_toArray, List.length_append, List.length_take, List.length_drop, Array.length_toList, length_qflat, hI.len]
      have : Nat.min n dLen ≤ n := Nat.min_le_left _ _
      omega
    · rw [cell_setRow_same w b j cur _ t _ hg]
      have h := seg_at (l := cur.toList) (cs := (qflat ts).take (Nat.min n dLen * 3)) (d := d) (j := j) (by rw [hlen, Array.length_toList]; omega)
      rw [List.getElem?_toArray, h, hlen]
      by_cases hj : d ≤ j ∧ j < d + Nat.min n dLen * 3
      · rw [if_pos hj, if_pos hj, List.getElem?_take_of_lt (by omega)]
      · rw [if_neg hj, if_neg hj]
        simp [World.cell?, hg]
end Go.Proofs.YtihdglmiecifjaaGreat
