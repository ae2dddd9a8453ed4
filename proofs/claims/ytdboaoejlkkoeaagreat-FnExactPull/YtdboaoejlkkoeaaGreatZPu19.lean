/-
  copy of messages into a block
-/
import Derived.Test.YtdboaoejlkkoeaaGreatZPu18
namespace Go.Proofs.YtdboaoejlkkoeaaGreat
open Go.RowKit Pl Il
theorem run_copyG {P : Program} (w : World) (dT sT ty elem : TypeId) (sz g o dLen dCap : Nat) (a : Addr) (sLen sCap : Nat) (cur : Array Value) (t : TypeId) (cs : List Value)
    (hu : P.underlying dT = some (.slice elem)) (hs : (P.info? elem).map (·.size) = some sz)
    (hg : w.heap[g]? = some (.cells cur t (0, 0))) (hn : cs.length = Nat.min sLen dLen * sz)
    (hsrc : ∀ j v, cs[j]? = some v → w.cell? (a.add j) = some v) (hfit : o + cs.length ≤ cur.size) (h1 : ∀ v ∈ cs, v.oneCell' = true) :
    (Builtin.copy_ #[dT, sT] ty #[.slice (some ⟨g, o, none⟩) dLen dCap, .slice (some a) sLen sCap]).run P w =
      .ok (goInt (Nat.min sLen dLen)) (w.setRow g (cur.toList.take o ++ cs ++ cur.toList.drop (o + cs.length)).toArray) := by
  have hl := run_loadCells_list (P := P) w a cs hsrc
  have hst := run_storeCells_at P g o t cs 0 cur w hg (by simpa using hfit) h1
  cases hq : P.info? elem with
  | none => simp [hq] at hs
  | some i =>
    have hi : i.size = sz := by simpa [hq] using hs
    simp [Builtin.copy_, run_underlying hu, Builtin.lenOf, Builtin.firstCells, sizeOf, typeInfo, hq, hi, ← hn, hl, hst]
theorem infoMz : (Tryz.prog.info? 30).map (·.size) = some 3 := by kernel_rfl
theorem copy_tonil (w : World) (a : Option Addr) (n c : Nat) : (Builtin.copy_ #[24, 24] 3 #[.slice none 0 0, .slice a n c]).run Tryz.prog w = .ok (.int .i64 0) w := by
  cases hq : Tryz.prog.info? 30 with
  | none => have := infoMz; rw [hq] at this; cases this
  | some i =>
    cases a <;> simp [Builtin.copy_, run_underlying Tryz.underlying24, Builtin.lenOf, Builtin.firstCells, sizeOf, typeInfo, hq, loadCells, loadCellsFrom, goInt]
structure CpyP (b d k : Nat) (ts : List Tm) (w w' : World) : Prop where
  blk : ∀ cur t, w.heap[b]? = some (.cells cur t (0, 0)) → ∃ cur' : Array Value, w'.heap[b]? = some (.cells cur' t (0, 0)) ∧ cur'.size = cur.size
  grown : w.grownBy w' (some b)
  cells : ∀ j, w'.cell? ⟨b, j, none⟩ = if d ≤ j ∧ j < d + k * 3 then (qflat ts)[j - d]? else w.cell? ⟨b, j, none⟩
theorem grown_setRow (w : World) (g : Nat) (cs : Array Value) : w.grownBy (w.setRow g cs) (some g) := ⟨rfl, rfl, rfl, by simp, fun k _ hk => setRow_other _ _ _ _ (by rintro rfl; exact hk rfl)⟩
theorem seg_at {l cs : List Value} {d j : Nat} (hd : d + cs.length ≤ l.length) : (l.take d ++ cs ++ l.drop (d + cs.length))[j]? = if d ≤ j ∧ j < d + cs.length then cs[j - d]? else l[j]? := by
  by_cases h1 : j < d
  · rw [if_neg (by omega), List.append_assoc, List.getElem?_append_left (by simp; omega), List.getElem?_take_of_lt h1]
  · by_cases h2 : j < d + cs.length
    · rw [if_pos (by omega), List.append_assoc, List.getElem?_append_right (by simp; omega), List.getElem?_append_left (by simp; omega)]
      simp only [List.length_take]
      rw [Nat.min_eq_left (by omega)]
    · rw [if_neg (by omega), List.getElem?_append_right (by simp; omega)]
      simp only [List.length_append, List.length_take]
      rw [Nat.min_eq_left (by omega), List.getElem?_drop]
      congr 1
      omega
theorem copy_msgs (w : World) (b d dLen dCap : Nat) (a : Option Addr) (n c : Nat) (ts : List Tm) (cur : Array Value) (t : TypeId) (hg : w.heap[b]? = some (.cells cur t (0, 0))) (hI : TmAt w a n ts) (hfit : d + dLen * 3 ≤ cur.size) :
    ∃ w', (Builtin.copy_ #[24, 24] 3 #[.slice (some ⟨b, d, none⟩) dLen dCap, .slice a n c]).run Tryz.prog w = .ok (.int .i64 ((Nat.min n dLen : Nat) : Int)) w' ∧ CpyP b d (Nat.min n dLen) ts w w' := by
  cases a with
  | none =>
    obtain rfl : n = 0 := by
      rcases hI.row with h | ⟨b', off', e, _⟩
      · exact h
      · cases e
    refine ⟨w, ?_, ⟨fun cur t h => ⟨cur, h, rfl⟩, ⟨rfl, rfl, rfl, Nat.le_refl _, fun _ _ _ => rfl⟩, fun j => by rw [if_neg (by simp)]⟩⟩
    cases hq : Tryz.prog.info? 30 with
    | none => have := infoMz; rw [hq] at this; cases this
    | some i => simp [Builtin.copy_, run_underlying Tryz.underlying24, Builtin.lenOf, Builtin.firstCells, sizeOf, typeInfo, hq, storeCells, goInt]
  | some ad =>
    have hlen : ((qflat ts).take (Nat.min n dLen * 3)).length = Nat.min n dLen * 3 := by
      rw [List.length_take, length_qflat, hI.len]
      have : Nat.min n dLen ≤ n := Nat.min_le_left _ _
      omega
    have hmd : Nat.min n dLen ≤ dLen := Nat.min_le_right _ _
    have hr := run_copyG (P := Tryz.prog) w 24 24 3 30 3 b d dLen dCap ad n c cur t ((qflat ts).take (Nat.min n dLen * 3)) Tryz.underlying24 infoMz hg hlen
      (fun j v hj => by
        rcases hI.src with h0 | ⟨b', off', e, hc⟩
        · subst h0
          simp at hj
        · cases e
          rw [Addr.add_lit]
          refine hc j v ?_
          rw [← hj, List.getElem?_take_of_lt]
          have := (List.getElem?_eq_some_iff.1 hj).1
          rw [hlen] at this
          exact this) (by rw [hlen]; omega) (fun v hv => one_qflat ts v (List.mem_of_mem_take hv))
    refine ⟨_, hr, ⟨fun cur2 t2 h2 => ?_, grown_setRow _ _ _, fun j => ?_⟩⟩
    · rw [hg] at h2
      cases h2
      refine ⟨_, setRow_heap w b cur _ t _ hg, ?_⟩
      simp only [List.size_toArray, List.length_append, List.length_take, List.length_drop, Array.length_toList, length_qflat, hI.len]
      have : Nat.min n dLen ≤ n := Nat.min_le_left _ _
      omega
    · rw [cell_setRow_same w b j cur _ t _ hg]
      have h := seg_at (l := cur.toList) (cs := (qflat ts).take (Nat.min n dLen * 3)) (d := d) (j := j) (by rw [hlen, Array.length_toList]; omega)
      rw [List.getElem?_toArray, h, hlen]
      by_cases hj : d ≤ j ∧ j < d + Nat.min n dLen * 3
      · rw [if_pos hj, if_pos hj, List.getElem?_take_of_lt (by omega)]
      · rw [if_neg hj, if_neg hj]
        simp [World.cell?, hg]
end Go.Proofs.YtdboaoejlkkoeaaGreat
