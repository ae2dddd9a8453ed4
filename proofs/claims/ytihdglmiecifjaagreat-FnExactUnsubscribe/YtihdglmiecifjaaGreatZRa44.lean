/-
  One subscriber is gone: in a ring's rows, and in a body.
  One subscriber is gone: the program's list is moved up, its last place cleared.
-/
import Derived.Test.YtihdglmiecifjaaGreatZRa30
import Derived.Test.YtihdglmiecifjaaGreatZRa29
namespace Go.Proofs.YtihdglmiecifjaaGreat
open Go.RowKit Go.Maps Pl Il

/-- A list without its element k. -/
theorem erase_split {α : Type} (xs : List α) (k : Nat) : xs.eraseIdx k = xs.take k ++ xs.drop (k + 1) := List.eraseIdx_eq_take_drop_succ xs k
theorem sflat_take (xs : List Sa) (k : Nat) : (sflat xs).take (k * 7) = sflat (xs.take k) := by
  induction xs generalizing k with
  | nil => simp [sflat]
  | cons x xs ih =>
    cases k with
    | zero => simp [sflat]
    | succ k =>
      have e : sflat (x :: xs) = sC x ++ sflat xs := by simp [sflat]
      have e2 : sflat ((x :: xs).take (k + 1)) = sC x ++ sflat (xs.take k) := by simp [sflat]
      rw [e, e2, ← ih k, show (k + 1) * 7 = (sC x).length + k * 7 by show _ = 7 + _; omega, List.take_length_add_append]
theorem sflat_drop (xs : List Sa) (k : Nat) : (sflat xs).drop (k * 7) = sflat (xs.drop k) := by
  induction xs generalizing k with
  | nil => simp [sflat]
  | cons x xs ih =>
    cases k with
    | zero => simp [sflat]
    | succ k =>
      have e : sflat (x :: xs) = sC x ++ sflat xs := by simp [sflat]
      rw [e, show (k + 1) * 7 = (sC x).length + k * 7 by show _ = 7 + _; omega, List.drop_length_add_append, ih k, List.drop_succ_cons]
theorem svs_erase (xs : List Sa) (k : Nat) : svs (xs.eraseIdx k) = (svs xs).eraseIdx k := by
  unfold svs
  rw [erase_split, erase_split, List.map_append, List.map_take, List.map_drop]
theorem erase_mem {xs : List Sa} {k : Nat} {x : Sa} (h : x ∈ xs.eraseIdx k) : x ∈ xs := List.mem_of_mem_eraseIdx h
/-- A ring without the subscriber in place k. -/
def dropV (v : Rv) (id : Int) (k : Nat) : Rv := ⟨v.cp, v.se, v.it, v.nx, v.sb.eraseIdx k, lessL v.ln id, lessL v.gs id, v.cl⟩
theorem drop_old (v : Rv) (id : Int) (k : Nat) : oldR v ≤ oldR (dropV v id k) := by
  refine old_mono rfl rfl ?_
  rw [least_iff]
  have hl := (least_iff v.sb v.se (leastR v.se v.sb)).1 (Int.le_refl _)
  exact ⟨hl.1, fun s hs => hl.2 s (List.mem_of_mem_eraseIdx hs)⟩
theorem drop_first {v : Rv} (h : okR restR v = true) (id : Int) (k : Nat) {f : Nat} (hf : v.se = ((f + v.it.length : Nat) : Int)) : ∃ d : Nat, d ≤ v.it.length ∧ oldR (dropV v id k) = ((f + d : Nat) : Int) ∧ trimR (dropV v id k) = { dropV v id k with it := v.it.drop d } := by
  obtain ⟨hcp, hse, _, h16, hlen, _⟩ := ok_head h
  have h1 := drop_old v id k
  have h2 := oldR_bd (v := dropV v id k) hse.1 hcp.1
  have e1 : (dropV v id k).se = v.se := rfl
  have e2 : (dropV v id k).it = v.it := rfl
  rw [e1] at h2
  obtain ⟨d, hd⟩ : ∃ d : Nat, oldR (dropV v id k) = ((f + d : Nat) : Int) := ⟨(oldR (dropV v id k) - f).toNat, by omega⟩
  refine ⟨d, by omega, hd, ?_⟩
  unfold trimR
  rw [e1, e2]
  by_cases h0 : d = 0
  · subst h0
    rw [if_neg (by omega), List.drop_zero]
    rfl
  · rw [if_pos (by omega), show v.it.length - (v.se - oldR (dropV v id k)).toNat = d by omega]
    first | done | rfl
def unsR (v : Rv) (id : Int) : Rv := if okR restR v = true then (if atR v.sb id < 0 then v else trimR (dropV v id (atR v.sb id).toNat)) else v
def unsC (v : Rv) (id : Int) : Int := if okR restR v = true then (if atR v.sb id < 0 then 3 else 0) else 1
def UnsDone (F : Nat) : Prop := ∀ (M : Rm) (v : Rv) (id : Int) (w : World), RIn w M v → RLe M 1048576 → RCap M → RWf v → (Lit.int .i64 id).wf = true →
  Calls Tryz.prog F #[.agg #[.int .i64 v.cp, .int .i64 v.se, .slice M.ia M.i M.ic, .int .i64 v.nx, .slice M.sa M.s M.sc, .slice M.la M.l M.lc, .slice M.ga M.g M.gc, .bool v.cl], .int .i64 id] w fun e w' => RgP w (unsR v id) (unsC v id) e w'
def UnsDoneS (F : Nat) : Prop := ∀ (M : Rm) (v : Rv) (id : Int) (w : World), RIn w M v → RLe M 1048576 → RCap M → RWf v → (Lit.int .i64 id).wf = true →
  Calls Tryz.prog F #[.agg #[.int .i64 v.cp, .int .i64 v.se, .slice M.ia M.i M.ic, .int .i64 v.nx, .slice M.sa M.s M.sc, .slice M.la M.l M.lc, .slice M.ga M.g M.gc, .bool v.cl], .int .i64 id] w fun e w' => RgPS w (unsR v id) (unsC v id) e w'
end Go.Proofs.YtihdglmiecifjaaGreat
namespace Go.Proofs.YtihdglmiecifjaaGreat
open Go.RowKit Go.Maps Pl Il

theorem infoSz : (Tryz.prog.info? 41).map (·.size) = some 7 := by kernel_rfl
/-- A row of subscribers, whole. -/
structure SubW (g s sc : Nat) (xs : List Sa) (w : World) (cur : Array Value) : Prop where
  blk : w.heap[g]? = some (.cells cur 41 (0, 0))
  size : cur.size = sc * 7
  le : s ≤ sc
  max : sc ≤ maxLen
  cells : cur.toList.take (s * 7) = sflat xs
  len : xs.length = s
theorem SubW.of {B g s sc : Nat} {xs : List Sa} {w : World} (h : w.ownsRow B 41 7 (.slice (some ⟨g, 0, none⟩) s sc) s (sflat xs)) : B ≤ g ∧ ∃ cur, SubW g s sc xs w cur := by
  obtain ⟨hl, ⟨e, _⟩ | ⟨g', c', cur, e, hB, hg, hc, hm, hs, ht⟩⟩ := h
  · cases e
  · cases e
    exact ⟨hB, cur, hg, hs, hc, hm, ht, by rw [length_sflat] at hl; omega⟩
theorem SubW.row {B g s sc : Nat} {xs : List Sa} {w : World} {cur : Array Value} (h : SubW g s sc xs w cur) (hB : B ≤ g) : w.ownsRow B 41 7 (.slice (some ⟨g, 0, none⟩) s sc) s (sflat xs) :=
  ⟨by rw [length_sflat, h.len], .inr ⟨g, sc, cur, rfl, hB, h.blk, h.le, h.max, h.size, h.cells⟩⟩
theorem SubW.cell {g s sc : Nat} {xs : List Sa} {w : World} {cur : Array Value} (h : SubW g s sc xs w cur) {j : Nat} (hj : j < s * 7) : w.cell? ⟨g, j, none⟩ = (sflat xs)[j]? := by
  rw [cell_of_row w g j cur _ (0, 0) h.blk, ← h.cells, List.getElem?_take_of_lt hj, Array.getElem?_toList]
/-- Those behind place k are moved up by one. -/
theorem copy_up {g s sc k : Nat} {xs : List Sa} {w : World} {cur : Array Value} (h : SubW g s sc xs w cur) (hk : k < s) (a : Addr) (ha : s = k + 1 ∨ a = ⟨g, (k + 1) * 7, none⟩) (n1 n2 : Nat) (hn1 : s - k = n1) (hn2 : s - (k + 1) = n2) :
    ∃ (w' : World) (cur' : Array Value), (∀ ty c1 c2, (Builtin.copy_ #[25, 25] ty #[.slice (some ⟨g, k * 7, none⟩) n1 c1, .slice (some a) n2 c2]).run Tryz.prog w = .ok (.int .i64 ((Nat.min n2 n1 : Nat) : Int)) w') ∧ w.grownBy w' (some g) ∧ w'.heap[g]? = some (.cells cur' 41 (0, 0)) ∧ cur'.size = sc * 7 ∧ cur'.toList.take ((s - 1) * 7) = sflat (xs.eraseIdx k) := by
  subst hn1 hn2
  have hcl : (sflat (xs.drop (k + 1))).length = (s - (k + 1)) * 7 := by rw [length_sflat, List.length_drop, h.len]
  have hmin : Nat.min (s - (k + 1)) (s - k) = s - (k + 1) := Nat.min_eq_left (by omega)
  have hle := h.le
  have hsz := h.size
  have hr := fun ty c1 c2 => run_copyG (P := Tryz.prog) w 25 25 ty 41 7 g (k * 7) (s - k) c1 a (s - (k + 1)) c2 cur 41 (sflat (xs.drop (k + 1))) Tryz.underlying25 infoSz h.blk (by rw [hcl, hmin])
    (fun j v hj => by
      have hlt := (List.getElem?_eq_some_iff.1 hj).1
      rw [hcl] at hlt
      rcases ha with e | e
      · omega
      · rw [e, Addr.add_lit, h.cell (by omega), ← hj, ← sflat_drop, List.getElem?_drop])
    (by rw [hcl]; omega) (one_sflat _)
  refine ⟨_, _, hr, grown_setRow _ _ _, setRow_heap w g cur _ _ _ h.blk, ?_, ?_⟩
  · simp only [List.size_toArray, List.length_append, List.length_take, List.length_drop, Array.length_toList, hcl]
    omega
  · rw [erase_split, sflat_append, ← sflat_take, ← h.cells, List.take_take, Nat.min_eq_left (by omega)]
    simp only [List.append_assoc]
    rw [← List.append_assoc, List.take_append_of_le_length (by simp only [List.length_append, List.length_take, Array.length_toList, hcl]; omega), List.take_of_length_le (by simp only [List.length_append, List.length_take, Array.length_toList, hcl]; omega)]
theorem clear_subs (w : World) (g d sc : Nat) (cur : Array Value) (hg : w.heap[g]? = some (.cells cur 41 (0, 0))) (hs : cur.size = sc * 7) (hd : d < sc) :
    ∃ (w' : World) (cur' : Array Value), (∀ ty c, (Builtin.clear_ #[25] ty #[.slice (some ⟨g, d * 7, none⟩) 1 c]).run Tryz.prog w = .ok (.tuple #[]) w') ∧ w.grownBy w' (some g) ∧ w'.heap[g]? = some (.cells cur' 41 (0, 0)) ∧ cur'.size = sc * 7 ∧ cur'.toList.take (d * 7) = cur.toList.take (d * 7) := by
  obtain ⟨zs, hzs⟩ : ∃ zs, (Builtin.zeroCells (Value.agg #[.int .i64 0, .int .i64 0, .int .i64 0, .int .i64 0, .int .i64 0, .int .i64 0, .slice none 0 0]).cells 1).toList = zs := ⟨_, rfl⟩
  have hze : zs = sflat [Sa.zero] := by rw [← hzs]; kernel_rfl
  have hzl : zs.length = 7 := by rw [hze]; rfl
  have h1 : ∀ v ∈ zs, v.oneCell' = true := by rw [hze]; exact one_sflat _
  clear hze
  have hst := run_storeCells_at Tryz.prog g (d * 7) 41 zs 0 cur w hg (by rw [hzl]; omega) h1
  simp only [Nat.add_zero] at hst
  refine ⟨w.setRow g (cur.toList.take (d * 7) ++ zs ++ cur.toList.drop (d * 7 + zs.length)).toArray, _, fun ty c => ?_, grown_setRow _ _ _, setRow_heap w g cur _ _ _ hg, ?_, ?_⟩
  · rw [← hzs] at hst ⊢
    simp only [Builtin.clear_]
    simp [run_underlying Tryz.underlying25, hst]
  · simp only [List.size_toArray, List.length_append, List.length_take, List.length_drop, Array.length_toList, hzl]
    omega
  · simp only [List.append_assoc]
    rw [List.take_append_of_le_length (by simp only [List.length_take, Array.length_toList]; omega), List.take_take, Nat.min_self]
end Go.Proofs.YtihdglmiecifjaaGreat
