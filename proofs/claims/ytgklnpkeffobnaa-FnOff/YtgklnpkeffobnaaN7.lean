/-
  The program's tokens: what going down holds on to, and the two that are called at each token.
-/
import Derived.Test.YtgklnpkeffobnaaN5b
import Derived.Test.YtgklnpkeffobnaaTD
namespace Go.Proofs.Ytgklnpkeffobnaa
open Go.RowKit Pl Il

theorem set_block {w : World} {b o : Nat} {cs : Array Value} {t : TypeId} {z : Nat × Nat} {x : Value} (h : w.heap[b]? = some (.cells cs t z)) : (w.setCell ⟨b, o, none⟩ x).heap[b]? = some (.cells (cs.setIfInBounds o x) t z) := by
  have hlt := lt_of_some h
  have hq : w.heap[b] = .cells cs t z := by
    rw [Array.getElem?_eq_getElem hlt] at h
    exact Option.some.inj h
  simp [World.setCell, Array.getElem_modify, hlt, hq]
/-- The variables that the closures have captured lie as they did. -/
def Stays (w w' : World) : Prop := ∀ (b : Nat) (cs : Array Value) (t : TypeId), w.heap[b]? = some (.cells cs t (0, 0)) → (t = 51 ∨ t = 61) → w'.heap[b]? = some (.cells cs t (0, 0))
theorem Stays.trans {w w1 w2 : World} (h : Stays w w1) (k : Stays w1 w2) : Stays w w2 := fun b cs t hb ht => k b cs t (h b cs t hb ht) ht
/-- What going down holds on to: the list's row, its nodes, the variable of those that are told, and their row. -/
structure DMem (B : Nat) (w0 : World) (B0 N : Nat) (lv : Value) (bs : List Nat) (ps : List Int) (gv : Value) (qs : List Bool) (gs : List Int) (w : World) : Prop where
  bn : w.heap[N]? = some (.cells #[gv] 24 (0, 0))
  row : NRow B w lv bs
  nodes : Nodes B w bs ps qs
  gone : w.ownsRow B 3 1 gv gs.length (gs.map (Value.int .i64))
  below : Below B0 w0 w
  hN : B0 ≤ N
  hB : B0 ≤ B
  size : B ≤ w.heap.size
theorem DMem.keep {B : Nat} {w0 : World} {B0 N : Nat} {lv : Value} {bs : List Nat} {ps : List Int} {gv : Value} {qs : List Bool} {gs : List Int} {w w' : World} (h : DMem B w0 B0 N lv bs ps gv qs gs w) (hb : Below w.heap.size w w') : DMem B w0 B0 N lv bs ps gv qs gs w' := by
  have hsz := h.size
  have hbz := h.hB
  refine ⟨by rw [hb.block N (lt_of_some h.bn)]; exact h.bn, h.row.keep hb, h.nodes.keep hb, ?_, h.below.trans (hb.mono (by omega)), h.hN, h.hB, Nat.le_trans h.size hb.size⟩
  refine h.gone.kept (row := none) ⟨hb.os, hb.tape, hb.output, hb.size, fun k hk _ => hb.block k hk⟩ ?_
  cases gv.ownBlock <;> simp
theorem gone_ne {B : Nat} {w : World} {v : Value} {k : Nat} {xs : List Value} (h : w.ownsRow B 3 1 v k xs) {b : Nat} {cs : Array Value} {t : TypeId} {z : Nat × Nat} (hb : w.heap[b]? = some (.cells cs t z)) (ht : t ≠ 3) : some b ≠ v.ownBlock := by
  intro e
  obtain ⟨_, ⟨rfl, _⟩ | ⟨g, cap, cur, rfl, _, hg, _⟩⟩ := h
  · simp [Value.ownBlock] at e
  · simp [Value.ownBlock] at e
    subst e
    rw [hb] at hg
    simp at hg
    exact ht hg.2.1
theorem NRow.block {B : Nat} {w : World} {v : Value} {bs : List Nat} (h : NRow B w v bs) {b : Nat} (hb : v.ownBlock = some b) : ∃ cs, w.heap[b]? = some (.cells cs 55 (0, 0)) := by
  obtain ⟨_, ⟨rfl, _⟩ | ⟨g, cap, cur, rfl, _, hg, _⟩⟩ := h
  · simp [Value.ownBlock] at hb
  · simp [Value.ownBlock] at hb
    subst hb
    exact ⟨cur, hg⟩
theorem nrow_kept {B : Nat} {w w' : World} {v : Value} {bs : List Nat} (h : NRow B w v bs) (hk : ∀ (b : Nat) (cs : Array Value), w.heap[b]? = some (.cells cs 55 (0, 0)) → w'.heap[b]? = w.heap[b]?) : NRow B w' v bs := by
  obtain ⟨hl, hn | ⟨g, cap, cur, rfl, hB, hg, hr⟩⟩ := h
  · exact ⟨hl, .inl hn⟩
  · exact ⟨hl, .inr ⟨g, cap, cur, rfl, hB, by rw [hk g cur hg]; exact hg, hr⟩⟩
/-- One more is told. -/
theorem DMem.push {B : Nat} {w0 : World} {B0 N : Nat} {lv : Value} {bs : List Nat} {ps : List Int} {gv : Value} {qs : List Bool} {gs : List Int} {w : World} (h : DMem B w0 B0 N lv bs ps gv qs gs w) (x : Int) (hs : gs.length + 1 ≤ 4194304) : ∃ (g c : Nat) (w1 : World),
    (Builtin.append_ #[24, 24] 24 #[gv, .slice (some ⟨w.heap.size, 0, none⟩) 1 1]).run Try.prog (w.alloc (.cells #[.int .i64 x] 3)) = .ok (.slice (some ⟨g, 0, none⟩) (gs.length + 1) c) w1 ∧ w1.cell? ⟨N, 0, none⟩ = some gv ∧ w1.frozen? ⟨N, 0, none⟩ = false ∧
    DMem B w0 B0 N lv bs ps (.slice (some ⟨g, 0, none⟩) (gs.length + 1) c) qs (gs ++ [x]) (w1.setCell ⟨N, 0, none⟩ (.slice (some ⟨g, 0, none⟩) (gs.length + 1) c)) ∧ Stays w (w1.setCell ⟨N, 0, none⟩ (.slice (some ⟨g, 0, none⟩) (gs.length + 1) c)) := by
  obtain ⟨g, c, w1, hr, ho, hg, _⟩ := append_own1 B gs.length gv gs x w h.gone h.size hs
  have hNne := gone_ne h.gone h.bn (by decide)
  have hn1 : w1.heap[N]? = some (.cells #[gv] 24 (0, 0)) := by rw [hg.block N (lt_of_some h.bn) hNne]; exact h.bn
  have key : ∀ (b : Nat) (cs : Array Value) (t : TypeId), w.heap[b]? = some (.cells cs t (0, 0)) → t ≠ 3 → t ≠ 24 → (w1.setCell ⟨N, 0, none⟩ (.slice (some ⟨g, 0, none⟩) (gs.length + 1) c)).heap[b]? = w.heap[b]? := fun b cs t hb h3 h24 => by
    have hbN : b ≠ N := by rintro rfl; rw [h.bn] at hb; simp at hb; exact h24 hb.2.symm
    rw [Below.heap_setCell _ _ _ _ hbN, hg.block b (lt_of_some hb) (gone_ne h.gone hb h3)]
  have hgN : N ≠ g := by
    rintro rfl
    exact gone_ne ho hn1 (by decide) rfl
  have hsz := h.size
  have hbz := h.hB
  have hsw := hg.size
  refine ⟨g, c, w1, hr, by simp [World.cell?, hn1], by simp [World.frozen?, hn1], ⟨?_, ?_, ?_, ?_, ?_, h.hN, h.hB, by simp; omega⟩, ?_⟩
  · have := set_block (o := 0) (x := .slice (some ⟨g, 0, none⟩) (gs.length + 1) c) hn1
    simpa using this
  · exact nrow_kept h.row (fun b cs hb => key b cs _ hb (by decide) (by decide))
  · exact h.nodes.kept fun i hi => key _ _ _ (h.nodes.blk i hi) (by decide) (by decide)
  · rw [List.length_append]
    exact ho.kept (setCell_grown w1 N 0 _) (.inr (by simp [Value.ownBlock]; exact fun e => hgN e.symm))
  · exact (h.below.grown hg (by omega) (fun j hj => by have := ownsRow_ge h.gone hj; omega)).setCell (p := ⟨N, 0, none⟩) h.hN _
  · intro b cs t hb ht
    rw [key b cs t hb (by rcases ht with rfl | rfl <;> decide) (by rcases ht with rfl | rfl <;> decide)]
    exact hb
theorem Nodes.inj {B : Nat} {w : World} {bs : List Nat} {ps : List Int} {qs : List Bool} (h : Nodes B w bs ps qs) {i j : Nat} (hi : i < bs.length) (hj : j < bs.length) (e : bs.getD i 0 = bs.getD j 0) : i = j := by
  have h1 := h.blk i hi
  have h2 := h.blk j hj
  rw [e, h2] at h1
  simp [nodeO] at h1
  omega
/-- A token goes off. -/
theorem DMem.mark {B : Nat} {w0 : World} {B0 N : Nat} {lv : Value} {bs : List Nat} {ps : List Int} {gv : Value} {qs : List Bool} {gs : List Int} {w : World} (h : DMem B w0 B0 N lv bs ps gv qs gs w) (i : Nat) (hi : i < bs.length) :
    DMem B w0 B0 N lv bs ps gv (qs.set i true) gs (w.setCell ⟨bs.getD i 0, 2, none⟩ (.bool true)) ∧ Stays w (w.setCell ⟨bs.getD i 0, 2, none⟩ (.bool true)) := by
  have hbi := h.nodes.blk i hi
  have hlq := h.nodes.lq
  have key : ∀ (b : Nat) (cs : Array Value) (t : TypeId), w.heap[b]? = some (.cells cs t (0, 0)) → t ≠ 60 → (w.setCell ⟨bs.getD i 0, 2, none⟩ (.bool true)).heap[b]? = w.heap[b]? := fun b cs t hb ht => by
    have hbN : b ≠ bs.getD i 0 := by rintro rfl; rw [hbi] at hb; simp [nodeO] at hb; exact ht hb.2.symm
    exact Below.heap_setCell _ _ _ _ hbN
  have hsz := h.size
  have hbz := h.hB
  refine ⟨⟨by rw [key N _ _ h.bn (by decide)]; exact h.bn, nrow_kept h.row (fun b cs hb => key b cs _ hb (by decide)), ⟨h.nodes.lp, by rw [List.length_set]; exact hlq, ?_, h.nodes.ge, h.nodes.par⟩, ?_, h.below.setCell (p := ⟨bs.getD i 0, 2, none⟩) (by have := h.nodes.ge i hi; simp only; omega) _, h.hN, h.hB, by simpa using hsz⟩, ?_⟩
  · intro j hj
    by_cases e : j = i
    · subst e
      have := set_block (o := 2) (x := .bool true) hbi
      rw [this]
      have e2 : (qs.set j true).getD j false = true := by rw [getD_set]; simp [hlq, hj]
      rw [e2]
      simp [nodeO]
    · have hne : bs.getD j 0 ≠ bs.getD i 0 := fun e' => e (h.nodes.inj hj hi e')
      have e2 : (qs.set i true).getD j false = qs.getD j false := by
        rw [getD_set, decide_eq_false (fun e' => e e'.symm)]; simp
      rw [Below.heap_setCell _ _ _ _ hne, h.nodes.blk j hj, e2]
  · refine h.gone.kept (setCell_grown w _ 2 _) ?_
    exact .inr (fun e => gone_ne h.gone hbi (by decide) e.symm)
  · intro b cs t hb ht
    rw [key b cs t hb (by rcases ht with rfl | rfl <;> decide)]
    exact hb
end Go.Proofs.Ytgklnpkeffobnaa
