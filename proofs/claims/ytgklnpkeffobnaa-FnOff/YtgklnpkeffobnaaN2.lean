/-
  The program's tokens: the list of nodes is made.
-/
import Derived.Test.YtgklnpkeffobnaaN1
namespace Go.Proofs.Ytgklnpkeffobnaa
open Go.RowKit Pl Il

/-- Is a token born beneath p off? -/
def bornQ (qs : List Bool) (p : Int) : Bool := decide (0 ≤ p) && qs.getD p.toNat false
/-- The nodes of right tokens, in blocks from B on. -/
structure Nodes (B : Nat) (w : World) (bs : List Nat) (ps : List Int) (qs : List Bool) : Prop where
  lp : ps.length = bs.length
  lq : qs.length = bs.length
  blk : ∀ i, i < bs.length → w.heap[bs.getD i 0]? = some (nodeO i (parV bs (ps.getD i 0)) (qs.getD i false))
  ge : ∀ i, i < bs.length → B ≤ bs.getD i 0
  par : ∀ i, i < bs.length → -1 ≤ ps.getD i 0 ∧ ps.getD i 0 ≤ (i : Int) - 1
theorem lt_of_some {w : World} {b : Nat} {o : Obj} (h : w.heap[b]? = some o) : b < w.heap.size := by
  rcases Nat.lt_or_ge b w.heap.size with k | k
  · exact k
  · rw [Array.getElem?_eq_none k] at h; cases h
theorem Nodes.lt {B : Nat} {w : World} {bs : List Nat} {ps : List Int} {qs : List Bool} (h : Nodes B w bs ps qs) (i : Nat) (hi : i < bs.length) : bs.getD i 0 < w.heap.size := lt_of_some (h.blk i hi)
theorem Nodes.kept {B : Nat} {w w' : World} {bs : List Nat} {ps : List Int} {qs : List Bool} (h : Nodes B w bs ps qs) (hk : ∀ i, i < bs.length → w'.heap[bs.getD i 0]? = w.heap[bs.getD i 0]?) : Nodes B w' bs ps qs :=
  ⟨h.lp, h.lq, fun i hi => by rw [hk i hi]; exact h.blk i hi, h.ge, h.par⟩
theorem Nodes.keep {B : Nat} {w w' : World} {bs : List Nat} {ps : List Int} {qs : List Bool} (h : Nodes B w bs ps qs) (hb : Below w.heap.size w w') : Nodes B w' bs ps qs := h.kept fun i hi => hb.block _ (h.lt i hi)
theorem Nodes.mono {B B' : Nat} {w : World} {bs : List Nat} {ps : List Int} {qs : List Bool} (h : Nodes B w bs ps qs) (hB : B' ≤ B) : Nodes B' w bs ps qs := ⟨h.lp, h.lq, h.blk, fun i hi => Nat.le_trans hB (h.ge i hi), h.par⟩
theorem NRow.mono {B B' : Nat} {w : World} {v : Value} {bs : List Nat} (h : NRow B w v bs) (hB : B' ≤ B) : NRow B' w v bs := by
  obtain ⟨hl, hn | ⟨g, cap, cur, e, hb, hr⟩⟩ := h
  · exact ⟨hl, .inl hn⟩
  · exact ⟨hl, .inr ⟨g, cap, cur, e, Nat.le_trans hB hb, hr⟩⟩
/-- The row of the list is no node. -/
theorem NRow.ne {B : Nat} {w : World} {v : Value} {bs : List Nat} (h : NRow B w v bs) {b i : Nat} {pv : Value} {q : Bool} (hb : w.heap[b]? = some (nodeO i pv q)) : v.ownBlock ≠ some b := by
  intro e
  obtain ⟨hl, ⟨rfl, _⟩ | ⟨g, cap, cur, rfl, _, hg, _⟩⟩ := h
  · simp [Value.ownBlock] at e
  · simp [Value.ownBlock] at e
    subst e
    rw [hb] at hg
    simp [nodeO] at hg
theorem NRow.size {B : Nat} {w : World} {v : Value} {bs : List Nat} (h : NRow B w v bs) : v.ownBlock ≠ some w.heap.size := by
  intro e
  have := (World.ownsRow.lt h _ e).2
  omega
theorem parV_more {bs : List Nat} {b : Nat} {p : Int} (h1 : -1 ≤ p) (h2 : p ≤ (bs.length : Int) - 1) : parV (bs ++ [b]) p = parV bs p := by
  unfold parV
  by_cases e : p = -1
  · simp [e]
  · rw [if_neg e, if_neg e]
    congr 1
    simp only [List.getD]
    rw [List.getElem?_append_left (by omega)]
theorem getD_left {α : Type} {xs : List α} {y d : α} {i : Nat} (h : i < xs.length) : (xs ++ [y]).getD i d = xs.getD i d := by
  simp only [List.getD]
  rw [List.getElem?_append_left h]
theorem getD_last {α : Type} {xs : List α} {y d : α} : (xs ++ [y]).getD xs.length d = y := by simp [List.getD]
theorem Nodes.push {B : Nat} {w w2 : World} {v : Value} {bs : List Nat} {ps : List Int} {qs : List Bool} {p : Int} {y : Bool} (h : Nodes B w bs ps qs) (hr : NRow B w v bs) (hB : B ≤ w.heap.size) (h1 : -1 ≤ p) (h2 : p ≤ (bs.length : Int) - 1)
    (hg : (w.alloc (nodeO bs.length (parV bs p) y)).grownBy w2 v.ownBlock) : Nodes B w2 (bs ++ [w.heap.size]) (ps ++ [p]) (qs ++ [y]) := by
  have key : ∀ i, i < bs.length → w2.heap[bs.getD i 0]? = w.heap[bs.getD i 0]? := fun i hi => by
    have hlt := h.lt i hi
    rw [hg.block (bs.getD i 0) (Nat.lt_of_lt_of_le hlt (by simp)) (fun e => hr.ne (h.blk i hi) e.symm)]
    exact Below.heap_alloc _ _ _ (by omega)
  have knew : w2.heap[w.heap.size]? = some (nodeO bs.length (parV bs p) y) := by
    rw [hg.block w.heap.size (by simp) (fun e => hr.size e.symm)]
    exact heap_alloc_new _ _
  have hl : (bs ++ [w.heap.size]).length = bs.length + 1 := by simp
  have hlp := h.lp
  have hlq := h.lq
  refine ⟨by simp [hlp], by simp [hlq], ?_, ?_, ?_⟩
  · intro i hi
    rw [hl] at hi
    by_cases e : i = bs.length
    · subst e
      rw [getD_last, knew, ← hlp, getD_last, hlp, ← hlq, getD_last, parV_more h1 h2]
    · have hi' : i < bs.length := by omega
      obtain ⟨h3, h4⟩ := h.par i hi'
      rw [getD_left hi', getD_left (by omega), getD_left (by omega), key i hi', h.blk i hi', parV_more h3 (by omega)]
  · intro i hi
    rw [hl] at hi
    by_cases e : i = bs.length
    · subst e; rw [getD_last]; exact hB
    · rw [getD_left (by omega)]; exact h.ge i (by omega)
  · intro i hi
    rw [hl] at hi
    by_cases e : i = bs.length
    · subst e; rw [← hlp, getD_last]; omega
    · rw [getD_left (by omega)]; exact h.par i (by omega)

/-- One more node in the list. -/
theorem append_node (B : Nat) (v : Value) (bs : List Nat) (b : Nat) (w : World) (ho : NRow B w v bs) (hB : B ≤ w.heap.size) (hs : bs.length + 1 ≤ 4194304) :
    ∃ (g' c' : Nat) (w' : World), (Builtin.append_ #[51, 51] 51 #[v, .slice (some ⟨w.heap.size, 0, none⟩) 1 1]).run Try.prog (w.alloc (.cells #[nodeP b] 55)) = .ok (.slice (some ⟨g', 0, none⟩) (bs.length + 1) c') w' ∧
      NRow B w' (.slice (some ⟨g', 0, none⟩) (bs.length + 1) c') (bs ++ [b]) ∧ w.grownBy w' v.ownBlock := by
  obtain ⟨i, hi, hz0, hz1, hz2⟩ := info_parts infoNP
  obtain ⟨g', c', w', hr, hown, hgrow, hl, _⟩ := run_append_lies (P := Try.prog) (w.alloc (.cells #[nodeP b] 55)) 51 51 B 55 i (.pointer none) 1 8 Try.underlying51 hi hz0 hz1 hz2 rfl (by omega) v bs.length _ (ho.alloc _) ⟨w.heap.size, 0, none⟩ 1 1 [nodeP b] rfl
    (cell_one_new _ _ _) (fun u hu => by rw [List.mem_singleton] at hu; subst hu; rfl) (by omega) (by unfold maxLen; omega) (by omega) (by simp; omega) _ rfl
  refine ⟨g', c', w', hr, ?_, (World.grownBy_alloc w _ _).trans hgrow⟩
  unfold NRow
  rw [List.map_append, List.length_append]
  exact hown

theorem born_ok {B : Nat} {w : World} {a : Option Addr} {c : Nat} {bs : List Nat} {ps : List Int} {qs : List Bool} (p : Int) (hr : NRow B w (.slice a bs.length c) bs) (h : Nodes B w bs ps qs) (h1 : -1 ≤ p) (h2 : p ≤ (bs.length : Int) - 1) :
    Calls Try.prog 46 #[.slice a bs.length c, .int .i64 p] w fun e w' => e = .returned (.tuple #[nodeP w.heap.size, .bool true]) ∧ w' = w.alloc (nodeO bs.length (parV bs p) (bornQ qs p)) := by
  by_cases e : p = -1
  · subst e
    exact born_top a bs.length c w
  · obtain ⟨k, rfl⟩ := Int.eq_ofNat_of_zero_le (show 0 ≤ p by omega)
    obtain ⟨a', c', e', h0 | ⟨g, ea, hB, hg, hc⟩⟩ := hr.parts
    · omega
    · cases e'
      subst ea
      have := born_under g bs.length c k (bs.getD k 0) k _ _ w (by omega) hg (hc k (by omega)) (h.blk k (by omega))
      have ep : parV bs (k : Int) = nodeP (bs.getD k 0) := by unfold parV; rw [if_neg e, Int.toNat_natCast]
      have eq : bornQ qs (k : Int) = qs.getD k false := by simp [bornQ]
      rw [ep, eq]
      exact this

theorem born_take {qs : List Bool} {k : Nat} {p : Int} (h : p ≤ (k : Int) - 1) : bornQ (qs.take k) p = bornQ qs p := by
  unfold bornQ
  by_cases h0 : 0 ≤ p
  · simp only [List.getD]
    rw [List.getElem?_take_of_lt (by omega)]
  · simp [h0]
theorem tok_at {ps : List Int} {qs : List Bool} {k : Nat} {p : Int} {y : Bool} (hp : ps.getD k 0 = p) (hy : qs.getD k false = y) (h1 : -1 ≤ p) (h2 : p ≤ (k : Int) - 1) : tokAt ps qs k = !(bornQ qs p && !y) := by
  unfold tokAt bornQ
  rw [hp, hy, decide_eq_true h1, decide_eq_true h2]
  simp
theorem tok_no {ps : List Int} {qs : List Bool} {k : Nat} {p : Int} (hp : ps.getD k 0 = p) (h : p < -1 ∨ (k : Int) ≤ p) : tokAt ps qs k = false := by
  refine tok_out hp ?_
  rcases h with h | h
  · rw [decide_eq_false (by omega)]; rfl
  · rw [decide_eq_false (p := p ≤ (k : Int) - 1) (by omega)]; simp
theorem take_more {α : Type} {xs : List α} {k : Nat} {d y : α} (hk : k < xs.length) (hy : xs.getD k d = y) : xs.take k ++ [y] = xs.take (k + 1) := by
  rw [List.take_succ_eq_append_getElem hk, ← hy]
  simp [List.getD, List.getElem?_eq_getElem hk]

/-- What is known when k tokens have become nodes. -/
structure NTo (B : Nat) (W0 : World) (ps : List Int) (qs : List Bool) (k : Nat) (v : Value) (bs : List Nat) (wr : World) : Prop where
  len : bs.length = k
  row : NRow B wr v bs
  nodes : Nodes B wr bs (ps.take k) (qs.take k)
  ok : tokTo ps qs k = true
  below : Below W0.heap.size W0 wr
theorem NTo.step {B : Nat} {W0 : World} {ps : List Int} {qs : List Bool} {k : Nat} {v : Value} {bs : List Nat} {wr : World} (h : NTo B W0 ps qs k v bs wr) (hB : B = W0.heap.size) (hk : k < ps.length) (hk' : k < qs.length) (hs : k ≤ 24) {p : Int} {y : Bool} (hp : ps.getD k 0 = p) (hy : qs.getD k false = y)
    (h1 : -1 ≤ p) (h2 : p ≤ (k : Int) - 1) (hok : (bornQ qs p && !y) = false) : ∃ (g' c' : Nat) (w' : World),
    (Builtin.append_ #[51, 51] 51 #[v, .slice (some ⟨wr.heap.size + 1, 0, none⟩) 1 1]).run Try.prog ((wr.alloc (nodeO k (parV bs p) y)).alloc (.cells #[nodeP wr.heap.size] 55)) = .ok (.slice (some ⟨g', 0, none⟩) (k + 1) c') w' ∧
      NTo B W0 ps qs (k + 1) (.slice (some ⟨g', 0, none⟩) (k + 1) c') (bs ++ [wr.heap.size]) w' := by
  obtain ⟨rfl, hr, hn, ht, hb⟩ := h
  subst hB
  have hle := hb.size
  have hb1 : Below wr.heap.size wr (wr.alloc (nodeO bs.length (parV bs p) y)) := bl_alloc (Below.refl _ _) _
  obtain ⟨g', c', w', hrun, hrow, hg⟩ := append_node W0.heap.size v bs wr.heap.size (wr.alloc (nodeO bs.length (parV bs p) y)) (hr.keep hb1) (by simp; omega) (by omega)
  have hP := hn.push hr hle h1 h2 hg
  rw [take_more hk hp, take_more hk' hy] at hP
  refine ⟨g', c', w', by simpa using hrun, by simp, hrow, hP, tokTo_step ht (by rw [tok_at hp hy h1 h2, hok]; rfl), (bl_alloc hb _).grown hg (by simp; omega) (fun j hj => (World.ownsRow.lt hr j hj).1)⟩
theorem NTo.form {B : Nat} {W0 : World} {ps : List Int} {qs : List Bool} {k : Nat} {v : Value} {bs : List Nat} {wr : World} (h : NTo B W0 ps qs k v bs wr) : ∃ a c, v = .slice a k c := by
  obtain ⟨a, c, e, _⟩ := h.row.parts
  exact ⟨a, c, by rw [e, h.len]⟩
theorem NTo.born {B : Nat} {W0 : World} {ps : List Int} {qs : List Bool} {k : Nat} {a : Option Addr} {c : Nat} {bs : List Nat} {wr : World} (h : NTo B W0 ps qs k (.slice a k c) bs wr) (p : Int) (h1 : -1 ≤ p) (h2 : p ≤ (k : Int) - 1) :
    Calls Try.prog 46 #[.slice a k c, .int .i64 p] wr fun e w' => e = .returned (.tuple #[nodeP wr.heap.size, .bool true]) ∧ w' = wr.alloc (nodeO k (parV bs p) (bornQ qs p)) := by
  obtain ⟨rfl, hr, hn, _, _⟩ := h
  have := born_ok p hr hn h1 h2
  rw [born_take h2] at this
  exact this
end Go.Proofs.Ytgklnpkeffobnaa
