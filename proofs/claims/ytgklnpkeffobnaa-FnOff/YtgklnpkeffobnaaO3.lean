/-
  Walks of the specification's draws: any tokens, one of them perhaps made wrong.
-/
import Derived.Test.YtgklnpkeffobnaaO2
namespace Go.Proofs.Ytgklnpkeffobnaa
open Go.RowKit Pl Dr Il

/-- What a draw of tokens hands back. -/
def SomeTok (c : Nat) (a : Option Addr) (len cap : Nat) (w : World) (e : Ending) (w' : World) : Prop :=
  ∃ a1 n1 c1 a2 n2 c2 ps qs, e = .returned (.agg #[.slice a1 n1 c1, .slice a2 n2 c2]) ∧ TokOwn w.heap.size w' a1 n1 ps a2 n2 qs ∧ wfL ps ∧ n1 ≤ 24 ∧ n2 ≤ 24 ∧ Drawn c a len cap w w'
theorem TokApp.own {B : Nat} {w : World} {a1 a2 : Option Addr} {n1 c1 n2 c2 : Nat} {ps : List Int} {qs : List Bool} (h : TokApp B w (.slice a1 n1 c1) (.slice a2 n2 c2) ps qs) : TokOwn B w a1 n1 ps a2 n2 qs := by
  obtain ⟨_, _, e1, o1⟩ := own_of h.one ps rfl
  cases e1
  obtain ⟨_, _, e2, o2⟩ := own_ofB h.two qs rfl
  cases e2
  refine ⟨o1, o2, .inr (.inr fun b off b' off' e e' => ?_)⟩
  subst e e'
  rcases rows_ne h.one h.two with e | e
  · simp [Value.ownBlock] at e
  · simpa [Value.ownBlock] using e
theorem TokApp.len {B : Nat} {w : World} {a1 a2 : Option Addr} {n1 c1 n2 c2 : Nat} {ps : List Int} {qs : List Bool} (h : TokApp B w (.slice a1 n1 c1) (.slice a2 n2 c2) ps qs) : ps.length = n1 ∧ qs.length = n2 := by
  obtain ⟨_, _, _, _, e1, e2, _⟩ := h.tin
  cases e1
  cases e2
  exact ⟨rfl, rfl⟩
/-- The tokens are handed back as they lie in the variable. -/
theorem TokU.back {c : Nat} {a : Option Addr} {len cap : Nat} {w : World} {N : Nat} {a1 a2 : Option Addr} {n1 c1 n2 c2 : Nat} {ps : List Int} {qs : List Bool} {u : World} (h : TokU c a len cap w w.heap.size N (.slice a1 n1 c1) (.slice a2 n2 c2) ps qs u) (h1 : n1 ≤ 24) (h2 : n2 ≤ 24) :
    SomeTok c a len cap w (.returned (.agg #[.slice a1 n1 c1, .slice a2 n2 c2])) ((u.setCell ⟨w.heap.size, 0, none⟩ (.slice a1 n1 c1)).setCell ⟨w.heap.size, 1, none⟩ (.slice a2 n2 c2)) := by
  have b1 : (u.setCell ⟨w.heap.size, 0, none⟩ (.slice a1 n1 c1)).heap[w.heap.size]? = some (tokO (.slice a1 n1 c1) (.slice none 0 0)) := by
    have := set_block (o := 0) (x := Value.slice a1 n1 c1) h.res
    simpa [tokO] using this
  have hA := (h.app.grown h.res (setCell_grown u w.heap.size 0 (.slice a1 n1 c1))).grown b1 (setCell_grown _ w.heap.size 1 (.slice a2 n2 c2))
  have hD := (h.dr.store h.cur ⟨w.heap.size, 0, none⟩ (Nat.le_refl _) (.slice a1 n1 c1)).store h.cur ⟨w.heap.size, 1, none⟩ (Nat.le_refl _) (.slice a2 n2 c2)
  exact ⟨_, _, _, _, _, _, ps, qs, rfl, hA.own, h.app.wf, h1, h2, hD⟩
theorem set_map_int (xs : List Int) (i : Nat) (x : Int) : (xs.map (Value.int .i64)).set i (.int .i64 x) = (xs.set i x).map (Value.int .i64) := by rw [List.map_set]
theorem set_map_bool (xs : List Bool) (i : Nat) (x : Bool) : (xs.map Value.bool).set i (.bool x) = (xs.set i x).map Value.bool := by rw [List.map_set]
theorem wf_set {xs : List Int} {i : Nat} {x : Int} (h : wfL xs) (hx : (Lit.int .i64 x).wf = true) : wfL (xs.set i x) := fun y hy => by
  rcases List.mem_or_eq_of_mem_set hy with h' | h'
  · exact h y h'
  · subst h'; exact hx
theorem Drawn.storeRow {c : Nat} {a : Option Addr} {len cap : Nat} {w u : World} (h : Drawn c a len cap w u) (hC : Cur c a len cap w) (g o : Nat) (hg : w.heap.size ≤ g) (x : Value) : Drawn c a len cap w (u.setCell ⟨g, o, none⟩ x) := h.store hC ⟨g, o, none⟩ hg x
/-- A parent is written over. -/
theorem TokU.setP {c : Nat} {a : Option Addr} {len cap : Nat} {w : World} {R N : Nat} {g m k : Nat} {v' : Value} {ps : List Int} {qs : List Bool} {u : World} (h : TokU c a len cap w R N (.slice (some ⟨g, 0, none⟩) m k) v' ps qs u) (i : Nat) (x : Int) (hx : (Lit.int .i64 x).wf = true) :
    TokU c a len cap w R N (.slice (some ⟨g, 0, none⟩) m k) v' (ps.set i x) qs (u.setCell ⟨g, i, none⟩ (.int .i64 x)) := by
  have hNg : N ≠ g := fun e => row_ne h.app.one h.blk (by decide) (by rw [e]; rfl)
  have hRg : R ≠ g := fun e => row_ne h.app.one h.res (by decide) (by rw [e]; rfl)
  obtain ⟨a', c', e', _⟩ := own_of h.app.one ps rfl
  have hl : ps.length = m := by cases e'; rfl
  have h1 := h.app.one
  rw [hl] at h1
  have hs := h1.stored i (.int .i64 x)
  rw [set_map_int] at hs
  refine ⟨by rw [Below.heap_setCell _ _ _ _ hNg]; exact h.blk, by rw [Below.heap_setCell _ _ _ _ hRg]; exact h.res, ⟨by rw [List.length_set, hl]; exact hs.1, h.app.two.kept (setCell_grown u g i _) ?_, wf_set h.app.wf hx⟩, h.dr.storeRow h.cur g i (ownsRow_ge h.app.one rfl) _, h.cur, h.ge, h.geR, h.ne⟩
  rcases rows_ne h.app.one h.app.two with e | e
  · simp [Value.ownBlock] at e
  · exact .inr (fun e' => e e'.symm)
/-- Whether one is off is written over. -/
theorem TokU.setQ {c : Nat} {a : Option Addr} {len cap : Nat} {w : World} {R N : Nat} {g m k : Nat} {v : Value} {ps : List Int} {qs : List Bool} {u : World} (h : TokU c a len cap w R N v (.slice (some ⟨g, 0, none⟩) m k) ps qs u) (i : Nat) (x : Bool) :
    TokU c a len cap w R N v (.slice (some ⟨g, 0, none⟩) m k) ps (qs.set i x) (u.setCell ⟨g, i, none⟩ (.bool x)) := by
  have hNg : N ≠ g := fun e => row_ne h.app.two h.blk (by decide) (by rw [e]; rfl)
  have hRg : R ≠ g := fun e => row_ne h.app.two h.res (by decide) (by rw [e]; rfl)
  obtain ⟨a', c', e', _⟩ := own_ofB h.app.two qs rfl
  have hl : qs.length = m := by cases e'; rfl
  have h1 := h.app.two
  rw [hl] at h1
  have hs := h1.stored i (.bool x)
  rw [set_map_bool] at hs
  refine ⟨by rw [Below.heap_setCell _ _ _ _ hNg]; exact h.blk, by rw [Below.heap_setCell _ _ _ _ hRg]; exact h.res, ⟨h.app.one.kept (setCell_grown u g i _) ?_, by rw [List.length_set, hl]; exact hs.1, h.app.wf⟩, h.dr.storeRow h.cur g i (ownsRow_ge h.app.two rfl) _, h.cur, h.ge, h.geR, h.ne⟩
  exact rows_ne h.app.one h.app.two
theorem Il.OwnB.drop {B : Nat} {w : World} {g off n : Nat} {qs : List Bool} (h : Il.OwnB B w (some ⟨g, off, none⟩) n qs) (i : Nat) (hi : i ≤ n) : Il.OwnB B w (some ⟨g, off + i, none⟩) (n - i) (qs.drop i) := by
  refine ⟨h.ints.drop i hi, ?_⟩
  rcases h.own with h0 | ⟨b, o, e, hB, hf⟩
  · exact .inl (by omega)
  · cases e
    exact .inr ⟨g, off + i, rfl, hB, fun j hj => by rw [Nat.add_assoc]; exact hf (i + j) (by omega)⟩
/-- The first that says whether one is off is cut away. -/
theorem TokU.back1 {c : Nat} {a : Option Addr} {len cap : Nat} {w : World} {N : Nat} {a1 : Option Addr} {g n1 c1 m k k2 : Nat} {a2 : Option Addr} {ps : List Int} {qs : List Bool} {u : World} (h : TokU c a len cap w w.heap.size N (.slice a1 n1 c1) (.slice (some ⟨g, 0, none⟩) m k) ps qs u) (h1 : n1 ≤ 24) (h2 : m ≤ 24) (hm : 0 < m) (ha : m = 1 ∨ a2 = some ⟨g, 1, none⟩) :
    SomeTok c a len cap w (.returned (.agg #[.slice a1 n1 c1, .slice a2 (m - 1) k2])) (((u.setCell ⟨N, 1, none⟩ (.slice a2 (m - 1) k2)).setCell ⟨w.heap.size, 0, none⟩ (.slice a1 n1 c1)).setCell ⟨w.heap.size, 1, none⟩ (.slice a2 (m - 1) k2)) := by
  have b0 : (u.setCell ⟨N, 1, none⟩ (.slice a2 (m - 1) k2)).heap[w.heap.size]? = some (tokO (.slice none 0 0) (.slice none 0 0)) := by rw [Below.heap_setCell _ _ _ _ h.ne]; exact h.res
  have b1 : ((u.setCell ⟨N, 1, none⟩ (.slice a2 (m - 1) k2)).setCell ⟨w.heap.size, 0, none⟩ (.slice a1 n1 c1)).heap[w.heap.size]? = some (tokO (.slice a1 n1 c1) (.slice none 0 0)) := by
    have := set_block (o := 0) (x := Value.slice a1 n1 c1) b0
    simpa [tokO] using this
  have hA := ((h.app.grown h.blk (setCell_grown u N 1 (.slice a2 (m - 1) k2))).grown b0 (setCell_grown _ w.heap.size 0 (.slice a1 n1 c1))).grown b1 (setCell_grown _ w.heap.size 1 (.slice a2 (m - 1) k2))
  have hD := ((h.dr.store h.cur ⟨N, 1, none⟩ h.ge (.slice a2 (m - 1) k2)).store h.cur ⟨w.heap.size, 0, none⟩ (Nat.le_refl _) (.slice a1 n1 c1)).store h.cur ⟨w.heap.size, 1, none⟩ (Nat.le_refl _) (.slice a2 (m - 1) k2)
  have hO := hA.own
  rcases ha with rfl | rfl
  · exact ⟨_, _, _, _, _, _, ps, [], rfl, ⟨hO.one, ⟨⟨rfl, .inl rfl⟩, .inl rfl⟩, .inr (.inl rfl)⟩, h.app.wf, h1, by omega, hD⟩
  · refine ⟨_, _, _, _, _, _, ps, qs.drop 1, rfl, ⟨hO.one, ?_, ?_⟩, h.app.wf, h1, by omega, hD⟩
    · have := hO.two.drop 1 hm
      rwa [Nat.zero_add] at this
    · rcases hO.apart with e | e | e
      · exact .inl e
      · omega
      · exact .inr (.inr fun b off b' off' e1 e2 => by cases e2; exact e b off g 0 e1 rfl)
end Go.Proofs.Ytgklnpkeffobnaa
