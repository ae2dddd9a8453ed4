/-
  Walks of the specification's draws: tokens.
-/
import Derived.Test.YtgklnpkeffobnaaBB8
import Derived.Test.YtgklnpkeffobnaaE4
namespace Go.Proofs.Ytgklnpkeffobnaa
open Go.RowKit Pl Dr Il

/-- Tokens whose two lists are nil, or whole rows from block B on, apart from one another. -/
structure TokApp (B : Nat) (w : World) (v v' : Value) (ps : List Int) (qs : List Bool) : Prop where
  one : w.ownsRow B 3 1 v ps.length (ps.map (Value.int .i64))
  two : w.ownsRow B 4 1 v' qs.length (qs.map Value.bool)
  wf : wfL ps
theorem TokRows.app {B : Nat} {w : World} {g n c : Nat} {ps : List Int} {g' n' c' : Nat} {qs : List Bool} (h : TokRows B w g n c ps g' n' c' qs) (hw : wfL ps) : TokApp B w (.slice (some ⟨g, 0, none⟩) n c) (.slice (some ⟨g', 0, none⟩) n' c') ps qs := by
  have e1 := (owns_parts h.one).1
  have e2 := (ownsB_parts h.two).1
  exact ⟨by rw [e1]; exact h.one, by rw [e2]; exact h.two, hw⟩
theorem TokApp.tin {B : Nat} {w : World} {v v' : Value} {ps : List Int} {qs : List Bool} (h : TokApp B w v v' ps qs) : ∃ a c a' c', v = .slice a ps.length c ∧ v' = .slice a' qs.length c' ∧ TokIn w a ps.length ps a' qs.length qs := by
  obtain ⟨a, c, e, ho⟩ := own_of h.one ps rfl
  obtain ⟨a', c', e', ho'⟩ := own_ofB h.two qs rfl
  exact ⟨a, c, a', c', e, e', ho.ints, ho'.ints⟩
theorem ex_below {c B : Nat} {w w' : World} (h : Ex c w w') (hB : B ≤ c) (hw : B ≤ w.heap.size) : Below B w w' := h.below hB hw
theorem TokApp.ex {B c : Nat} {w w' : World} {v v' : Value} {ps : List Int} {qs : List Bool} (h : TokApp B w v v' ps qs) (hx : Ex c w w') (hc : c < B) : TokApp B w' v v' ps qs :=
  ⟨h.one.kept hx (by
      cases e : v.ownBlock with
      | none => exact .inl rfl
      | some k => right; have := (h.one.lt k e).1; intro e2; cases e2; omega),
   h.two.kept hx (by
      cases e : v'.ownBlock with
      | none => exact .inl rfl
      | some k => right; have := (h.two.lt k e).1; intro e2; cases e2; omega), h.wf⟩
theorem Drawn.keep {c : Nat} {a : Option Addr} {len cap : Nat} {w u u' : World} (h : Drawn c a len cap w u) (hb : Below u.heap.size u u') : Drawn c a len cap w u' := ⟨h.cur.keep hb, h.ex.trans (Ex.of hb)⟩
theorem new_wf {ps : List Int} {qs : List Bool} {x : Int} (h : wfL ps) (hx : (Lit.int .i64 x).wf = true) : wfL (newL ps qs x).1 := by
  unfold newL
  split
  · exact h
  · split
    · exact h
    · intro y hy
      rcases List.mem_append.1 hy with h' | h'
      · exact h y h'
      · rw [List.mem_singleton] at h'; subst h'; exact hx

/-- What a draw of tokens holds on to in its rounds: the variable at N holds tokens; the cursor; the result's variable. -/
structure TokVar (c : Nat) (a : Option Addr) (len cap : Nat) (w : World) (N : Nat) (ps : List Int) (qs : List Bool) (w' : World) : Prop where
  box : ∃ v v', Box2 N v v' w' ∧ TokApp w.heap.size w' v v' ps qs ∧ (∀ k, v.ownBlock = some k → k ≠ N) ∧ (∀ k, v'.ownBlock = some k → k ≠ N)
  dr : Drawn c a len cap w w'
  ge : w.heap.size ≤ N
end Go.Proofs.Ytgklnpkeffobnaa
