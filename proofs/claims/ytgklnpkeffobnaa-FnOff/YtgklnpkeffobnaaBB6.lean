/-
  Walks of the specification's tokens: a copy.
-/
import Derived.Test.YtgklnpkeffobnaaBB5
import Derived.Test.YtgklnpkeffobnaaBA
import Derived.Deep.Upon
import Derived.Deep.RegionHeld3
namespace Go.Proofs.Ytgklnpkeffobnaa
open Go.RowKit Pl Il

/-- What an append to an owned row of truth values leaves. -/
def OnRow (B : Nat) (W : World) (g n : Nat) (qs : List Bool) (v : Value) (W' : World) : Prop := ∃ g' c', v = .slice (some ⟨g', 0, none⟩) n c' ∧ OwnsB B W' g' n c' qs ∧ W.grownBy W' (some g) ∧ (g' = g ∨ g' = W.heap.size)
theorem append_empty_ex (B g : Nat) (a : Option Addr) (n cap : Nat) (qs : List Bool) (W : World) (ho : OwnsB B W g 0 0 []) (hB : B ≤ W.heap.size) (hI : BoolsAt W a n qs) (hn : n ≤ 2097152) : ∃ v' w',
    (Builtin.append_ #[25, 25] 25 #[.slice (some ⟨g, 0, none⟩) 0 0, .slice a n cap]).run Try.prog W = .ok v' w' ∧ OnRow B W g n qs v' w' := by
  obtain ⟨g', c', W', h1, h2, h3, h4⟩ := append_bools2 B g 0 0 [] a n cap qs W ho hB hI (by omega)
  rw [Nat.zero_add] at h1 h2
  rw [List.nil_append] at h2
  exact ⟨_, _, h1, g', c', rfl, h2, h3, h4⟩
theorem owns_far {B : Nat} {w : World} {g n cap : Nat} {xs : List Int} (h : Owns B w g n cap xs) (b o : Nat) (hb : b < B) (x : Value) : Owns B (w.setCell ⟨b, o, none⟩ x) g n cap xs :=
  World.ownsRow.kept h (row := some b) ⟨rfl, rfl, rfl, by simp, fun k _ hk => Below.heap_setCell _ _ _ _ (by rintro rfl; exact hk rfl)⟩ (.inr (by have := (owns_parts h).2.1; simp [Value.ownBlock]; omega))
theorem ownsB_far {B : Nat} {w : World} {g n cap : Nat} {xs : List Bool} (h : OwnsB B w g n cap xs) (b o : Nat) (hb : b < B) (x : Value) : OwnsB B (w.setCell ⟨b, o, none⟩ x) g n cap xs :=
  World.ownsRow.kept h (row := some b) ⟨rfl, rfl, rfl, by simp, fun k _ hk => Below.heap_setCell _ _ _ _ (by rintro rfl; exact hk rfl)⟩ (.inr (by have := (ownsB_parts h).2.1; simp [Value.ownBlock]; omega))
/-- Tokens whose two lists are whole rows of the call's own, apart from one another. -/
structure TokRows (B : Nat) (w : World) (g n c : Nat) (ps : List Int) (g' n' c' : Nat) (qs : List Bool) : Prop where
  one : Owns B w g n c ps
  two : OwnsB B w g' n' c' qs
  ne : g ≠ g'
theorem TokRows.keep {B : Nat} {w w' : World} {g n c : Nat} {ps : List Int} {g' n' c' : Nat} {qs : List Bool} (h : TokRows B w g n c ps g' n' c' qs) (hb : Below w.heap.size w w') : TokRows B w' g n c ps g' n' c' qs := ⟨owns_keep h.one hb, ownsB_keep h.two hb, h.ne⟩
theorem TokRows.mono {B B' : Nat} {w : World} {g n c : Nat} {ps : List Int} {g' n' c' : Nat} {qs : List Bool} (h : TokRows B w g n c ps g' n' c' qs) (hB : B' ≤ B) : TokRows B' w g n c ps g' n' c' qs := ⟨owns_mono h.one hB, ownsB_mono h.two hB, h.ne⟩
theorem TokRows.far {B : Nat} {w : World} {g n c : Nat} {ps : List Int} {g' n' c' : Nat} {qs : List Bool} (h : TokRows B w g n c ps g' n' c' qs) (b o : Nat) (hb : b < B) (x : Value) : TokRows B (w.setCell ⟨b, o, none⟩ x) g n c ps g' n' c' qs := ⟨owns_far h.one b o hb x, ownsB_far h.two b o hb x, h.ne⟩
theorem TokRows.own {B : Nat} {w : World} {g n c : Nat} {ps : List Int} {g' n' c' : Nat} {qs : List Bool} (h : TokRows B w g n c ps g' n' c' qs) : TokOwn B w (some ⟨g, 0, none⟩) n ps (some ⟨g', 0, none⟩) n' qs :=
  ⟨(owns_parts h.one).2.2.2.2.2, (ownsB_parts h.two).2.2.2.2.2, .inr (.inr fun b off b' off' e e' => by cases e; cases e'; exact h.ne)⟩

/-- At a step of a region that draws: an append whose run is known to end. -/
theorem step_append_ex {P : Program} {ops : Array Oper} {o : Oper} {a : Act} {w : World} {K : Act → World → Prop} {Q : Exit → Act → World → Prop} {E : Prop} {R : Value → World → Prop} (hgd : o.guard = none) (s x : Operand) (t : TypeId)
    (ho : o.op = .call { callee := .builtin .append, args := #[s, x], argTypes := #[t, t] }) (v u : Value) (hs : a.eval s = v) (hx : a.eval x = u)
    (hr : ∃ v' w', (Builtin.append_ #[t, t] o.type #[v, u]).run P w = .ok v' w' ∧ R v' w') (h : ∀ v' w', R v' w' → K (a.put o.dst v') w') :
    if Region.wanted o (yielded ops a.tmps) = true then Oper.wp P o a w K Q else E := by
  have hw : Region.wanted o (yielded ops a.tmps) = true := by simp [Region.wanted, hgd]
  rw [if_pos hw]
  obtain ⟨v', w', hrun, hR⟩ := hr
  unfold Oper.wp execOp
  simp only [ho, resolve, invoke, builtin, Sem.run_bind, Sem.run_pure, Result.andThen_ok, List.map_toArray, List.map_cons, List.map_nil, hs, hx, hrun]
  exact h v' w' hR

/-- What the copy of tokens holds on to: the argument's variable, and all that was there ahead. -/
abbrev CopyS (w : World) (v0 v1 : Value) (w' : World) : Prop :=
  w'.cell? ⟨w.heap.size, 0, none⟩ = some v0 ∧ w'.cell? ⟨w.heap.size, 1, none⟩ = some v1 ∧ w.heap.size + 2 ≤ w'.heap.size ∧ Below w.heap.size w w'
theorem CopyS.keep {w : World} {v0 v1 : Value} {u u' : World} (h : CopyS w v0 v1 u) (hb : Below u.heap.size u u') : CopyS w v0 v1 u' := by
  obtain ⟨h0, h1, h6, h7⟩ := h
  exact ⟨by rw [hb.cell (p := ⟨w.heap.size, 0, none⟩) (by simp; omega)]; exact h0, by rw [hb.cell (p := ⟨w.heap.size, 1, none⟩) (by simp; omega)]; exact h1, Nat.le_trans h6 hb.size, bl_trans h7 hb⟩
theorem CopyS.drew {w : World} {v0 v1 : Value} {u : World} (h : CopyS w v0 v1 u) : CopyS w v0 v1 u.drew := h.keep (Below.refl _ _).drew
theorem CopyS.alloc {w : World} {v0 v1 : Value} {u : World} (h : CopyS w v0 v1 u) (o : Obj) : CopyS w v0 v1 (u.alloc o) := h.keep (bl_alloc (Below.refl _ _) o)
theorem CopyS.store {w : World} {v0 v1 : Value} {u : World} (h : CopyS w v0 v1 u) (x y : Value) : CopyS w v0 v1 ((u.setCell ⟨w.heap.size + 1, 0, none⟩ x).setCell ⟨w.heap.size + 1, 1, none⟩ y) := by
  obtain ⟨h0, h1, h6, h7⟩ := h
  refine ⟨?_, ?_, by simpa using h6, (h7.setCell (p := ⟨w.heap.size + 1, 0, none⟩) (by simp) x).setCell (p := ⟨w.heap.size + 1, 1, none⟩) (by simp) y⟩
  · rw [World.cell?_setCell_other _ _ _ _ (by simp), World.cell?_setCell_other _ _ _ _ (by simp)]; exact h0
  · rw [World.cell?_setCell_other _ _ _ _ (by simp), World.cell?_setCell_other _ _ _ _ (by simp)]; exact h1
theorem CopyS.grown {w : World} {v0 v1 : Value} {u u' : World} {g : Nat} (h : CopyS w v0 v1 u) (hg : u.grownBy u' (some g)) (hge : w.heap.size + 2 ≤ g) : CopyS w v0 v1 u' := by
  obtain ⟨h0, h1, h6, h7⟩ := h
  have key : u'.heap[w.heap.size]? = u.heap[w.heap.size]? := hg.block _ (by omega) (by simp; omega)
  exact ⟨by rw [← h0]; exact World.cell?_of_block key, by rw [← h1]; exact World.cell?_of_block key, Nat.le_trans h6 hg.size, h7.grown hg h7.size (fun j hj => by cases hj; omega)⟩
/-- The result's variable, not yet written. -/
abbrev CopyR (N : Nat) (w' : World) : Prop :=
  w'.cell? ⟨N, 0, none⟩ = some (.slice none 0 0) ∧ w'.cell? ⟨N, 1, none⟩ = some (.slice none 0 0) ∧ w'.frozen? ⟨N, 0, none⟩ = false ∧ w'.frozen? ⟨N, 1, none⟩ = false ∧ N < w'.heap.size
theorem CopyR.keep {N : Nat} {u u' : World} (h : CopyR N u) (hb : Below u.heap.size u u') : CopyR N u' := by
  obtain ⟨h2, h3, h4, h5, h6⟩ := h
  exact ⟨by rw [hb.cell (p := ⟨N, 0, none⟩) h6]; exact h2, by rw [hb.cell (p := ⟨N, 1, none⟩) h6]; exact h3,
    by rw [hb.frozen (p := ⟨N, 0, none⟩) h6]; exact h4, by rw [hb.frozen (p := ⟨N, 1, none⟩) h6]; exact h5, Nat.lt_of_lt_of_le h6 hb.size⟩
theorem CopyR.grown {N : Nat} {u u' : World} {g : Nat} (h : CopyR N u) (hg : u.grownBy u' (some g)) (hge : N < g) : CopyR N u' := by
  obtain ⟨h2, h3, h4, h5, h6⟩ := h
  have key : u'.heap[N]? = u.heap[N]? := hg.block _ h6 (by simp; omega)
  exact ⟨by rw [← h2]; exact World.cell?_of_block key, by rw [← h3]; exact World.cell?_of_block key, by rw [← h4]; exact World.frozen?_of_block key, by rw [← h5]; exact World.frozen?_of_block key, Nat.lt_of_lt_of_le h6 hg.size⟩
theorem CopyR.drew {N : Nat} {u : World} (h : CopyR N u) : CopyR N u.drew := h.keep (Below.refl _ _).drew
theorem CopyR.alloc {N : Nat} {u : World} (h : CopyR N u) (o : Obj) : CopyR N (u.alloc o) := h.keep (bl_alloc (Below.refl _ _) o)

set_option maxHeartbeats 1000000 in
theorem l3Copy_any (a : Option Addr) (n c : Nat) (ps : List Int) (a' : Option Addr) (n' c' : Nat) (qs : List Bool) (w : World) (hT : TokIn w a n ps a' n' qs) (hn : n ≤ 2097152) (hn' : n' ≤ 2097152) :
    Calls Try.prog 42 #[.agg #[.slice a n c, .slice a' n' c']] w fun e w' => ∃ g cp g' cp', e = .returned (.agg #[.slice (some ⟨g, 0, none⟩) n cp, .slice (some ⟨g', 0, none⟩) n' cp']) ∧ TokRows w.heap.size w' g n cp ps g' n' cp' qs ∧ Below w.heap.size w w' := by
  generalize hW0 : w.alloc (.cells #[.slice a n c, .slice a' n' c'] 27) = W0
  generalize hW1 : W0.alloc (.cells #[.slice none 0 0, .slice none 0 0] 27) = W1
  have B0 : Below w.heap.size w W0 := by subst hW0; exact bl_alloc (Below.refl _ _) _
  have B1 : Below w.heap.size w W1 := by subst hW1; exact bl_alloc B0 _
  have s0 : W0.heap.size = w.heap.size + 1 := by subst hW0; simp
  have s1 : W1.heap.size = w.heap.size + 2 := by subst hW1; simp [s0]
  have x0 : Box2 w.heap.size (.slice a n c) (.slice a' n' c') W1 := by subst hW1 hW0; exact (Box2.new w _ _ _).alloc _
  have x1 : Box2 (w.heap.size + 1) (.slice none 0 0) (.slice none 0 0) W1 := by subst hW1; rw [← s0]; exact Box2.new W0 _ _ _
  have hS : CopyS w (.slice a n c) (.slice a' n' c') W1 := ⟨x0.c0, x0.c1, by omega, B1⟩
  have hR : CopyR (w.heap.size + 1) W1.drew := CopyR.drew ⟨x1.c0, x1.c1, x1.fr 0, x1.fr 1, by omega⟩
  have hE : OwnsB (w.heap.size + 2) (W1.alloc (.cells #[] 4)).drew (w.heap.size + 2) 0 0 [] := ownsB_keep (w := W1.alloc (.cells #[] 4)) (by rw [← s1]; exact ownsB_empty W1) (Below.refl _ _).drew
  have HT := hidOf hT
  clear hT x0 x1 B0 B1
  go_enter Try.func42, Try.ntmps42
  go_wp2_with fail
  go_region_held3 (fun w' => CopyS w (.slice a n c) (.slice a' n' c') w') (first | (exact hS.drew) | (exact CopyS.keep (by assumption) (by assumption)) | (exact CopyS.alloc (by assumption) _) | (exact CopyS.store (by assumption) _ _) | (exact CopyS.grown (by assumption) hg2 hge))
    (first
      | (go_at_call 63; refine (l2Copy_any a n c ps _ (HT.out.ints.keep (by simp_all)) hn).mono ?_; rintro e w3 ⟨g, cp, rfl, ho1, hb1⟩; first | have hR3 := CopyR.keep hR hb1 | have hR3 := CopyR.keep (hR.alloc _) hb1)
      | (refine step_append_ex (by rfl) _ _ 25 (by rfl) (.slice (some ⟨w3.heap.size, 0, none⟩) 0 0) (.slice a' n' c') (by rfl) (by rfl) (append_empty_ex w3.heap.size w3.heap.size a' n' c' qs _ (ownsB_empty w3) (by simp) (HT.out.bools.keep (by simp_all)) hn') ?_; rintro v' w4 ⟨g', cp', rfl, ho2, hg2, hat2⟩; have hge : w.heap.size + 2 ≤ w3.heap.size := hR3.2.2.2.2; have hR4 := CopyR.grown (hR3.alloc _) hg2 hge)
      | (refine step_append_ex (by rfl) _ _ 25 (by rfl) (.slice (some ⟨w.heap.size + 2, 0, none⟩) 0 0) (.slice a' n' c') (by rfl) (by rfl) (append_empty_ex (w.heap.size + 2) (w.heap.size + 2) a' n' c' qs _ (ownsB_keep hE hb1) (by have := hR3.2.2.2.2; omega) (HT.out.bools.keep (by simp_all)) hn') ?_; rintro v' w4 ⟨g', cp', rfl, ho2, hg2, hat2⟩; have hge : w.heap.size + 2 ≤ w.heap.size + 2 := Nat.le_refl _; have hR4 := CopyR.grown hR3 hg2 hge))
  all_goals go_wp2
  all_goals (rename_i hHeld; obtain ⟨_, hg1, hg3, _, _, _⟩ := owns_parts ho1; obtain ⟨c0, c1, f0, f1, _⟩ := hR4)
  · have hz : W1.drew.heap.size = w.heap.size + 2 := s1
    rw [hz] at ho1 hg1
    have o1 : Owns (w.heap.size + 2) w4 g n cp ps := World.ownsRow.kept (World.ownsRow.alloc ho1 _) hg2 (.inr (by simp [Value.ownBlock]; omega))
    have hgg := (ownsB_parts ho2).2.1
    have hTR : TokRows (w.heap.size + 2) w4 g n cp ps g' n' cp' qs := ⟨o1, ownsB_mono ho2 hge, by omega⟩
    have hF := ((hTR.far (w.heap.size + 1) 0 (by omega) (.slice (some ⟨g, 0, none⟩) n cp)).far (w.heap.size + 1) 1 (by omega) (.slice (some ⟨g', 0, none⟩) n' cp')).mono (B' := w.heap.size) (by omega)
    exact bodyPost_ret (v := .agg #[.slice (some ⟨g, 0, none⟩) n cp, .slice (some ⟨g', 0, none⟩) n' cp']) (by simp [results, Try.results42, go_sem, c0, c1]) rfl ⟨_, _, _, _, rfl, hF, hHeld.2.2.2⟩
  · have hz : (W1.alloc (.cells #[] 4)).drew.heap.size = w.heap.size + 3 := by
      show (W1.alloc (.cells #[] 4)).heap.size = _
      simp [s1]
    rw [hz] at ho1 hg1
    have o1 : Owns (w.heap.size + 3) w4 g n cp ps := World.ownsRow.kept ho1 hg2 (.inr (by simp [Value.ownBlock]; omega))
    have hTR : TokRows (w.heap.size + 2) w4 g n cp ps g' n' cp' qs := ⟨owns_mono o1 (by omega), ho2, by omega⟩
    have hF := ((hTR.far (w.heap.size + 1) 0 (by omega) (.slice (some ⟨g, 0, none⟩) n cp)).far (w.heap.size + 1) 1 (by omega) (.slice (some ⟨g', 0, none⟩) n' cp')).mono (B' := w.heap.size) (by omega)
    exact bodyPost_ret (v := .agg #[.slice (some ⟨g, 0, none⟩) n cp, .slice (some ⟨g', 0, none⟩) n' cp']) (by simp [results, Try.results42, go_sem, c0, c1]) rfl ⟨_, _, _, _, rfl, hF, hHeld.2.2.2⟩
end Go.Proofs.Ytgklnpkeffobnaa
