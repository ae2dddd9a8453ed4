/-
  Walks of the specification's draws: any tokens.
-/
import Derived.Test.YtgklnpkeffobnaaO1
import Derived.Test.YtgklnpkeffobnaaN5
namespace Go.Proofs.Ytgklnpkeffobnaa
open Go.RowKit Pl Dr Il

theorem Drawn.grownO {c : Nat} {a : Option Addr} {len cap : Nat} {w u u' : World} {g : Option Nat} (h : Drawn c a len cap w u) (hC : Cur c a len cap w) (hg : u.grownBy u' g) (hge : ∀ k, g = some k → w.heap.size ≤ k) : Drawn c a len cap w u' := by
  have hlt := hC.lt
  have key : ∀ b, b < u.heap.size → b < w.heap.size → u'.heap[b]? = u.heap[b]? := fun b hb hw => hg.block b hb (fun e => by have := hge b e.symm; omega)
  have hcell : ∀ o, u'.cell? ⟨c, o, none⟩ = u.cell? ⟨c, o, none⟩ := fun o => World.cell?_of_block (key c h.cur.lt hlt)
  have hfr : ∀ o, u'.frozen? ⟨c, o, none⟩ = u.frozen? ⟨c, o, none⟩ := fun o => World.frozen?_of_block (key c h.cur.lt hlt)
  refine ⟨⟨Nat.lt_of_lt_of_le h.cur.lt hg.size, ?_, by rw [hcell]; exact h.cur.at0, by rw [hcell]; exact h.cur.at1, by rw [hcell]; exact h.cur.at2, by rw [hfr]; exact h.cur.fr1, by rw [hfr]; exact h.cur.fr2⟩, ?_⟩
  · obtain ⟨hl, hm, k | ⟨b, off, rfl, hb, hn, hc⟩⟩ := h.cur.bytes
    · exact ⟨hl, hm, .inl k⟩
    · obtain ⟨_, _, k | ⟨b', off', e, hb', _⟩⟩ := hC.bytes
      · exact ⟨hl, hm, .inl k⟩
      · cases e
        refine ⟨hl, hm, .inr ⟨b, off, rfl, Nat.lt_of_lt_of_le hb hg.size, hn, fun i hi => ?_⟩⟩
        have : u'.cell? ⟨b, off + i, none⟩ = u.cell? ⟨b, off + i, none⟩ := World.cell?_of_block (key b hb hb')
        rw [this]; exact hc i hi
  · refine ⟨hg.os.trans h.ex.os, hg.tape.trans h.ex.tape, hg.output.trans h.ex.output, Nat.le_trans h.ex.size hg.size, fun i hi hn => ?_⟩
    rw [key i (Nat.lt_of_lt_of_le hi h.ex.size) hi]
    exact h.ex.block i hi hn
/-- As TokV, the two lists of whatever lengths. -/
structure TokU (c : Nat) (a : Option Addr) (len cap : Nat) (w : World) (R N : Nat) (v v' : Value) (ps : List Int) (qs : List Bool) (u : World) : Prop where
  blk : u.heap[N]? = some (tokO v v')
  res : u.heap[R]? = some (tokO (.slice none 0 0) (.slice none 0 0))
  app : TokApp w.heap.size u v v' ps qs
  dr : Drawn c a len cap w u
  cur : Cur c a len cap w
  ge : w.heap.size ≤ N
  geR : w.heap.size ≤ R
  ne : R ≠ N
theorem TokV.u {c : Nat} {a : Option Addr} {len cap : Nat} {w : World} {R N : Nat} {v v' : Value} {ps : List Int} {qs : List Bool} {u : World} (h : TokV c a len cap w R N v v' ps qs u) : TokU c a len cap w R N v v' ps qs u := ⟨h.blk, h.res, h.app, h.dr, h.cur, h.ge, h.geR, h.ne⟩
theorem wf_more {xs : List Int} {x : Int} (h : wfL xs) (hx : (Lit.int .i64 x).wf = true) : wfL (xs ++ [x]) := fun y hy => by
  rcases List.mem_append.1 hy with h' | h'
  · exact h y h'
  · rw [List.mem_singleton] at h'; subst h'; exact hx
theorem TokU.step1 {c : Nat} {a : Option Addr} {len cap : Nat} {w : World} {R N : Nat} {v v' : Value} {ps : List Int} {qs : List Bool} {u : World} (h : TokU c a len cap w R N v v' ps qs u) (p : Int) (hp : (Lit.int .i64 p).wf = true) (hs : ps.length + 1 ≤ 4194304) : ∃ (g k : Nat) (w1 : World),
    (Builtin.append_ #[24, 24] 24 #[v, .slice (some ⟨u.heap.size, 0, none⟩) 1 1]).run Try.prog (u.alloc (.cells #[.int .i64 p] 3)) = .ok (.slice (some ⟨g, 0, none⟩) (ps.length + 1) k) w1 ∧ w1.cell? ⟨N, 0, none⟩ = some v ∧ w1.frozen? ⟨N, 0, none⟩ = false ∧
    TokU c a len cap w R N (.slice (some ⟨g, 0, none⟩) (ps.length + 1) k) v' (ps ++ [p]) qs (w1.setCell ⟨N, 0, none⟩ (.slice (some ⟨g, 0, none⟩) (ps.length + 1) k)) := by
  obtain ⟨g, k, w1, hr, ho, hg, _⟩ := append_own1 w.heap.size ps.length v ps p u h.app.one h.dr.ex.size hs
  have b1 : w1.heap[N]? = some (tokO v v') := by rw [hg.block N (lt_of_some h.blk) (row_ne h.app.one h.blk (by decide))]; exact h.blk
  have r1 : w1.heap[R]? = some (tokO (.slice none 0 0) (.slice none 0 0)) := by rw [hg.block R (lt_of_some h.res) (row_ne h.app.one h.res (by decide))]; exact h.res
  have t1 : w1.ownsRow w.heap.size 4 1 v' qs.length (qs.map Value.bool) := by
    refine h.app.two.kept hg ?_
    rcases rows_ne h.app.one h.app.two with e | e
    · cases hv : v'.ownBlock
      · exact .inl rfl
      · exact .inr (by rw [e]; simp)
    · exact .inr (fun e' => e e'.symm)
  have d1 := h.dr.grownO h.cur hg (fun j hj => ownsRow_ge h.app.one hj)
  obtain ⟨c0, _, f⟩ := tok_cells b1
  have b2 : (w1.setCell ⟨N, 0, none⟩ (.slice (some ⟨g, 0, none⟩) (ps.length + 1) k)).heap[N]? = some (tokO (.slice (some ⟨g, 0, none⟩) (ps.length + 1) k) v') := by
    have := set_block (o := 0) (x := Value.slice (some ⟨g, 0, none⟩) (ps.length + 1) k) b1
    simpa [tokO] using this
  have hA : TokApp w.heap.size w1 (.slice (some ⟨g, 0, none⟩) (ps.length + 1) k) v' (ps ++ [p]) qs := ⟨by rw [List.length_append]; exact ho, t1, wf_more h.app.wf hp⟩
  exact ⟨g, k, w1, hr, c0, f 0, b2, by rw [Below.heap_setCell _ _ _ _ h.ne]; exact r1, hA.grown b1 (setCell_grown w1 N 0 _), d1.store h.cur ⟨N, 0, none⟩ h.ge _, h.cur, h.ge, h.geR, h.ne⟩
theorem TokU.step2 {c : Nat} {a : Option Addr} {len cap : Nat} {w : World} {R N : Nat} {v v' : Value} {ps : List Int} {qs : List Bool} {u : World} (h : TokU c a len cap w R N v v' ps qs u) (q : Bool) (hs : qs.length + 1 ≤ 4194304) : ∃ (g k : Nat) (w1 : World),
    (Builtin.append_ #[25, 25] 25 #[v', .slice (some ⟨u.heap.size, 0, none⟩) 1 1]).run Try.prog (u.alloc (.cells #[.bool q] 4)) = .ok (.slice (some ⟨g, 0, none⟩) (qs.length + 1) k) w1 ∧ w1.cell? ⟨N, 1, none⟩ = some v' ∧ w1.frozen? ⟨N, 1, none⟩ = false ∧
    TokU c a len cap w R N v (.slice (some ⟨g, 0, none⟩) (qs.length + 1) k) ps (qs ++ [q]) (w1.setCell ⟨N, 1, none⟩ (.slice (some ⟨g, 0, none⟩) (qs.length + 1) k)) := by
  obtain ⟨g, k, w1, hr, ho, hg, _⟩ := append_ownB1 w.heap.size qs.length v' qs q u h.app.two h.dr.ex.size hs
  have b1 : w1.heap[N]? = some (tokO v v') := by rw [hg.block N (lt_of_some h.blk) (row_ne h.app.two h.blk (by decide))]; exact h.blk
  have r1 : w1.heap[R]? = some (tokO (.slice none 0 0) (.slice none 0 0)) := by rw [hg.block R (lt_of_some h.res) (row_ne h.app.two h.res (by decide))]; exact h.res
  have t1 : w1.ownsRow w.heap.size 3 1 v ps.length (ps.map (Value.int .i64)) := h.app.one.kept hg (rows_ne h.app.one h.app.two)
  have d1 := h.dr.grownO h.cur hg (fun j hj => ownsRow_ge h.app.two hj)
  obtain ⟨_, c1, f⟩ := tok_cells b1
  have b2 : (w1.setCell ⟨N, 1, none⟩ (.slice (some ⟨g, 0, none⟩) (qs.length + 1) k)).heap[N]? = some (tokO v (.slice (some ⟨g, 0, none⟩) (qs.length + 1) k)) := by
    have := set_block (o := 1) (x := Value.slice (some ⟨g, 0, none⟩) (qs.length + 1) k) b1
    simpa [tokO] using this
  have hA : TokApp w.heap.size w1 v (.slice (some ⟨g, 0, none⟩) (qs.length + 1) k) ps (qs ++ [q]) := ⟨t1, by rw [List.length_append]; exact ho, h.app.wf⟩
  exact ⟨g, k, w1, hr, c1, f 1, b2, by rw [Below.heap_setCell _ _ _ _ h.ne]; exact r1, hA.grown b1 (setCell_grown w1 N 1 _), d1.store h.cur ⟨N, 1, none⟩ h.ge _, h.cur, h.ge, h.geR, h.ne⟩
/-- One more token is laid behind the others. -/
theorem TokV.fill {c : Nat} {a : Option Addr} {len cap : Nat} {w : World} {R N : Nat} {v v' : Value} {ps : List Int} {qs : List Bool} {u : World} {m : Nat} (h : TokV c a len cap w R N v v' ps qs u) (hm : ps.length = m) (hs : m + 1 ≤ 24) : ∃ (g k : Nat) (w1 : World) (g2 k2 : Nat) (w2 : World),
    (Builtin.append_ #[24, 24] 24 #[v, .slice (some ⟨u.heap.size, 0, none⟩) 1 1]).run Try.prog (u.alloc (.cells #[.int .i64 (-1)] 3)) = .ok (.slice (some ⟨g, 0, none⟩) (m + 1) k) w1 ∧ w1.cell? ⟨N, 0, none⟩ = some v ∧ w1.frozen? ⟨N, 0, none⟩ = false ∧
    (w1.setCell ⟨N, 0, none⟩ (.slice (some ⟨g, 0, none⟩) (m + 1) k)).cell? ⟨N, 1, none⟩ = some v' ∧
    (Builtin.append_ #[25, 25] 25 #[v', .slice (some ⟨(w1.setCell ⟨N, 0, none⟩ (.slice (some ⟨g, 0, none⟩) (m + 1) k)).heap.size, 0, none⟩) 1 1]).run Try.prog ((w1.setCell ⟨N, 0, none⟩ (.slice (some ⟨g, 0, none⟩) (m + 1) k)).alloc (.cells #[.bool false] 4)) = .ok (.slice (some ⟨g2, 0, none⟩) (m + 1) k2) w2 ∧
    w2.cell? ⟨N, 1, none⟩ = some v' ∧ w2.frozen? ⟨N, 1, none⟩ = false ∧ TokV c a len cap w R N (.slice (some ⟨g, 0, none⟩) (m + 1) k) (.slice (some ⟨g2, 0, none⟩) (m + 1) k2) (ps ++ [-1]) (qs ++ [false]) (w2.setCell ⟨N, 1, none⟩ (.slice (some ⟨g2, 0, none⟩) (m + 1) k2)) := by
  have hl := h.len
  obtain ⟨g, k, w1, hr1, c1, f1, hU⟩ := h.u.step1 (-1) (by decide) (by omega)
  rw [hm] at hr1 hU
  obtain ⟨g2, k2, w2, hr2, c2, f2, hU2⟩ := hU.step2 false (by omega)
  have hq : qs.length = m := by omega
  rw [hq] at hr2 hU2
  exact ⟨g, k, w1, g2, k2, w2, hr1, c1, f1, (tok_cells hU.blk).2.1, hr2, c2, f2, hU2.blk, hU2.res, hU2.app, hU2.dr, hU2.cur, hU2.ge, hU2.geR, hU2.ne, by simp [hl], by simp; omega⟩
end Go.Proofs.Ytgklnpkeffobnaa
