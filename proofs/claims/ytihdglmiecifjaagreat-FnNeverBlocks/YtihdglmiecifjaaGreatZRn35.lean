/-
  The specification's Send: what is left behind its loop
  A step that appends, in a region whose order is drawn: by the run's eq
  The specification's draws: a ring and a number
-/
import Derived.Test.YtihdglmiecifjaaGreatZRn34
namespace Go.Proofs.YtihdglmiecifjaaGreat
open Go.RowKit Go.Maps Pl Il
theorem RRow.lineV {B : Nat} {w' : World} {M : Rm} {v : Rv} {a : Option Addr} {m c : Nat} {xs : List Int} (h : RRow B w' M v) (ho : w'.ownsRow B 3 1 (.slice a m c) m (intsV xs)) (hn : ∀ q, (Value.slice a m c).ownBlock = some q → some q ∉ blkR M) : RRow B w' { M with la := a, l := m, lc := c } { v with ln := xs } := by
  have hA : AptP _ _ _ _ _ := apt_iff.1 h.apt
  have nin : ∀ {z : Option Nat}, z ∈ blkR M → ∀ b, (Value.slice a m c).ownBlock = some b → z ≠ some b := fun hz b e e' => hn b e (by rw [← e']; exact hz)
  have inX : ∀ y, y ∈ M.xs.map (fun x => (Value.slice x.a x.n x.c).ownBlock) → y ∈ blkR M := fun y hy => by
    unfold blkR
    exact List.mem_cons_of_mem _ (List.mem_cons_of_mem _ (List.mem_cons_of_mem _ (List.mem_cons_of_mem _ hy)))
  refine ⟨h.it, h.its, h.sb, h.fl, h.fls, h.sv, ho, h.gs, apt_iff.2 ⟨hA.is, fun b e e' => ?_, hA.ig, hA.ix, fun b e e' => ?_, hA.sg, hA.sx, fun b e e' => ?_, fun x hx b e e' => ?_, hA.gx, hA.xx⟩⟩
  · exact nin (z := (Value.slice M.ia M.i M.ic).ownBlock) (by simp [blkR]) b e' e
  · exact nin (z := (Value.slice M.sa M.s M.sc).ownBlock) (by simp [blkR]) b e' e
  · exact nin (z := (Value.slice M.ga M.g M.gc).ownBlock) (by simp [blkR]) b e e'
  · exact nin (inX x hx) b e e'
structure SpM (w : World) (N1 NK K : Nat) (M3 : Rm) (v3 : Rv) (zr : List Value) (tl : List Int) (ta : Option Addr) (tn tc : Nat) (u : World) : Prop where
  R : BoxL N1 zr u
  O : BoxL NK (rC M3 v3) u
  row : RRow (w.heap.size + 3) u M3 v3
  told : u.ownsRow K 3 1 (.slice ta tn tc) tn (intsV tl)
  tb : ∀ q, (Value.slice ta tn tc).ownBlock = some q → some q ∉ blkR M3
  nkb : some NK ∉ blkR M3
  bel : Below w.heap.size w u
  ge : K ≤ u.heap.size
theorem mem_blkL {M : Rm} {a : Option Addr} {n c q : Nat} (h : some q ∈ blkR { M with la := a, l := n, lc := c }) : some q ∈ blkR M ∨ (Value.slice a n c).ownBlock = some q := by
  unfold blkR at h ⊢
  simp only [List.mem_cons] at h ⊢
  rcases h with e | e | e | e | e
  · exact .inl (.inl e)
  · exact .inl (.inr (.inl e))
  · exact .inr e.symm
  · exact .inl (.inr (.inr (.inr (.inl e))))
  · exact .inl (.inr (.inr (.inr (.inr e))))
theorem mem_blkG {M : Rm} {a : Option Addr} {n c q : Nat} (h : some q ∈ blkR { M with ga := a, g := n, gc := c }) : some q ∈ blkR M ∨ (Value.slice a n c).ownBlock = some q := by
  unfold blkR at h ⊢
  simp only [List.mem_cons] at h ⊢
  rcases h with e | e | e | e | e
  · exact .inl (.inl e)
  · exact .inl (.inr (.inl e))
  · exact .inl (.inr (.inr (.inl e)))
  · exact .inr e.symm
  · exact .inl (.inr (.inr (.inr (.inr e))))
section
variable {w : World} {NM N1 NK K : Nat} {M : Rm} {v : Rv} {M2 : Rm} {v2 : Rv} {mc zr : List Value} {sb' : List Sb} {ys : List Sa} {tl sl : List Int} {ta : Option Addr} {tn tc : Nat} {za : Option Addr} {zn zc : Nat} {u u' : World}
theorem SpL.line (h : SpL w NM N1 NK K M v M2 v2 mc zr sb' ys tl sl ta tn tc za zn zc u) (hF : SpF w NM N1 NK K M2) :
    SpM w N1 NK K { M2 with xs := ys, la := za, l := zn, lc := zc } { v2 with sb := sb', ln := sl } zr tl ta tn tc (u.setCell ⟨NK, 5, none⟩ (.slice za zn zc)) := by
  have l1 := hF.nm; have l2 := hF.n1; have l3 := hF.nk; have l4 := hF.k
  have g01 : u.grownBy (u.setCell ⟨NK, 5, none⟩ (.slice za zn zc)) (some NK) := grown_setC _ _ _ _
  have far : ∀ {a : Option Addr} {n c : Nat} {xs : List Int}, u.ownsRow K 3 1 (.slice a n c) n (intsV xs) → (u.setCell ⟨NK, 5, none⟩ (.slice za zn zc)).ownsRow K 3 1 (.slice a n c) n (intsV xs) := fun ho => rowG ho g01 (fun q e e' => by injection e with e; subst e; have := (row_lt ho e').1; omega)
  refine ⟨h.R.far _ _ (by omega) _, h.O.set 5 (by simp) _, ?_, far h.told, fun q e hm => ?_, fun hm => ?_, bl_setB h.bel _ _ (by omega) _, by simpa using h.ge⟩
  · exact (h.row.grown g01 (by rw [h.blk]; exact hF.nkb)).lineV (rowM (far h.stay) (by omega)) (fun q e => by rw [h.blk]; exact h.zb q e)
  · rcases mem_blkL (M := { M2 with xs := ys }) hm with k | k
    · rw [h.blk] at k; exact h.tb q e k
    · exact h.ap q e k
  · rcases mem_blkL (M := { M2 with xs := ys }) hm with k | k
    · rw [h.blk] at k; exact hF.nkb k
    · have := (row_lt h.stay k).1; omega
theorem SpM.grants {M3 : Rm} {v3 : Rv} (h : SpM w N1 NK K M3 v3 zr tl ta tn tc u) (hF : SpF w NM N1 NK K M2) {a4 : Option Addr} {n4 c4 : Nat} {gs' : List Int} {w4 : World} (ho : w4.ownsRow (w.heap.size + 3) 3 1 (.slice a4 n4 c4) n4 (intsV gs')) (hg : u.grownBy w4 (Value.slice M3.ga M3.g M3.gc).ownBlock) (hl : ∀ q, (Value.slice a4 n4 c4).ownBlock = some q → (Value.slice M3.ga M3.g M3.gc).ownBlock = some q ∨ u.heap.size ≤ q) :
    SpM w N1 NK K { M3 with ga := a4, g := n4, gc := c4 } { v3 with gs := gs' } zr tl ta tn tc (w4.setCell ⟨NK, 6, none⟩ (.slice a4 n4 c4)) ∧ BoxL NK (rC M3 v3) w4 := by
  have l1 := hF.nm; have l2 := hF.n1; have l3 := hF.nk; have l4 := hF.k
  have gin : ∀ q, (Value.slice M3.ga M3.g M3.gc).ownBlock = some q → some q ∈ blkR M3 := fun q e => by rw [← e]; simp [blkR]
  have O4 := h.O.grownO hg (fun e => h.nkb (gin _ e))
  have R4 := h.R.grownO hg (fun e => by have := (h.row.blk _ (gin _ e)).1; omega)
  have row4 := h.row.growG ho hg hl
  have nk4 : some NK ∉ blkR { M3 with ga := a4, g := n4, gc := c4 } := fun hm => by
    rcases mem_blkG hm with k | k
    · exact h.nkb k
    · rcases hl _ k with k | k
      · exact h.nkb (gin _ k)
      · have := h.ge; omega
  have told4 := rowG h.told hg (fun q e e' => h.tb q e' (gin q e))
  have B4 : Below w.heap.size w w4 := h.bel.grown hg (by have := h.ge; omega) (fun q e => by have := (h.row.blk _ (gin q e)).1; omega)
  have g01 : w4.grownBy (w4.setCell ⟨NK, 6, none⟩ (.slice a4 n4 c4)) (some NK) := grown_setC _ _ _ _
  refine ⟨⟨R4.far _ _ (by omega) _, O4.set 6 (by simp) _, row4.grown g01 nk4, rowG told4 g01 (fun q e e' => by injection e with e; subst e; have := (row_lt told4 e').1; omega), fun q e hm => ?_, nk4, bl_setB B4 _ _ (by omega) _, by have := h.ge; have := hg.size; simp; omega⟩, O4⟩
  rcases mem_blkG hm with k | k
  · exact h.tb q e k
  · rcases hl _ k with k | k
    · exact h.tb q e (gin _ k)
    · have := (row_lt h.told e).2; omega
end
open Go.RowKit Go.Maps Pl Il
theorem nstep_append_exQ {P : Program} {ops : Array Oper} {o : Oper} {a : Act} {w : World} {K : Act → World → Prop} {Q : Exit → Act → World → Prop} {E : Prop} {R : Value → World → Prop} (hgd : o.guard = none) (s x : Operand) (t : TypeId)
    (ho : o.op = .call { callee := .builtin .append, args := #[s, x], argTypes := #[t, t] }) (v u : Value) (hs : a.eval s = v) (hx : a.eval x = u)
    (hr : ∃ v' w', (Builtin.append_ #[t, t] o.type #[v, u]).run P w = .ok v' w' ∧ R v' w') (h : ∀ v' w', R v' w' → K (a.put o.dst v') w') :
    if Region.wanted o (yielded ops a.tmps) = true then Oper.wp P o a w K Q else E := by
  have hw : Region.wanted o (yielded ops a.tmps) = true := by simp [Region.wanted, hgd]
  rw [if_pos hw]
  obtain ⟨v', w', hrun, hR⟩ := hr
  unfold Oper.wp execOp
  simp only [ho, resolve, invoke, builtin, Sem.run_bind, Sem.run_pure, Result.andThen_ok, List.map_toArray, List.map_cons, List.map_nil, hs, hx, hrun]
  exact h v' w' hR
theorem nstep_append_runQ {P : Program} {ops : Array Oper} {o : Oper} {a : Act} {w w' : World} {K : Act → World → Prop} {Q : Exit → Act → World → Prop} {E : Prop} (hgd : o.guard = none) (s x : Operand) (t : TypeId)
    (ho : o.op = .call { callee := .builtin .append, args := #[s, x], argTypes := #[t, t] }) (v u v' : Value) (hs : a.eval s = v) (hx : a.eval x = u)
    (hr : (Builtin.append_ #[t, t] o.type #[v, u]).run P w = .ok v' w') (h : K (a.put o.dst v') w') :
    if Region.wanted o (yielded ops a.tmps) = true then Oper.wp P o a w K Q else E :=
  nstep_append_exQ (R := fun v1 w1 => v1 = v' ∧ w1 = w') hgd s x t ho v u hs hx ⟨v', w', hr, rfl, rfl⟩ (fun _ _ h1 => by obtain ⟨rfl, rfl⟩ := h1; exact h)
end Go.Proofs.YtihdglmiecifjaaGreat
namespace Go.Proofs.YtihdglmiecifjaaGreat
open Go.RowKit Go.Maps Pl Il Dr
theorem Dr.Bytes.laterR {w w' : World} {a : Option Addr} {len cap : Nat} (h : Bytes w.heap.size w a len cap) (hb : Below w.heap.size w w') (c : Nat) (hc : w.heap.size ≤ c) : Bytes c w' a len cap := by
  obtain ⟨hl, hm, h | ⟨b, off, rfl, hb', hn, hcell⟩⟩ := h
  · exact ⟨hl, hm, .inl h⟩
  · refine ⟨hl, hm, .inr ⟨b, off, rfl, Nat.lt_of_lt_of_le hb' hb.size, by omega, fun i hi => ?_⟩⟩
    rw [hb.cell (p := ⟨b, off + i, none⟩) hb']; exact hcell i hi
structure DrS (c : Nat) (a : Option Addr) (len cap : Nat) (w : World) (N B : Nat) (M : Rm) (v : Rv) (u : World) : Prop where
  cur : Cur c a len cap u
  bel : Below w.heap.size w u
  box : BoxL N (rC M v) u
  row : RRow B u M v
abbrev DrC (c : Nat) (a : Option Addr) (len cap : Nat) (w : World) (N B : Nat) (M : Rm) (v : Rv) (u : World) : Prop :=
  u.cell? ⟨N, 0, none⟩ = some (.int .i64 v.cp) ∧ u.cell? ⟨N, 1, none⟩ = some (.int .i64 v.se) ∧ u.cell? ⟨N, 2, none⟩ = some (.slice M.ia M.i M.ic) ∧ u.cell? ⟨N, 3, none⟩ = some (.int .i64 v.nx) ∧ u.cell? ⟨N, 4, none⟩ = some (.slice M.sa M.s M.sc) ∧ u.cell? ⟨N, 5, none⟩ = some (.slice M.la M.l M.lc) ∧ u.cell? ⟨N, 6, none⟩ = some (.slice M.ga M.g M.gc) ∧ u.cell? ⟨N, 7, none⟩ = some (.bool v.cl) ∧ DrS c a len cap w N B M v u
section
variable {c : Nat} {a : Option Addr} {len cap : Nat} {w : World} {N B : Nat} {M : Rm} {v : Rv} {u u' : World}
theorem DrS.s (h : DrS c a len cap w N B M v u) : DrC c a len cap w N B M v u := by
  obtain ⟨p0, p1, p2, p3, p4, p5, p6, p7⟩ := box8 h.box
  exact ⟨p0, p1, p2, p3, p4, p5, p6, p7, h⟩
theorem DrS.draw (h : DrS c a len cap w N B M v u) (hd : Drawn c a len cap u u') (hN : N ≠ c) (hB : c < B) (hw : w.heap.size ≤ c) : DrS c a len cap w N B M v u' := ⟨hd.cur, h.bel.trans (hd.ex.below hw h.bel.size), h.box.dr hd hN, h.row.dr hd hB⟩
theorem DrS.keep (h : DrS c a len cap w N B M v u) (hb : Below u.heap.size u u') : DrS c a len cap w N B M v u' := ⟨h.cur.keep hb, bl_trans h.bel hb, h.box.keep hb, h.row.keep hb⟩
theorem DrS.drew (h : DrS c a len cap w N B M v u) : DrS c a len cap w N B M v u.drew := h.keep (Below.refl _ _).drew
theorem Dr.Cur.grownQ {g : Nat} (h : Cur c a len cap u) (hg : u.grownBy u' (some g)) (hgc : g ≠ c) (hgb : len = 0 ∨ ∀ b off, a = some ⟨b, off, none⟩ → b ≠ g) : Cur c a len cap u' := by
  have key : ∀ b, b < u.heap.size → b ≠ g → u'.heap[b]? = u.heap[b]? := fun b hb hn => hg.block b hb (by simpa using hn)
  have hcell : ∀ o, u'.cell? ⟨c, o, none⟩ = u.cell? ⟨c, o, none⟩ := fun o => World.cell?_of_block (key c h.lt (Ne.symm hgc))
  have hfr : ∀ o, u'.frozen? ⟨c, o, none⟩ = u.frozen? ⟨c, o, none⟩ := fun o => World.frozen?_of_block (key c h.lt (Ne.symm hgc))
  refine ⟨Nat.lt_of_lt_of_le h.lt hg.size, ?_, by rw [hcell]; exact h.at0, by rw [hcell]; exact h.at1, by rw [hcell]; exact h.at2, by rw [hfr]; exact h.fr1, by rw [hfr]; exact h.fr2⟩
  obtain ⟨hl, hm, k | ⟨b, off, e, hb, hn, hc⟩⟩ := h.bytes
  · exact ⟨hl, hm, .inl k⟩
  · rcases hgb with k | k
    · exact ⟨hl, hm, .inl k⟩
    · refine ⟨hl, hm, .inr ⟨b, off, e, Nat.lt_of_lt_of_le hb hg.size, hn, fun i hi => ?_⟩⟩
      have : u'.cell? ⟨b, off + i, none⟩ = u.cell? ⟨b, off + i, none⟩ := World.cell?_of_block (key b hb (k b off e))
      rw [this]; exact hc i hi
end
end Go.Proofs.YtihdglmiecifjaaGreat
