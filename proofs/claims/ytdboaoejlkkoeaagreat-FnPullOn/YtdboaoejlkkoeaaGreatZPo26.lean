/-
  The specification's Pull: what its loop holds on to
  Lists of what is told, in memory; two that read the same are told to b
  The plain mathematics of the law on pulling in two parts
  What is told of a reading, held against itself
-/
import Derived.Test.YtdboaoejlkkoeaaGreatZPo24
namespace Go.Proofs.YtdboaoejlkkoeaaGreat
open Go.RowKit Go.Maps Pl Il
abbrev zRp : List Value := [.int .i64 0, .int .i64 0, .slice none 0 0, .int .i64 0, .slice none 0 0, .slice none 0 0, .slice none 0 0, .bool false]
theorem RRow.grownO {B : Nat} {w w' : World} {M : Rm} {v : Rv} (h : RRow B w M v) {g : Option Nat} (hg : w.grownBy w' g) (hn : ∀ q, g = some q → some q ∉ blkR M) : RRow B w' M v := by
  cases g with
  | some q => exact h.grown hg (hn q rfl)
  | none => exact h.grown (N := w.heap.size) ⟨hg.os, hg.tape, hg.output, hg.size, fun k hk _ => hg.block k hk (by intro e; cases e)⟩ (h.new (Nat.le_refl _))
structure PlS (w : World) (B R K most : Nat) (v : Rv) (k j : Nat) (M : Rm) (u : Rv) (l : List Td) (la : Option Addr) (ln lc : Nat) (cd : Int) (wr : World) : Prop where
  inv : PulI most v k j u l cd
  rd : RdOk u k
  row : RRow B wr M u
  le : RLe M 2097152
  lst : wr.ownsRow B 53 6 (.slice la ln lc) ln (dflat l)
  nl : ln = l.length
  lb : ∀ q, (Value.slice la ln lc).ownBlock = some q → some q ∉ blkR M ∧ q ≠ K
  kb : some K ∉ blkR M
  box : BoxL K (rC M u) wr
  res : BoxL R zRp wr
  bel : Below w.heap.size w wr
  rb : R < B
  wr0 : w.heap.size ≤ R
  wk : w.heap.size ≤ K
  bs : B ≤ wr.heap.size
  rk : R ≠ K
section
variable {w : World} {B R K most : Nat} {v : Rv} {k j : Nat} {M : Rm} {u : Rv} {l : List Td} {la : Option Addr} {ln lc : Nat} {cd : Int} {wr w3 : World}
theorem PlS.keep (h : PlS w B R K most v k j M u l la ln lc cd wr) (hb : Below wr.heap.size wr w3) : PlS w B R K most v k j M u l la ln lc cd w3 :=
  ⟨h.inv, h.rd, h.row.keep hb, h.le, ownsRow_keep h.lst hb, h.nl, h.lb, h.kb, h.box.keep hb, h.res.keep hb, bl_trans h.bel hb, h.rb, h.wr0, h.wk, Nat.le_trans h.bs hb.size, h.rk⟩
structure PlR (w : World) (B R K : Nat) (M : Rm) (u1 : Rv) (l : List Td) (la : Option Addr) (ln lc : Nat) (w3 : World) : Prop where
  row : RRow B w3 M u1
  le : RLe M 2097152
  lst : w3.ownsRow B 53 6 (.slice la ln lc) ln (dflat l)
  lb : ∀ q, (Value.slice la ln lc).ownBlock = some q → some q ∉ blkR M ∧ q ≠ K
  kb : some K ∉ blkR M
  box : ∃ vs : List Value, vs.length = 8 ∧ BoxL K vs w3
  res : BoxL R zRp w3
  bel : Below w.heap.size w w3
  bs : B ≤ w3.heap.size
theorem PlS.read {xs' : List Sa} (h : PlS w B R K most v k j M u l la ln lc cd wr) (hrow : RRow B w3 { M with xs := xs' } (rdV u k)) (hn : ∀ y, y ∈ xs' → ∃ x, x ∈ M.xs ∧ y.n = x.n) (gr : wr.grownBy w3 (Value.slice M.sa M.s M.sc).ownBlock) (hbk : blkR { M with xs := xs' } = blkR M) :
    PlR w B R K { M with xs := xs' } (rdV u k) l la ln lc w3 := by
  have hin : ∀ q, (Value.slice M.sa M.s M.sc).ownBlock = some q → some q ∈ blkR M := fun q e => by rw [← e]; simp [blkR]
  have hge : ∀ q, (Value.slice M.sa M.s M.sc).ownBlock = some q → B ≤ q := fun q e => (h.row.blk q (hin q e)).1
  have hrb := h.rb
  have hw0 := h.wr0
  have hbs := h.bs
  refine ⟨hrow, ⟨h.le.i, h.le.s, fun y hy => ?_, h.le.l, h.le.g⟩, rowG h.lst gr (fun q e e2 => (h.lb q e2).1 (hin q e)), fun q e => ⟨by rw [hbk]; exact (h.lb q e).1, (h.lb q e).2⟩, by rw [hbk]; exact h.kb, ⟨rC M u, rfl, h.box.grown gr (fun e => h.kb (hin K e))⟩, h.res.grown gr (fun e => by have := hge R e; omega), h.bel.grown gr (by omega) (fun q e => by have := hge q e; omega), Nat.le_trans hbs gr.size⟩
  obtain ⟨x, hx, e⟩ := hn y hy
  have := h.le.f x hx
  omega
theorem PlR.keep {u1 : Rv} {w4 : World} (h : PlR w B R K M u1 l la ln lc w3) (hb : Below w3.heap.size w3 w4) : PlR w B R K M u1 l la ln lc w4 :=
  ⟨h.row.keep hb, h.le, ownsRow_keep h.lst hb, h.lb, h.kb, by obtain ⟨vs, h1, h2⟩ := h.box; exact ⟨vs, h1, h2.keep hb⟩, h.res.keep hb, bl_trans h.bel hb, Nat.le_trans h.bs hb.size⟩
theorem PlR.trim {ia : Option Addr} {i ic : Nat} {u1 u2 : Rv} {w4 : World} (h : PlR w B R K M u1 l la ln lc w3) (hrow : RRow B w4 { M with ia := ia, i := i, ic := ic } u2) (hi : i ≤ M.i) (hb : Below w3.heap.size w3 w4)
    (hq : (Value.slice ia i ic).ownBlock = (Value.slice M.ia M.i M.ic).ownBlock ∨ ∀ q, (Value.slice ia i ic).ownBlock = some q → w3.heap.size ≤ q) (hrk : R ≠ K) (hwk : w.heap.size ≤ K) :
    PlR w B R K { M with ia := ia, i := i, ic := ic } u2 l la ln lc (setL w4 K 0 (rC { M with ia := ia, i := i, ic := ic } u2)) ∧ BoxL K (rC { M with ia := ia, i := i, ic := ic } u2) (setL w4 K 0 (rC { M with ia := ia, i := i, ic := ic } u2)) := by
  obtain ⟨vs, hv, hbx⟩ := h.box
  have hbx4 := hbx.keep hb
  have hnb : ∀ q, q < w3.heap.size → some q ∉ blkR M → some q ∉ blkR { M with ia := ia, i := i, ic := ic } := fun q hlt hno hm => by
    unfold blkR at hm hno
    rw [List.mem_cons] at hm hno
    rcases hm with e | e
    · rcases hq with k1 | k1
      · exact hno (.inl (by rw [e]; exact k1))
      · have := k1 q e.symm; omega
    · exact hno (.inr e)
  have hK := hnb K hbx.lt h.kb
  have hgr : w4.grownBy (setL w4 K 0 (rC { M with ia := ia, i := i, ic := ic } u2)) (some K) := setL_grown ⟨rfl, rfl, rfl, Nat.le_refl _, fun _ _ _ => rfl⟩
  have hbox : BoxL K (rC { M with ia := ia, i := i, ic := ic } u2) (setL w4 K 0 (rC { M with ia := ia, i := i, ic := ic } u2)) := hbx4.setAll (us := rC { M with ia := ia, i := i, ic := ic } u2) (by rw [hv]; rfl)
  refine ⟨⟨hrow.grown hgr hK, ⟨Nat.le_trans hi h.le.i, h.le.s, h.le.f, h.le.l, h.le.g⟩, rowG (ownsRow_keep h.lst hb) hgr (fun q e e2 => by injection e with e; subst e; exact (h.lb K e2).2 rfl), fun q e => ⟨hnb q (h.lst.lt q e).2 (h.lb q e).1, (h.lb q e).2⟩, hK, ⟨_, rfl, hbox⟩, (h.res.keep hb).setFar hrk, setL_below hwk (bl_trans h.bel hb), ?_⟩, hbox⟩
  rw [setL_size]
  exact Nat.le_trans h.bs hb.size
theorem PlR.told {u2 : Rv} {w4 w5 : World} {la' : Option Addr} {lc' : Nat} {l' : List Td} (h : PlR w B R K M u2 l la ln lc w4) (hbox : BoxL K (rC M u2) w4) (ho : w5.ownsRow B 53 6 (.slice la' (ln + 1) lc') (ln + 1) (dflat l')) (hg : w4.grownBy w5 (Value.slice la ln lc).ownBlock)
    (hq : ∀ q, (Value.slice la' (ln + 1) lc').ownBlock = some q → (Value.slice la ln lc).ownBlock = some q ∨ w4.heap.size ≤ q) (hrb : R < B) (hw0 : w.heap.size ≤ R) :
    PlR w B R K M u2 l' la' (ln + 1) lc' w5 ∧ BoxL K (rC M u2) w5 := by
  have hge : ∀ q, (Value.slice la ln lc).ownBlock = some q → B ≤ q := fun q e => (h.lst.lt q e).1
  have hbs := h.bs
  have hb5 : BoxL K (rC M u2) w5 := hbox.grown hg (fun e => (h.lb K e).2 rfl)
  refine ⟨⟨h.row.grownO hg (fun q e => (h.lb q e).1), h.le, ho, fun q e => ?_, h.kb, ⟨_, rfl, hb5⟩, h.res.grown hg (fun e => by have := hge R e; omega), h.bel.grown hg (by omega) (fun q e => by have := hge q e; omega), Nat.le_trans hbs hg.size⟩, hb5⟩
  rcases hq q e with h1 | h1
  · exact h.lb q h1
  · exact ⟨fun hm => by have := (h.row.blk q hm).2; omega, by have := hbox.lt; omega⟩
theorem PlR.pls {u2 : Rv} {w4 : World} (h : PlR w B R K M u2 l la ln lc w4) (hbox : BoxL K (rC M u2) w4) (hi : PulI most v k j u2 l cd) (hr : RdOk u2 k) (hn : ln = l.length) (hrb : R < B) (hw0 : w.heap.size ≤ R) (hwk : w.heap.size ≤ K) (hrk : R ≠ K) : PlS w B R K most v k j M u2 l la ln lc cd w4 :=
  ⟨hi, hr, h.row, h.le, h.lst, hn, h.lb, h.kb, hbox, h.res, h.bel, hrb, hw0, hwk, h.bs, hrk⟩
end
def PulS (w : World) (v : Rv) (l : List Td) (cd : Int) (e : Ending) (w' : World) : Prop := ∃ (M : Rm) (a : Option Addr) (n c : Nat), e = .returned (.tuple #[.agg #[.int .i64 v.cp, .int .i64 v.se, .slice M.ia M.i M.ic, .int .i64 v.nx, .slice M.sa M.s M.sc, .slice M.la M.l M.lc, .slice M.ga M.g M.gc, .bool v.cl], .slice a n c, .int .i64 cd]) ∧ RRow w.heap.size w' M v ∧ RLe M 2097152 ∧ w'.ownsRow w.heap.size 53 6 (.slice a n c) n (dflat l) ∧ (∀ q, (Value.slice a n c).ownBlock = some q → some q ∉ blkR M) ∧ Below w.heap.size w w'
end Go.Proofs.YtdboaoejlkkoeaaGreat
namespace Go.Proofs.YtdboaoejlkkoeaaGreat
open Go.RowKit Pl Il
def dg (l : List Td) (i : Nat) : Td := l.getD i Td0
structure DCell (w : World) (b o : Nat) (t : Td) : Prop where
  c0 : w.cell? ⟨b, o, none⟩ = some (.int .i64 t.kd)
  c1 : w.cell? ⟨b, o + 1, none⟩ = some (.int .i64 t.ms.1)
  c2 : w.cell? ⟨b, o + 2, none⟩ = some (.int .i64 t.ms.2.1)
  c3 : w.cell? ⟨b, o + 3, none⟩ = some (.string t.ms.2.2)
  c4 : w.cell? ⟨b, o + 4, none⟩ = some (.int .i64 t.ix)
  c5 : w.cell? ⟨b, o + 5, none⟩ = some (.int .i64 t.n)
structure TdAt (w : World) (a : Option Addr) (n : Nat) (l : List Td) : Prop where
  len : l.length = n
  row : n = 0 ∨ ∃ b off, a = some ⟨b, off, none⟩ ∧ b < w.heap.size ∧ ∀ i, i < n → DCell w b (off + i * 6) (dg l i)
theorem cellD {w w' : World} {p : Addr} {x : Value} (h : w.cell? p = some x) (hb : Below w.heap.size w w') : w'.cell? p = some x := by
  rw [hb.cell (World.block_lt_of_cell? w _ h)]; exact h
theorem DCell.keep {w w' : World} {b o : Nat} {t : Td} (h : DCell w b o t) (hb : Below w.heap.size w w') : DCell w' b o t :=
  ⟨cellD h.c0 hb, cellD h.c1 hb, cellD h.c2 hb, cellD h.c3 hb, cellD h.c4 hb, cellD h.c5 hb⟩
theorem TdAt.keep {w w' : World} {a : Option Addr} {n : Nat} {l : List Td} (h : TdAt w a n l) (hb : Below w.heap.size w w') : TdAt w' a n l := by
  refine ⟨h.len, ?_⟩
  rcases h.row with k | ⟨b, off, e, hlt, hc⟩
  · exact .inl k
  · exact .inr ⟨b, off, e, Nat.lt_of_lt_of_le hlt hb.size, fun i hi => (hc i hi).keep hb⟩
theorem dflat_get : ∀ (l : List Td) (i r : Nat), i < l.length → r < 6 → (dflat l)[i * 6 + r]? = (tdC (dg l i))[r]?
  | t :: l, 0, r, _, hr => by
    show (tdC t ++ dflat l)[0 * 6 + r]? = _
    rw [List.getElem?_append_left (by simp; omega), show 0 * 6 + r = r by omega]
    rfl
  | t :: l, i + 1, r, hi, hr => by
    show (tdC t ++ dflat l)[(i + 1) * 6 + r]? = _
    rw [List.getElem?_append_right (by simp; omega), show (i + 1) * 6 + r - (tdC t).length = i * 6 + r by simp; omega, dflat_get l i r (by simpa using hi) hr]
    rfl
theorem heap_lt {w : World} {g : Nat} {o : Obj} (h : w.heap[g]? = some o) : g < w.heap.size := by
  rcases Nat.lt_or_ge g w.heap.size with k | k
  · exact k
  · rw [Array.getElem?_eq_none k] at h; cases h
theorem td_of_row {B : Nat} {w : World} {a : Option Addr} {n c : Nat} {l : List Td} (h : w.ownsRow B 53 6 (.slice a n c) n (dflat l)) : TdAt w a n l := by
  obtain ⟨hl, ⟨e, hn⟩ | ⟨g, cp, cur, e, hB, hg, hc, hm, hs, ht⟩⟩ := h
  · subst hn
    rw [dflat_len] at hl
    exact ⟨by omega, .inl rfl⟩
  · rw [dflat_len] at hl
    have hn : l.length = n := by omega
    injection e with e1 e2 e3
    refine ⟨hn, .inr ⟨g, 0, e1, heap_lt hg, fun i hi => ?_⟩⟩
    have hcell : ∀ r, r < 6 → w.cell? ⟨g, i * 6 + r, none⟩ = (tdC (dg l i))[r]? := fun r hr => by
      rw [cell_of_row w g (i * 6 + r) cur _ (0, 0) hg, ← dflat_get l i r (by omega) hr, ← ht, List.getElem?_take_of_lt (by omega), Array.getElem?_toList]
    simp only [Nat.zero_add]
    exact ⟨hcell 0 (by omega), hcell 1 (by omega), hcell 2 (by omega), hcell 3 (by omega), hcell 4 (by omega), hcell 5 (by omega)⟩
end Go.Proofs.YtdboaoejlkkoeaaGreat
namespace Go.Proofs.YtdboaoejlkkoeaaGreat
open Go.RowKit Go.Maps Pl Il
def lastT (a : Int) (l : List Td) : Int := l.foldl (fun x t => if t.kd = 1 then t.ix else x) a
theorem rise_at {fl : List Tm} : ∀ {l : List Td} {a : Int} {i : Nat}, riseT fl a l → i < l.length → (dg l i).kd = 1 → lastT a (l.take i) < (dg l i).ix ∧ pasR fl (dg l i).ms = true ∧ okB (dg l i).ms.1 (dg l i).ms.2.1 (dg l i).ms.2.2 = true
  | [], a, i, _, hi, _ => by simp at hi
  | t :: ts, a, 0, h, _, hk => by
    have hk' : t.kd = 1 := by simpa [dg] using hk
    unfold riseT at h
    rw [if_pos hk'] at h
    exact ⟨by simpa [lastT, dg] using h.1, by simpa [dg] using h.2.1, by simpa [dg] using h.2.2.1⟩
  | t :: ts, a, i + 1, h, hi, hk => by
    have hd : dg (t :: ts) (i + 1) = dg ts i := by simp [dg]
    rw [hd] at hk ⊢
    unfold riseT at h
    have hl : lastT a ((t :: ts).take (i + 1)) = lastT (if t.kd = 1 then t.ix else a) (ts.take i) := by simp [lastT]
    rw [hl]
    split at h
    · rename_i hk1
      rw [if_pos hk1]
      exact rise_at h.2.2.2 (by simpa using hi) hk
    · rename_i hk1
      rw [if_neg hk1]
      exact rise_at h (by simpa using hi) hk
theorem last_succ {l : List Td} {a : Int} {i : Nat} (h : i < l.length) : lastT a (l.take (i + 1)) = if (dg l i).kd = 1 then (dg l i).ix else lastT a (l.take i) := by
  have hd : dg l i = l[i] := by simp [dg, h]
  rw [hd, List.take_add_one, List.getElem?_eq_getElem h]
  unfold lastT
  rw [List.foldl_append]
  rfl
theorem readC_one (v : Rv) (s : Sb) : readC v s = 0 ∨ readC v s = 4 ∨ readC v s = 6 := by
  unfold readC
  split
  · exact .inl rfl
  · split
    · exact .inl rfl
    · split
      · exact .inr (.inr rfl)
      · exact .inr (.inl rfl)
theorem pullL_code : ∀ (n : Nat) (v : Rv) (k : Nat), (pullL n v k).2.2 = 0 ∨ (pullL n v k).2.2 = 4 ∨ (pullL n v k).2.2 = 6
  | 0, v, k => .inl rfl
  | n + 1, v, k => by
    rw [pullL_succ]
    split
    · exact pullL_code n _ k
    · exact readC_one _ _
structure PulB (v : Rv) (id most : Int) (k m : Nat) : Prop where
  me : most = (m : Int)
  le : m ≤ 50
  ok : okR restR v = true
  at_ : atR v.sb id = (k : Int)
  lt : k < v.sb.length
  ido : (v.sb.getD k Sb0).id = id
  no : hasL v.ln id = false ∧ hasL v.gs id = false
theorem PulB.rs {v : Rv} {id most : Int} {k m : Nat} (h : PulB v id most k m) : pulR v id most = (pullL m v k).1 ∧ pulT v id most = (pullL m v k).2.1 ∧ pulC v id most = (pullL m v k).2.2 := by
  have h1 : okR restR v = true ∧ 0 ≤ most ∧ most ≤ 50 := ⟨h.ok, by rw [h.me]; omega, by rw [h.me]; have := h.le; omega⟩
  have h2 : ¬ atR v.sb id < 0 := by rw [h.at_]; omega
  have h3 : ¬ (hasL v.ln id || hasL v.gs id) = true := by rw [h.no.1, h.no.2]; simp
  have h4 : most.toNat = m := by rw [h.me]; rfl
  have h5 : (atR v.sb id).toNat = k := by rw [h.at_]; rfl
  unfold pulR pulT pulC
  rw [if_pos h1, if_pos h1, if_pos h1, if_neg h2, if_neg h2, if_neg h2, if_neg h3, if_neg h3, if_neg h3, h4, h5]
  exact ⟨rfl, rfl, rfl⟩
theorem pul_cases (v : Rv) (id most : Int) : ((pulC v id most = 1 ∨ pulC v id most = 3 ∨ pulC v id most = 5) ∧ pulT v id most = [] ∧ pulR v id most = v) ∨ ∃ k m, PulB v id most k m := by
  unfold pulC pulT pulR
  split
  · rename_i h1
    split
    · exact .inl ⟨.inr (.inl rfl), rfl, rfl⟩
    · rename_i h2
      split
      · exact .inl ⟨.inr (.inr rfl), rfl, rfl⟩
      · rename_i h3
        obtain ⟨a1, a2⟩ := at_id2 (sb := v.sb) (id := id) (by omega)
        simp only [Bool.or_eq_true, not_or, Bool.not_eq_true] at h3
        exact .inr ⟨(atR v.sb id).toNat, most.toNat, by omega, by omega, h1.1, by omega, a1, a2, h3.1, h3.2⟩
  · exact .inl ⟨.inl rfl, rfl, rfl⟩
theorem PulB.code {v : Rv} {id most : Int} {k m : Nat} (h : PulB v id most k m) : pulC v id most = 0 ∨ pulC v id most = 4 ∨ pulC v id most = 6 := by
  rw [h.rs.2.2]; exact pullL_code m v k
theorem PulB.nln {v : Rv} {id most : Int} {k m : Nat} (h : PulB v id most k m) : (v.sb.getD k Sb0).id ∉ v.ln := by
  rw [h.ido]; exact not_has (by rw [h.no.1]; simp)
theorem PulB.part {v : Rv} {id most : Int} {k m : Nat} (h : PulB v id most k m) {c : Nat} (hc : c ≤ m) : PulB v id (c : Int) k c := ⟨rfl, by have := h.le; omega, h.ok, h.at_, h.lt, h.ido, h.no⟩
theorem PulB.next {v : Rv} {id most : Int} {k m : Nat} (h : PulB v id most k m) {c d : Nat} (hd : d ≤ 50) (hc : c ≤ m) : PulB (pulR v id (c : Int)) id (d : Int) k d := by
  have hp := h.part hc
  rw [hp.rs.1]
  obtain ⟨g1, g2⟩ := pullL_ok c v k h.ok h.lt h.nln
  exact ⟨rfl, hd, g1, by rw [atR_ids g2.ids]; exact h.at_, by rw [g2.len]; exact h.lt, by rw [g2.id]; exact h.ido, by rw [g2.ln, g2.gs]; exact h.no⟩
theorem PulB.two {v : Rv} {id most : Int} {k m : Nat} (h : PulB v id most k m) {c : Nat} (hc : c ≤ m) : pulR (pulR v id (c : Int)) id ((m - c : Nat) : Int) = pulR v id most ∧ pulT v id (c : Int) ++ pulT (pulR v id (c : Int)) id ((m - c : Nat) : Int) = pulT v id most ∧ okR restR (pulR v id (c : Int)) = true := by
  have hp := h.part hc
  have hn := h.next (c := c) (d := m - c) (by have := h.le; omega) hc
  obtain ⟨s1, s2⟩ := pullL_split c (m - c) v k h.ok h.lt h.nln
  rw [show c + (m - c) = m by omega] at s1 s2
  refine ⟨?_, ?_, hn.ok⟩
  · rw [hn.rs.1, hp.rs.1, h.rs.1]; exact s1.symm
  · rw [hn.rs.2.1, hp.rs.1, hp.rs.2.1, h.rs.2.1]; exact s2.symm
theorem PulB.rise {v : Rv} {id most : Int} {k m : Nat} (h : PulB v id most k m) : riseT (v.sb.getD k Sb0).fl ((v.sb.getD k Sb0).cu - 1) (pulT v id most) := by
  rw [h.rs.2.1]; exact pullL_rise m v k _ (ok_rd h.ok h.lt) (by omega)
open Go.RowKit Go.Maps Pl Il
set_option maxRecDepth 10000 in
theorem neqTdq (kd a b : Int) (s : ByteArray) (ix n : Int) (w : World) : (binOp .neq 53 (.agg #[.int .i64 kd, .int .i64 a, .int .i64 b, .string s, .int .i64 ix, .int .i64 n]) (.agg #[.int .i64 kd, .int .i64 a, .int .i64 b, .string s, .int .i64 ix, .int .i64 n])).run Tryz.prog w = .ok (.bool false) w := by
  have u3 := Tryz.underlying3
  have a3 := Tryz.isAgg3
  have z3 := Tryz.sizeOf3
  have u9 := Tryz.underlying9
  have a9 := Tryz.isAgg9
  have z9 := Tryz.sizeOf9
  have hS : Tryz.prog.underlying 53 = some (.struct (Tryz.prog.fieldsOf 53)) := by kernel_rfl
  have hp : Tryz.prog.stoodInHeld 53 = false := by kernel_rfl
  have hS2 : Tryz.prog.underlying 30 = some (.struct (Tryz.prog.fieldsOf 30)) := by kernel_rfl
  have hp2 : Tryz.prog.stoodInHeld 30 = false := by kernel_rfl
  have aM := Tryz.isAgg30
  have zM := Tryz.sizeOf30
  have e2 : (Op.equalIn 9999 30 (.agg #[.int .i64 a, .int .i64 b, .string s]) (.agg #[.int .i64 a, .int .i64 b, .string s])).run Tryz.prog w = .ok true w := by
    rw [show (9999 : Nat) = 9998 + 1 from rfl, run_equalIn_agg w 9998 30 _ _ hS2 hp2]
    simp only [Program.fieldsOf, Tryz.underlying30]
    go_simp
  have e : (Op.equalIn 10000 53 (.agg #[.int .i64 kd, .int .i64 a, .int .i64 b, .string s, .int .i64 ix, .int .i64 n]) (.agg #[.int .i64 kd, .int .i64 a, .int .i64 b, .string s, .int .i64 ix, .int .i64 n])).run Tryz.prog w = .ok true w := by
    rw [show (10000 : Nat) = 9999 + 1 from rfl, run_equalIn_agg w 9999 53 _ _ hS hp]
    simp only [Program.fieldsOf, Tryz.underlying53]
    have hP : (part 30 #[.int .i64 kd, .int .i64 a, .int .i64 b, .string s, .int .i64 ix, .int .i64 n] 1).run Tryz.prog w = .ok (.agg #[.int .i64 a, .int .i64 b, .string s]) w := by
      unfold part
      simp [Sem.run_bind, aM, zM]
    have n1 : ("Kind" : String) ≠ "_" := by decide
    have n2 : ("Msg" : String) ≠ "_" := by decide
    have n3 : ("Index" : String) ≠ "_" := by decide
    have n4 : ("N" : String) ≠ "_" := by decide
    have hI : ∀ (k : Nat) (x : Int), (#[.int .i64 kd, .int .i64 a, .int .i64 b, .string s, .int .i64 ix, .int .i64 n] : Array Value)[k]? = some (.int .i64 x) → (part 3 #[.int .i64 kd, .int .i64 a, .int .i64 b, .string s, .int .i64 ix, .int .i64 n] k).run Tryz.prog w = .ok (.int .i64 x) w := fun k x hk => by
      unfold part
      simp [Sem.run_bind, a3, z3, hk]
    have h0 := hI 0 kd rfl
    have h4 := hI 4 ix rfl
    have h5 := hI 5 n rfl
    have hE : ∀ x : Int, (Op.equalIn 9999 3 (.int .i64 x) (.int .i64 x)).run Tryz.prog w = .ok true w := fun x => by go_simp
    simp [Op.eqFields, Sem.run_bind, hP, e2, h0, h4, h5, hE]
  rw [run_neq_struct, e]; rfl
end Go.Proofs.YtdboaoejlkkoeaaGreat
namespace Go.Proofs.YtdboaoejlkkoeaaGreat
open Go.RowKit Pl Il
theorem pullL_len : ∀ (n : Nat) (v : Rv) (k : Nat), (pullL n v k).2.1.length ≤ n
  | 0, _, _ => Nat.le_refl _
  | n + 1, v, k => by
    rw [pullL_succ]
    by_cases hc : readC v (v.sb.getD k Sb0) = 0
    · rw [if_pos hc]
      have := pullL_len n (trimR (rdV v k)) k
      simp only [List.length_cons]
      omega
    · rw [if_neg hc]
      exact Nat.zero_le _
theorem pulT_len (v : Rv) (id most : Int) : (pulT v id most).length ≤ 2097152 := by
  unfold pulT
  by_cases h : okR restR v = true ∧ 0 ≤ most ∧ most ≤ 50
  · rw [if_pos h]
    by_cases h1 : atR v.sb id < 0
    · rw [if_pos h1]
      exact Nat.zero_le _
    · rw [if_neg h1]
      by_cases h2 : (hasL v.ln id || hasL v.gs id) = true
      · rw [if_pos h2]
        exact Nat.zero_le _
      · rw [if_neg h2]
        have := pullL_len most.toNat v (atR v.sb id).toNat
        omega
  · rw [if_neg h]
    exact Nat.zero_le _
end Go.Proofs.YtdboaoejlkkoeaaGreat
namespace Go.Proofs.YtdboaoejlkkoeaaGreat
open Go.RowKit Go.Maps Pl Il
set_option maxRecDepth 100000 in
set_option maxHeartbeats 4000000 in
theorem sameTold_any (a a' : Option Addr) (n n' cap cap' : Nat) (l : List Td) (w : World) (hI : TdAt w a n l) (hJ : TdAt w a' n' l) (hn : n ≤ 2097152) :
    Calls Tryz.prog 33 #[.slice a n cap, .slice a' n' cap'] w fun e w' => e = .returned (.bool true) ∧ Below w.heap.size w w' := by
  obtain rfl : n = n' := by rw [← hI.len, ← hJ.len]
  have HI := hidOf hI
  have HJ := hidOf hJ
  clear hI hJ
  go_enter Tryz.func33, Tryz.ntmps33
  go_wp2
  go_loopw [5] (fun i wr => ∃ k : Nat, k ≤ n ∧ i = .int .i64 (k : Int) ∧ Below w.heap.size w wr) (fun i _ => n - (intOf i).toNat)
  case atStart => exact ⟨0, Nat.zero_le _, rfl, Below.refl _ _⟩
  case round =>
    rename_i wr
    obtain ⟨k, hk, rfl, hB⟩ := hrel
    by_cases hlt : k < n
    · obtain hr | ⟨b, off, rfl, hb, hcell⟩ := HI.out.row
      · omega
      obtain hr' | ⟨b', off', rfl, hb', hcell'⟩ := HJ.out.row
      · omega
      obtain ⟨c0, c1, c2, c3, c4, c5⟩ := (hcell k hlt).keep hB
      obtain ⟨d0, d1, d2, d3, d4, d5⟩ := (hcell' k hlt).keep hB
      obtain ⟨t, ht⟩ : ∃ t, dg l k = t := ⟨_, rfl⟩
      rw [ht] at c0 c1 c2 c3 c4 c5 d0 d1 d2 d3 d4 d5
      have HB := hidOf hB
      have hq := fun w => neqTdq t.kd t.ms.1 t.ms.2.1 t.ms.2.2 t.ix t.n w
      clear hcell hcell' ht hB
      go_wp2_with fail
      go_quiet (fail)
      go_wp2_with fail
      go_roundw
      case rel => exact ⟨k + 1, hlt, by go_num, bl_drewN HB.out _⟩
      case measure => simp [intOf]; omega
    · obtain rfl : k = n := by omega
      go_wp2
      go_ret
      exact ⟨rfl, hB⟩
theorem dflat_append (l l' : List Td) : dflat (l ++ l') = dflat l ++ dflat l' := by simp [dflat]
theorem one_dflat (l : List Td) : ∀ u ∈ dflat l, u.oneCell' = true := fun u hu => by
  unfold dflat at hu
  rw [List.mem_flatMap] at hu
  obtain ⟨t, _, hu⟩ := hu
  simp only [List.mem_cons, List.not_mem_nil, or_false] at hu
  obtain rfl | rfl | rfl | rfl | rfl | rfl := hu <;> rfl
theorem TdAt.src {w : World} {a : Option Addr} {n : Nat} {l : List Td} (h : TdAt w a n l) : n = 0 ∨ ∃ b off, a = some ⟨b, off, none⟩ ∧ ∀ j u, (dflat l)[j]? = some u → w.cell? ⟨b, off + j, none⟩ = some u := by
  rcases h.row with k | ⟨b, off, e, hb, hc⟩
  · exact .inl k
  · refine .inr ⟨b, off, e, fun j u hu => ?_⟩
    have hj : j < n * 6 := by
      have := (List.getElem?_eq_some_iff.1 hu).1
      rw [dflat_len, h.len] at this
      exact this
    have hi : j / 6 < n := by omega
    have hr : j % 6 < 6 := by omega
    have hg := dflat_get l (j / 6) (j % 6) (by rw [h.len]; exact hi) hr
    rw [show j / 6 * 6 + j % 6 = j by omega, hu] at hg
    obtain ⟨c0, c1, c2, c3, c4, c5⟩ := hc (j / 6) hi
    have hoff : off + j = off + j / 6 * 6 + j % 6 := by omega
    rw [hoff]
    generalize j % 6 = r at hr hg
    match r, hr with
    | 0, _ => simp at hg; rw [hg]; exact c0
    | 1, _ => simp at hg; rw [hg]; exact c1
    | 2, _ => simp at hg; rw [hg]; exact c2
    | 3, _ => simp at hg; rw [hg]; exact c3
    | 4, _ => simp at hg; rw [hg]; exact c4
    | 5, _ => simp at hg; rw [hg]; exact c5
theorem append_tds (B m : Nat) (v : Value) (ys : List Td) (a : Option Addr) (n cap : Nat) (ts : List Td) (w : World) (ho : w.ownsRow B 53 6 v m (dflat ys)) (hB : B ≤ w.heap.size) (hI : TdAt w a n ts) (hn : m + n ≤ 4194304) :
    ∃ (a' : Option Addr) (c' : Nat) (w' : World), (Builtin.append_ #[48, 48] 48 #[v, .slice a n cap]).run Tryz.prog w = .ok (.slice a' (m + n) c') w' ∧ w'.ownsRow B 53 6 (.slice a' (m + n) c') (m + n) (dflat (ys ++ ts)) ∧ w.grownBy w' v.ownBlock ∧
      (∀ q, (Value.slice a' (m + n) c').ownBlock = some q → v.ownBlock = some q ∨ w.heap.size ≤ q) := by
  rw [dflat_append]
  exact append_gen Tryz.underlying48 rinfoT rfl (by omega) (by omega) B m v _ a n cap (dflat ts) w ho hB (by rw [dflat_len, hI.len]) hI.src (one_dflat ts) hn
end Go.Proofs.YtdboaoejlkkoeaaGreat
namespace Go.Proofs.YtdboaoejlkkoeaaGreat
open Go.RowKit Pl Il
theorem rowF_below {B : Nat} {w0 w w' : World} {v : Value} {n : Nat} {t : TypeId} {xs : List Value} (h : Below B w0 w) (ho : w.ownsRow B t 3 v n xs) (hg : w.grownBy w' v.ownBlock) (hB : B ≤ w.heap.size) : Below B w0 w' :=
  h.grown hg hB (fun k hk => (ho.lt k hk).1)
theorem TmAt.grown {B : Nat} {w w' : World} {v : Value} {m : Nat} {t : TypeId} {xs : List Value} {a : Option Addr} {n : Nat} {ts : List Tm} (h : TmAt w a n ts) (ho : w.ownsRow B t 3 v m xs) (hg : w.grownBy w' v.ownBlock) (hB : B ≤ w.heap.size) (hlt : n = 0 ∨ ∀ b off, a = some ⟨b, off, none⟩ → b < B) : TmAt w' a n ts :=
  h.below (rowF_below (Below.refl B w) ho hg hB) hlt
theorem short_app {l m : List Tm} (h : ∀ p, p ∈ l → p.2.2.size ≤ maxLen) (k : ∀ p, p ∈ m → p.2.2.size ≤ maxLen) : ∀ p, p ∈ l ++ m → p.2.2.size ≤ maxLen := fun p hp => by
  rcases List.mem_append.1 hp with hp | hp
  · exact h p hp
  · exact k p hp
theorem slice_form {B : Nat} {w : World} {t : TypeId} {v : Value} {n : Nat} {l : List Tm} (ho : w.ownsRow B t 3 v n (qflat l)) : ∃ a c, v = .slice a n c := by
  obtain ⟨_, ⟨rfl, rfl⟩ | ⟨g, cp, cur, rfl, _⟩⟩ := ho
  · exact ⟨_, _, rfl⟩
  · exact ⟨_, _, rfl⟩
end Go.Proofs.YtdboaoejlkkoeaaGreat
namespace Go.Proofs.YtdboaoejlkkoeaaGreat
open Go.RowKit Pl Il Dr
set_option maxHeartbeats 4000000 in
theorem l8Leaf_any (a : Option Addr) (len cap : Nat) (c : Nat) (w : World) (hC : Cur c a len cap w) :
  Calls Tryz.prog 188 #[.pointer (some ⟨c, 0, none⟩)] w fun e w' => ∃ t : Tm, e = .returned (.agg #[.int .i64 t.1, .int .i64 t.2.1, .string t.2.2]) ∧ t.2.2.size ≤ 40 ∧ Drawn c a len cap w w' := by
 have hlt := hC.lt
 have hne : w.heap.size ≠ c := by omega
 have HC := hidOf hC
 clear hC
 go_enter Tryz.func188, Tryz.ntmps188
 go_wp2_with fail
 refine (below_any a len cap c _ _ (HC.out.alloc _) (by omega) (by omega)).mono ?_
 rintro e w1 ⟨x, rfl, x0, x1, hd1⟩
 have b1 := (Box3.new w (.int .i64 0) (.int .i64 0) (.string ⟨#[]⟩) 132).drawn hd1 hne
 have hD1 : Drawn c a len cap w w1 := ((Drawn.start HC.out).alloc _).trans hd1
 clear hd1
 by_cases h0 : x = 0
 ·subst h0
  have HD := hidOf (((hD1.store HC.out ⟨w.heap.size, 0, none⟩ (Nat.le_refl _) (.int .i64 1)).store HC.out ⟨w.heap.size, 1, none⟩ (Nat.le_refl _) (.int .i64 0)).store HC.out ⟨w.heap.size, 2, none⟩ (Nat.le_refl _) (.string ⟨#[]⟩))
  obtain ⟨_, p0, p1, p2, pf⟩ := id b1
  clear hD1 b1
  go_wp2
  exact bodyPost_ret (v := .agg #[.int .i64 1, .int .i64 0, .string ⟨#[]⟩]) (by simp [results, Tryz.results188, go_sem, p0, p1, p2]) rfl ⟨(1, 0, ⟨#[]⟩), rfl, (by exact (by decide : (0 : Nat) ≤ 40)), HD.out⟩
 by_cases h1 : x = 1
 ·subst h1
  have HD := hidOf (((hD1.store HC.out ⟨w.heap.size, 0, none⟩ (Nat.le_refl _) (.int .i64 2)).store HC.out ⟨w.heap.size, 1, none⟩ (Nat.le_refl _) (.int .i64 0)).store HC.out ⟨w.heap.size, 2, none⟩ (Nat.le_refl _) (.string ⟨#[]⟩))
  obtain ⟨_, p0, p1, p2, pf⟩ := id b1
  clear hD1 b1
  go_wp2
  exact bodyPost_ret (v := .agg #[.int .i64 2, .int .i64 0, .string ⟨#[]⟩]) (by simp [results, Tryz.results188, go_sem, p0, p1, p2]) rfl ⟨(2, 0, ⟨#[]⟩), rfl, (by exact (by decide : (0 : Nat) ≤ 40)), HD.out⟩
 by_cases h2 : x = 2
 ·subst h2
  have HD := hidOf (((hD1.store HC.out ⟨w.heap.size, 0, none⟩ (Nat.le_refl _) (.int .i64 3)).store HC.out ⟨w.heap.size, 1, none⟩ (Nat.le_refl _) (.int .i64 0)).store HC.out ⟨w.heap.size, 2, none⟩ (Nat.le_refl _) (.string ⟨#[]⟩))
  obtain ⟨_, p0, p1, p2, pf⟩ := id b1
  clear hD1 b1
  go_wp2
  exact bodyPost_ret (v := .agg #[.int .i64 3, .int .i64 0, .string ⟨#[]⟩]) (by simp [results, Tryz.results188, go_sem, p0, p1, p2]) rfl ⟨(3, 0, ⟨#[]⟩), rfl, (by exact (by decide : (0 : Nat) ≤ 40)), HD.out⟩
 by_cases h3 : x = 3
 ·subst h3
  go_wp2_with fail
  refine (below_any a len cap c _ _ hD1.cur (by omega) (by omega)).mono ?_
  rintro e w2 ⟨y, rfl, y0, y1, hd2⟩
  have b2 := b1.drawn hd2 hne
  have hD2 := hD1.trans hd2
  have HD := hidOf (((hD2.store HC.out ⟨w.heap.size, 0, none⟩ (Nat.le_refl _) (.int .i64 4)).store HC.out ⟨w.heap.size, 1, none⟩ (Nat.le_refl _) (.int .i64 (y - 6))).store HC.out ⟨w.heap.size, 2, none⟩ (Nat.le_refl _) (.string ⟨#[]⟩))
  obtain ⟨_, p0, p1, p2, pf⟩ := id b2
  clear hD1 b1 hd2 hD2 b2
  go_wp2
  exact bodyPost_ret (v := .agg #[.int .i64 4, .int .i64 (y - 6), .string ⟨#[]⟩]) (by simp [results, Tryz.results188, go_sem, p0, p1, p2]) rfl ⟨(4, (y - 6), ⟨#[]⟩), rfl, (by exact (by decide : (0 : Nat) ≤ 40)), HD.out⟩
 by_cases h4 : x = 4
 ·subst h4
  go_wp2_with fail
  refine (below_any a len cap c _ _ hD1.cur (by omega) (by omega)).mono ?_
  rintro e w2 ⟨y, rfl, y0, y1, hd2⟩
  have b2 := b1.drawn hd2 hne
  have hD2 := hD1.trans hd2
  have HD := hidOf (((hD2.store HC.out ⟨w.heap.size, 0, none⟩ (Nat.le_refl _) (.int .i64 5)).store HC.out ⟨w.heap.size, 1, none⟩ (Nat.le_refl _) (.int .i64 (1 + y))).store HC.out ⟨w.heap.size, 2, none⟩ (Nat.le_refl _) (.string ⟨#[]⟩))
  obtain ⟨_, p0, p1, p2, pf⟩ := id b2
  clear hD1 b1 hd2 hD2 b2
  go_wp2
  exact bodyPost_ret (v := .agg #[.int .i64 5, .int .i64 (1 + y), .string ⟨#[]⟩]) (by simp [results, Tryz.results188, go_sem, p0, p1, p2]) rfl ⟨(5, (1 + y), ⟨#[]⟩), rfl, (by exact (by decide : (0 : Nat) ≤ 40)), HD.out⟩
 have e0 : (x == 0) = false := by simp [h0]
 have e1 : (x == 1) = false := by simp [h1]
 have e2 : (x == 2) = false := by simp [h2]
 have e3 : (x == 3) = false := by simp [h3]
 have e4 : (x == 4) = false := by simp [h4]
 by_cases h5 : x = 5
 ·subst h5
  go_wp2_with fail
  refine (pick_any a len cap c w1.heap.size 3 _ (hD1.cur.alloc _) (by simp) (by have := hD1.cur.lt; omega) (by omega) (by omega) (row_strs _ _ _ _ (by decide))).mono ?_
  rintro e w2 ⟨t, rfl, ht, hd2⟩
  have b2 := (b1.alloc _).drawn hd2 hne
  have hD2 := (hD1.alloc _).trans hd2
  have HD := hidOf (((hD2.store HC.out ⟨w.heap.size, 0, none⟩ (Nat.le_refl _) (.int .i64 6)).store HC.out ⟨w.heap.size, 1, none⟩ (Nat.le_refl _) (.int .i64 0)).store HC.out ⟨w.heap.size, 2, none⟩ (Nat.le_refl _) (.string t))
  obtain ⟨_, p0, p1, p2, pf⟩ := id b2
  clear hD1 b1 hd2 hD2 b2
  go_wp2
  exact bodyPost_ret (v := .agg #[.int .i64 6, .int .i64 0, .string t]) (by simp [results, Tryz.results188, go_sem, p0, p1, p2]) rfl ⟨(6, 0, t), rfl, ht, HD.out⟩
 ·have e5 : (x == 5) = false := by simp [h5]
  go_wp2_with fail
  refine (pick_any a len cap c w1.heap.size 4 _ (hD1.cur.alloc _) (by simp) (by have := hD1.cur.lt; omega) (by omega) (by omega) (row_strs _ _ _ _ (by decide))).mono ?_
  rintro e w2 ⟨t, rfl, ht, hd2⟩
  have b2 := (b1.alloc _).drawn hd2 hne
  have hD2 := (hD1.alloc _).trans hd2
  have HD := hidOf (((hD2.store HC.out ⟨w.heap.size, 0, none⟩ (Nat.le_refl _) (.int .i64 7)).store HC.out ⟨w.heap.size, 1, none⟩ (Nat.le_refl _) (.int .i64 0)).store HC.out ⟨w.heap.size, 2, none⟩ (Nat.le_refl _) (.string t))
  obtain ⟨_, p0, p1, p2, pf⟩ := id b2
  clear hD1 b1 hd2 hD2 b2
  go_wp2
  exact bodyPost_ret (v := .agg #[.int .i64 7, .int .i64 0, .string t]) (by simp [results, Tryz.results188, go_sem, p0, p1, p2]) rfl ⟨(7, 0, t), rfl, ht, HD.out⟩
open Go.RowKit Pl Il Dr
theorem Drawn.grown {c : Nat} {a : Option Addr} {len cap : Nat} {w u u' : World} {g : Nat} (h : Drawn c a len cap w u) (hC : Cur c a len cap w) (hg : u.grownBy u' (some g)) (hge : w.heap.size ≤ g) : Drawn c a len cap w u' := by
  have hlt := hC.lt
  have key : ∀ b, b < u.heap.size → b ≠ g → u'.heap[b]? = u.heap[b]? := fun b hb hn => hg.block b hb (by simpa using hn)
  have hcell : ∀ o, u'.cell? ⟨c, o, none⟩ = u.cell? ⟨c, o, none⟩ := fun o => World.cell?_of_block (key c h.cur.lt (by omega))
  have hfr : ∀ o, u'.frozen? ⟨c, o, none⟩ = u.frozen? ⟨c, o, none⟩ := fun o => World.frozen?_of_block (key c h.cur.lt (by omega))
  refine ⟨⟨Nat.lt_of_lt_of_le h.cur.lt hg.size, ?_, by rw [hcell]; exact h.cur.at0, by rw [hcell]; exact h.cur.at1, by rw [hcell]; exact h.cur.at2, by rw [hfr]; exact h.cur.fr1, by rw [hfr]; exact h.cur.fr2⟩, ?_⟩
  · obtain ⟨hl, hm, k | ⟨b, off, rfl, hb, hn, hc⟩⟩ := h.cur.bytes
    · exact ⟨hl, hm, .inl k⟩
    · obtain ⟨_, _, k | ⟨b', off', e, hb', _⟩⟩ := hC.bytes
      · exact ⟨hl, hm, .inl k⟩
      · cases e
        refine ⟨hl, hm, .inr ⟨b, off, rfl, Nat.lt_of_lt_of_le hb hg.size, hn, fun i hi => ?_⟩⟩
        have : u'.cell? ⟨b, off + i, none⟩ = u.cell? ⟨b, off + i, none⟩ := World.cell?_of_block (key b hb (by omega))
        rw [this]; exact hc i hi
  · refine ⟨hg.os.trans h.ex.os, hg.tape.trans h.ex.tape, hg.output.trans h.ex.output, Nat.le_trans h.ex.size hg.size, fun i hi hn => ?_⟩
    rw [key i (Nat.lt_of_lt_of_le hi h.ex.size) (by omega)]
    exact h.ex.block i hi hn
structure FV (w : World) (c : Nat) (a : Option Addr) (len cap : Nat) (v : Value) (m : Nat) (l : List Tm) (u : World) : Prop where
  D : Drawn c a len cap w u
  row : u.ownsRow w.heap.size 132 3 v m (qflat l)
  short : ∀ p, p ∈ l → p.2.2.size ≤ maxLen
theorem rowF_ex {B c : Nat} {u u' : World} {t : TypeId} {v : Value} {m : Nat} {xs : List Value} (h : u.ownsRow B t 3 v m xs) (hx : Ex c u u') (hc : c < B) : u'.ownsRow B t 3 v m xs := by
  refine h.kept (row := some c) hx ?_
  cases e : v.ownBlock with
  | none => exact .inl rfl
  | some q => exact .inr (fun e' => by cases e'; have := (h.lt _ e).1; omega)
theorem FV.draw {w : World} {c : Nat} {a : Option Addr} {len cap : Nat} {v : Value} {m : Nat} {l : List Tm} {u u' : World} (h : FV w c a len cap v m l u) (hd : Drawn c a len cap u u') (hc : c < w.heap.size) : FV w c a len cap v m l u' :=
  ⟨h.D.trans hd, rowF_ex h.row hd.ex hc, h.short⟩
theorem FV.alloc {w : World} {c : Nat} {a : Option Addr} {len cap : Nat} {v : Value} {m : Nat} {l : List Tm} {u : World} (h : FV w c a len cap v m l u) (o : Obj) : FV w c a len cap v m l (u.alloc o) :=
  ⟨h.D.alloc o, h.row.alloc o, h.short⟩
theorem FV.app {w : World} {c : Nat} {a : Option Addr} {len cap : Nat} {v : Value} {m : Nat} {l : List Tm} {u : World} (h : FV w c a len cap v m l u) (hC : Cur c a len cap w) (q : Nat) (news : List Tm) (cs : Array Value) (hI : TmAt (u.alloc (.cells cs 132)) (some ⟨u.heap.size, 0, none⟩) q news) (hs : m + q ≤ 4194304) :
    ∃ (a' : Option Addr) (c' : Nat) (w' : World), (Builtin.append_ #[39, 39] 39 #[v, .slice (some ⟨u.heap.size, 0, none⟩) q q]).run Tryz.prog (u.alloc (.cells cs 132)) = .ok (.slice a' (m + q) c') w' ∧ FV w c a len cap (.slice a' (m + q) c') (m + q) (l ++ news) w' := by
  have hA := h.alloc (.cells cs 132)
  obtain ⟨v', w', hr, ho, hg⟩ := append_tms w.heap.size v m l _ q q news _ hA.row hA.D.ex.size hI hs
  obtain ⟨a', c', rfl⟩ := slice_form ho
  refine ⟨a', c', w', hr, ⟨?_, ho, short_app h.short hI.short⟩⟩
  cases e : v.ownBlock with
  | some g =>
    rw [e] at hg
    exact hA.D.grown hC hg (h.row.lt g e).1
  | none =>
    rw [e] at hg
    have hb : Below (u.alloc (.cells cs 132)).heap.size (u.alloc (.cells cs 132)) w' := ⟨hg.os, hg.tape, hg.output, hg.size, fun k hk => hg.block k hk (by simp)⟩
    exact ⟨hA.D.cur.keep hb, hA.D.ex.trans (Ex.of hb)⟩
theorem new1 (u : World) (t : Tm) (ht : t.2.2.size ≤ maxLen) : TmAt (u.alloc (.cells #[.int .i64 t.1, .int .i64 t.2.1, .string t.2.2] 132)) (some ⟨u.heap.size, 0, none⟩) 1 [t] :=
  ⟨rfl, fun p hp => by simp only [List.mem_singleton] at hp; subst hp; exact ht, .inr ⟨u.heap.size, 0, rfl, by simp, fun i hi => by
    obtain rfl : i = 0 := by omega
    simp [qg]⟩⟩
theorem new2 (u : World) (t t' : Tm) (ht : t.2.2.size ≤ maxLen) (ht' : t'.2.2.size ≤ maxLen) : TmAt (u.alloc (.cells #[.int .i64 t.1, .int .i64 t.2.1, .string t.2.2, .int .i64 t'.1, .int .i64 t'.2.1, .string t'.2.2] 132)) (some ⟨u.heap.size, 0, none⟩) 2 [t, t'] :=
  ⟨rfl, fun p hp => by
    simp only [List.mem_cons, List.not_mem_nil, or_false] at hp
    rcases hp with rfl | rfl
    · exact ht
    · exact ht', .inr ⟨u.heap.size, 0, rfl, by simp, fun i hi => by
    have h : i = 0 ∨ i = 1 := by omega
    rcases h with rfl | rfl
    · simp [qg]
    · simp [qg]⟩⟩
theorem FV.form {w : World} {c : Nat} {a : Option Addr} {len cap : Nat} {v : Value} {m : Nat} {l : List Tm} {u : World} (h : FV w c a len cap v m l u) : ∃ a' c', v = .slice a' m c' := slice_form h.row
theorem small40 {s : ByteArray} (h : s.size ≤ 40) : s.size ≤ maxLen := by unfold maxLen; omega
def FilP (w : World) (c : Nat) (a : Option Addr) (len cap K : Nat) (e : Ending) (w' : World) : Prop := ∃ (a' : Option Addr) (m c' : Nat) (l : List Tm), e = .returned (.slice a' m c') ∧ m ≤ K ∧ FV w c a len cap (.slice a' m c') m l w'
end Go.Proofs.YtdboaoejlkkoeaaGreat
namespace Go.Proofs.YtdboaoejlkkoeaaGreat
open Go.RowKit Go.Maps Pl Il
theorem lostAhead_E (r s c : Int) (w : World) (h1 : IntKind.i64.wrap (s - r) = s - r) (h2 : IntKind.i64.wrap (s - r - c) = s - r - c) :
    Calls Tryz.prog 112 #[.int .i64 r, .int .i64 s, .int .i64 c] w fun e w' => e = .returned (.int .i64 (if s - r - c < 0 then 0 else s - r - c)) ∧ w' = w := by
  by_cases hn : s - r - c < 0
  · rw [if_pos hn]
    go_enter Tryz.func112, Tryz.ntmps112
    go_wp2
    all_goals go_ret
    all_goals exact ⟨rint (by omega), rfl⟩
  · rw [if_neg hn]
    go_enter Tryz.func112, Tryz.ntmps112
    go_wp2
    all_goals go_ret
    all_goals exact ⟨rint (by omega), rfl⟩
abbrev SkE (b : Nat) (v : Rv) (g k : Nat) (cu : Int) (u : World) : Prop := u.cell? ⟨b, 2, none⟩ = some (.int .i64 v.cp) ∧ u.cell? ⟨b, 55, none⟩ = some (.int .i64 v.se) ∧ u.cell? ⟨g, k * 7 + 2, none⟩ = some (.int .i64 cu)
theorem passM_eq {fl : List Tm} {m1 m2 : Int} {m3 : ByteArray} (h1 : okF fl = true) (h2 : okB m1 m2 m3 = true) : passM fl m1 m2 m3 = pasR fl (m1, m2, m3) := by
  unfold passM pasR
  rw [h1, h2]
  rfl
def ysS (ys : List Sa) (k : Nat) (s' : Sb) : List Sa := ys.set k ⟨s', (sg ys k).a, (sg ys k).n, (sg ys k).c⟩
theorem ysS_len (ys : List Sa) (k : Nat) (s' : Sb) : (ysS ys k s').length = ys.length := by simp [ysS]
theorem ysS_get {ys : List Sa} {k : Nat} {s' : Sb} (hk : k < ys.length) : sg (ysS ys k s') k = ⟨s', (sg ys k).a, (sg ys k).n, (sg ys k).c⟩ := by
  rw [sg_eq (by rw [ysS_len]; exact hk)]
  simp [ysS]
theorem ysS_put {ys : List Sa} {k r : Nat} {s' : Sb} {z : Int} (hk : k < ys.length) : putS (ysS ys k s') k r z = ysS ys k (subPut s' r z) := by
  unfold putS
  rw [ysS_get hk]
  unfold ysS putA
  rw [List.set_set]
theorem ysS_self {ys : List Sa} {k : Nat} (hk : k < ys.length) : ysS ys k (sg ys k).s = ys := by
  unfold ysS
  rw [sg_eq hk]
  exact List.set_getElem_self hk
theorem ysS_mem {ys : List Sa} {k : Nat} {s' : Sb} (hk : k < ys.length) : ∀ y, y ∈ ysS ys k s' → ∃ x, x ∈ ys ∧ y.n = x.n := fun y hy => by
  rcases List.mem_or_eq_of_mem_set hy with h | h
  · exact ⟨y, h, rfl⟩
  · exact ⟨sg ys k, sg_mem hk, by rw [h]⟩
theorem GOk.grown {w w' : World} {q : Option Nat} (h : GOk w) (hg : w.grownBy w' q) (hq : q ≠ some 0) : GOk w' := by
  obtain ⟨m, hm⟩ := h
  have hl : 0 < w.heap.size := by
    rcases Nat.lt_or_ge 0 w.heap.size with h | h
    · exact h
    · unfold World.cell? at hm
      rw [Array.getElem?_eq_none h] at hm
      cases hm
  exact ⟨m, by rw [← hm]; exact World.cell?_of_block (hg.block _ hl (fun e => hq e.symm))⟩
theorem GOk.lt {w : World} (h : GOk w) : 0 < w.heap.size := by
  obtain ⟨m, hm⟩ := h
  rcases Nat.lt_or_ge 0 w.heap.size with h | h
  · exact h
  · unfold World.cell? at hm
    rw [Array.getElem?_eq_none h] at hm
    cases hm
structure RbL (B b : Nat) (A : Na) (P : Nat → Tm) (f : Nat) (v : Rv) (g s sc : Nat) (ys : List Sa) (k : Nat) (w : World) (N : Nat) (s' : Sb) (u : World) : Prop where
  body : RBody B b A P f { v with sb := v.sb.set k s' } (some ⟨g, 0, none⟩) s sc (ysS ys k s') u
  box : BoxL N [.int .i64 0, .int .i64 0, .int .i64 0, .string ⟨#[]⟩, .int .i64 0, .int .i64 0] u
  gr : w.grownBy u (some g)
theorem RbL.keep {B b : Nat} {A : Na} {P : Nat → Tm} {f : Nat} {v : Rv} {g s sc : Nat} {ys : List Sa} {k : Nat} {w : World} {N : Nat} {s' : Sb} {u u' : World} (h : RbL B b A P f v g s sc ys k w N s' u) (hb : Below u.heap.size u u') : RbL B b A P f v g s sc ys k w N s' u' :=
  ⟨h.body.keep hb, h.box.keep hb, h.gr.trans (grown_of hb)⟩
theorem RbL.put {B b : Nat} {A : Na} {P : Nat → Tm} {f : Nat} {v : Rv} {g s sc : Nat} {ys : List Sa} {k : Nat} {w : World} {N : Nat} {s' : Sb} {u : World} (h : RbL B b A P f v g s sc ys k w N s' u) (hk : k < ys.length) (hv : k < v.sb.length) (hN : N ≠ g) (r : Nat) (z : Int) (h2 : 2 ≤ r) (h5 : r ≤ 5) : RbL B b A P f v g s sc ys k w N (subPut s' r z) (u.setCell ⟨g, k * 7 + r, none⟩ (.int .i64 z)) := by
  have hb := h.body.put (k := k) (r := r) (by rw [ysS_len]; exact hk) h2 h5 z
  rw [ysS_put hk] at hb
  simp only at hb
  rw [putV_set hv] at hb
  exact ⟨hb, h.box.far _ _ hN _, h.gr.trans (grown_setC _ _ _ _)⟩
theorem RbL.cell {B b : Nat} {A : Na} {P : Nat → Tm} {f : Nat} {v : Rv} {g s sc : Nat} {ys : List Sa} {k : Nat} {w : World} {N : Nat} {s' : Sb} {u : World} (h : RbL B b A P f v g s sc ys k w N s' u) (hk : k < ys.length) (r : Nat) (hr : r < 7) : u.cell? ⟨g, k * 7 + r, none⟩ = (sC ⟨s', (sg ys k).a, (sg ys k).n, (sg ys k).c⟩)[r]? := by
  rw [row_cell h.body.srow.sb (by rw [ysS_len]; exact hk) hr, ysS_get hk]
theorem at_any (b o : Nat) (P : Nat → Tm) (n : Nat) (w : World) (hP : RndB b o P w) (_hn : n ≤ 2000000000) :
    Calls Tryz.prog 181 #[.pointer (some ⟨b, o, none⟩), .int .i64 (n : Int)] w fun e w' => e = .returned (.agg #[.int .i64 (P (n % 17)).1, .int .i64 (P (n % 17)).2.1, .string (P (n % 17)).2.2]) ∧ Below w.heap.size w w' := by
  have hs : n % 17 < 17 := Nat.mod_lt _ (by omega)
  have hr : (n : Int) % 17 = ((n % 17 : Nat) : Int) := by omega
  obtain ⟨s, hS⟩ : ∃ s, n % 17 = s := ⟨_, rfl⟩
  rw [hS] at hs hr ⊢
  obtain ⟨c0, c1, c2⟩ := hP.pl s hs
  obtain ⟨⟨m1, m2, m3⟩, hm⟩ : ∃ m, P s = m := ⟨_, rfl⟩
  rw [hm] at c0 c1 c2 ⊢
  have hlt := hP.lt
  have d0 := fun q : Obj => (World.cell?_alloc_past (w := w) q b (o + s * 3) hlt).trans c0
  have d1 := fun q : Obj => (World.cell?_alloc_past (w := w) q b (o + s * 3 + 1) hlt).trans c1
  have d2 := fun q : Obj => (World.cell?_alloc_past (w := w) q b (o + s * 3 + 2) hlt).trans c2
  have hsi : (s : Int) < 17 := by omega
  clear hS hm hP hlt c0 c1 c2
  go_enter Tryz.func181, Tryz.ntmps181
  go_wp2
  exact bodyPost_ret (v := .agg #[.int .i64 m1, .int .i64 m2, .string m3]) (by simp [results, Tryz.results181, go_sem]) rfl ⟨rfl, bl_alloc (Below.refl _ _) _⟩
open Go.RowKit Go.Maps Pl Il
def updP (P : Nat → Tm) (s : Nat) (m : Tm) : Nat → Tm := fun j => if j = s then m else P j
def setM (w : World) (b o : Nat) (m : Tm) : World := ((w.setCell ⟨b, o, none⟩ (.int .i64 m.1)).setCell ⟨b, o + 1, none⟩ (.int .i64 m.2.1)).setCell ⟨b, o + 2, none⟩ (.string m.2.2)
theorem setM_other (w : World) (b o : Nat) (m : Tm) (p : Nat) (h : p < o ∨ o + 3 ≤ p) : (setM w b o m).cell? ⟨b, p, none⟩ = w.cell? ⟨b, p, none⟩ := by
  unfold setM
  rw [World.cell?_setCell_other _ _ _ _ (by intro e; injection e with _ e2; omega), World.cell?_setCell_other _ _ _ _ (by intro e; injection e with _ e2; omega), World.cell?_setCell_other _ _ _ _ (by intro e; injection e with _ e2; omega)]
theorem setM_grown (w : World) (b o : Nat) (m : Tm) : w.grownBy (setM w b o m) (some b) := ((grown_setC _ _ _ _).trans (grown_setC _ _ _ _)).trans (grown_setC _ _ _ _)
theorem RndB.put {b o s : Nat} {P : Nat → Tm} {w : World} (h : RndB b o P w) (hs : s < 17) (m : Tm) : RndB b o (updP P s m) (setM w b (o + s * 3) m) := by
  obtain ⟨c0, c1, c2⟩ := h.pl s hs
  refine ⟨?_, fun j hj => ?_⟩
  · obtain ⟨cur, t, hg, hz⟩ := h.blk
    have g1 := heap_setCell_same w b (o + s * 3) cur t (.int .i64 m.1) hg
    have g2 := heap_setCell_same _ b (o + s * 3 + 1) _ t (.int .i64 m.2.1) g1
    have g3 := heap_setCell_same _ b (o + s * 3 + 2) _ t (.string m.2.2) g2
    exact ⟨_, t, g3, by simpa using hz⟩
  · by_cases hj2 : j = s
    · subst hj2
      unfold updP
      rw [if_pos rfl]
      unfold setM
      refine ⟨?_, ?_, ?_⟩
      · rw [World.cell?_setCell_other _ _ _ _ (by intro e; injection e with _ e2; omega), World.cell?_setCell_other _ _ _ _ (by intro e; injection e with _ e2; omega)]
        exact World.cell?_setCell_same _ _ _ c0
      · rw [World.cell?_setCell_other _ _ _ _ (by intro e; injection e with _ e2; omega)]
        exact World.cell?_setCell_same _ _ _ (show World.cell? _ _ = some (Value.int .i64 (P j).2.1) by rw [World.cell?_setCell_other _ _ _ _ (by intro e; injection e with _ e2; omega)]; exact c1)
      · exact World.cell?_setCell_same _ _ _ (show World.cell? _ _ = some (Value.string (P j).2.2) by rw [World.cell?_setCell_other _ _ _ _ (by intro e; injection e with _ e2; omega), World.cell?_setCell_other _ _ _ _ (by intro e; injection e with _ e2; omega)]; exact c2)
    · unfold updP
      rw [if_neg hj2, setM_other _ _ _ _ _ (by omega), setM_other _ _ _ _ _ (by omega), setM_other _ _ _ _ _ (by omega)]
      exact h.pl j hj
theorem itemsP_add {P : Nat → Tm} {f n : Nat} {m : Tm} (hn : n ≤ 16) : itemsP (updP P ((f + n) % 17) m) f (n + 1) = itemsP P f n ++ [m] := by
  unfold itemsP
  rw [List.range_succ, List.map_append]
  congr 1
  · refine List.map_congr_left fun i hi => ?_
    have := List.mem_range.1 hi
    unfold updP
    rw [if_neg (by omega)]
  · simp [updP]
theorem RBody.add {B b : Nat} {A : Na} {P : Nat → Tm} {f : Nat} {v : Rv} {sa : Option Addr} {s sc : Nat} {ys : List Sa} {w : World} (m : Tm) (h : RBody B b A P f v sa s sc ys w) (hi : v.it.length ≤ 16) (hf : f + v.it.length ≤ 1000000000) (hm : m.2.2.size ≤ maxLen) :
    RBody B b A (updP P ((f + v.it.length) % 17) m) f { v with it := v.it ++ [m], se := v.se + 1 } sa s sc ys ((setM w b (3 + (f + v.it.length) % 17 * 3) m).setCell ⟨b, 55, none⟩ (.int .i64 ((f + v.it.length + 1 : Nat) : Int))) := by
  have hs : (f + v.it.length) % 17 < 17 := Nat.mod_lt _ (by omega)
  obtain ⟨s0, hs0⟩ : ∃ s0, (f + v.it.length) % 17 = s0 := ⟨_, rfl⟩
  rw [hs0] at hs ⊢
  have hg : w.grownBy ((setM w b (3 + s0 * 3) m).setCell ⟨b, 55, none⟩ (.int .i64 ((f + v.it.length + 1 : Nat) : Int))) (some b) := (setM_grown _ _ _ _).trans (grown_setC _ _ _ _)
  have ct : ∀ j, (j < 3 ∨ 54 ≤ j) → j ≠ 55 → ((setM w b (3 + s0 * 3) m).setCell ⟨b, 55, none⟩ (.int .i64 ((f + v.it.length + 1 : Nat) : Int))).cell? ⟨b, j, none⟩ = w.cell? ⟨b, j, none⟩ := fun j hj hj2 => by
    rw [World.cell?_setCell_other _ _ _ _ (by intro e; injection e with _ e2; omega), setM_other _ _ _ _ _ (by omega)]
  have hw := (((h.wst.setc (3 + s0 * 3) (by omega) (.int .i64 m.1)).setc (3 + s0 * 3 + 1) (by omega) (.int .i64 m.2.1)).setc (3 + s0 * 3 + 2) (by omega) (.string m.2.2)).setc 55 (by omega) (.int .i64 ((f + v.it.length + 1 : Nat) : Int))
  refine ⟨hw, (h.rnd.put hs m).set 55 (by omega) _, by rw [ct 2 (by omega) (by omega)]; exact h.c2, by rw [ct (3 + 51) (by omega) (by omega)]; exact h.fst, ?_, by rw [ct 56 (by omega) (by omega)]; exact h.c56, by rw [ct 57 (by omega) (by omega)]; exact h.c57, by rw [ct 58 (by omega) (by omega)]; exact h.c58, ⟨rowG h.srow.sb hg (fun q e => by injection e with e; rw [← e]; exact h.nb.1), fun x hx => rowG (h.srow.fl x hx) hg (fun q e => by injection e with e; rw [← e]; exact h.nb.2 x hx), h.srow.fls, h.srow.apt⟩, h.sv, ?_, fun j => ?_, ?_, ?_, h.nb, h.ap⟩
  · have e : (v.it ++ [m]).length = v.it.length + 1 := by simp
    show _ = some (Value.int .i64 ((f + (v.it ++ [m]).length : Nat) : Int))
    rw [e]
    exact World.cell?_setCell_same _ _ _ (by rw [setM_other _ _ _ _ _ (by omega)]; exact h.nxt)
  · show itemsP _ f (v.it ++ [m]).length = v.it ++ [m]
    have e : (v.it ++ [m]).length = v.it.length + 1 := by simp
    rw [e, ← hs0, itemsP_add hi, h.its]
  · unfold updP
    split
    · exact hm
    · exact h.sh j
  · show v.se + 1 = ((f + (v.it ++ [m]).length : Nat) : Int)
    have := h.se
    simp
    omega
  · show (v.it ++ [m]).length ≤ 17 ∧ f + (v.it ++ [m]).length ≤ 2000000000
    simp
    omega
open Go.RowKit Go.Maps Pl Il
theorem sndB_bd (sb : List Sb) (m : Tm) (x y : Int) (h : ∀ s, s ∈ sb → 0 ≤ s.cu ∧ s.cu ≤ x ∧ 0 ≤ s.pa ∧ s.pa ≤ y) : ∀ l : List Int, ∀ s, s ∈ sndB sb m l → 0 ≤ s.cu ∧ s.cu ≤ x + l.length ∧ 0 ≤ s.pa ∧ s.pa ≤ y + l.length := by
  suffices h' : ∀ (l : List Int) (t : List Sb) (n : Nat), (∀ s, s ∈ t → 0 ≤ s.cu ∧ s.cu ≤ x + n ∧ 0 ≤ s.pa ∧ s.pa ≤ y + n) → ∀ s, s ∈ l.foldl (fun s id => if pasR (flAt sb id) m = true then s else bump s (atR sb id).toNat) t → 0 ≤ s.cu ∧ s.cu ≤ x + (n + l.length : Nat) ∧ 0 ≤ s.pa ∧ s.pa ≤ y + (n + l.length : Nat) from fun l s hs => by
    have := h' l sb 0 (fun s hs => by have := h s hs; omega) s hs
    rw [Nat.zero_add] at this
    exact this
  intro l
  induction l with
  | nil => intro t n ht s hs; exact ht s hs
  | cons id l ih =>
    intro t n ht s hs
    rw [List.foldl_cons] at hs
    have := ih _ (n + 1) (fun s hs => by
      split at hs
      · have := ht s hs; omega
      · by_cases hk : (atR sb id).toNat < t.length
        · rcases List.mem_or_eq_of_mem_set hs with h2 | h2
          · have := ht s h2; omega
          · have h3 : t.getD (atR sb id).toNat Sb0 ∈ t := by
              rw [List.getD, List.getElem?_eq_getElem hk, Option.getD_some]; exact List.getElem_mem _
            have h4 := ht _ h3
            rw [h2]
            show 0 ≤ (t.getD (atR sb id).toNat Sb0).cu + 1 ∧ (t.getD (atR sb id).toNat Sb0).cu + 1 ≤ _ ∧ 0 ≤ (t.getD (atR sb id).toNat Sb0).pa + 1 ∧ (t.getD (atR sb id).toNat Sb0).pa + 1 ≤ _
            omega
        · unfold bump at hs
          rw [List.set_eq_of_length_le (by omega)] at hs
          have := ht s hs; omega) s hs
    rw [List.length_cons]
    omega
theorem at_line {v : Rv} {j : Nat} (h : okR restR v = true) (hj : j < v.ln.length) : ¬ atR v.sb (v.ln.getD j 0) < 0 := by
  have hr := h
  simp only [okR, restR, Bool.and_eq_true] at hr
  have hw := hr.2.2.2.2
  unfold waitTo at hw
  rw [List.all_eq_true] at hw
  have h1 := hw j (List.mem_range.2 (by omega))
  unfold waitAt at h1
  simp only [Bool.and_eq_true, decide_eq_true_eq] at h1
  have e2 : (v.ln ++ v.gs).getD j 0 = v.ln.getD j 0 := by
    simp only [List.getD_eq_getElem?_getD]
    rw [List.getElem?_append_left hj]
  rw [e2] at h1
  omega
theorem take_getD {xs : List Int} {j : Nat} (hj : j < xs.length) : xs.take (j + 1) = xs.take j ++ [xs.getD j 0] := by
  rw [List.take_succ_eq_append_getElem hj, List.getD, List.getElem?_eq_getElem hj, Option.getD_some]
theorem ints_row {B : Nat} {w : World} {a : Option Addr} {n c : Nat} {xs : List Int} (h : w.ownsRow B 3 1 (.slice a n c) n (intsV xs)) : IntsAt w a n xs := by
  obtain ⟨a', c', e, ho⟩ := own_of h xs rfl
  injection e with e1 e2 e3
  subst e1
  exact ho.ints
end Go.Proofs.YtdboaoejlkkoeaaGreat
