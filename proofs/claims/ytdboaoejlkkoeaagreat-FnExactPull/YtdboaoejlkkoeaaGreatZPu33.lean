/-
  The specification's Pull: what its loop holds on to
  What a reading tells: the laws' own helper that compares it
  Lists of what is told, in memory; two that read the same are told to b
-/
import Derived.Test.YtdboaoejlkkoeaaGreatZPu32
namespace Go.Proofs.YtdboaoejlkkoeaaGreat
open Go.RowKit Go.Maps Pl Il
abbrev zRp : List Value := [.int .i64 0, .int .i64 0, .slice none 0 0, .int .i64 0, .slice none 0 0, .slice none 0 0, .slice none 0 0, .bool false]
theorem RRow.grownO {B : Nat} {w w' : World} {M : Rm} {v : Rv} (h : RRow B w M v) {g : Option Nat} (hg : w.grownBy w' g) (hn : ∀ q, g = some q → some q ∉ blkR M) : RRow B w' M v := by
  cases g with
  | some q => exact h.grown hg (hn q rfl)
  | none => exact h.grown (N := w.heap.size) ⟨hg.os, hg.tape, hg.output, hg.size, fun k hk _ => hg.block k hk (by intro e; cases e)⟩ (h.new (Nat.le_refl _))
structure PlS (w : World) (B R K most : Nat) (v : Rv) (k j : Nat) (M : Rm) (u : Rv) (l : List Td) (la : Option Addr) (ln lc : Nat) (cd : Int) (wr : World) : Prop where
  inv : PulI most v k j u l cd
  rd : RdOk u k
  row : RRow B wr M u
  le : RLe M 2097152
  lst : wr.ownsRow B 53 6 (.slice la ln lc) ln (dflat l)
  nl : ln = l.length
  lb : ∀ q, (Value.slice la ln lc).ownBlock = some q → some q ∉ blkR M ∧ q ≠ K
  kb : some K ∉ blkR M
  box : BoxL K (rC M u) wr
  res : BoxL R zRp wr
  bel : Below w.heap.size w wr
  rb : R < B
  wr0 : w.heap.size ≤ R
  wk : w.heap.size ≤ K
  bs : B ≤ wr.heap.size
  rk : R ≠ K
section
variable {w : World} {B R K most : Nat} {v : Rv} {k j : Nat} {M : Rm} {u : Rv} {l : List Td} {la : Option Addr} {ln lc : Nat} {cd : Int} {wr w3 : World}
theorem PlS.keep (h : PlS w B R K most v k j M u l la ln lc cd wr) (hb : Below wr.heap.size wr w3) : PlS w B R K most v k j M u l la ln lc cd w3 :=
  ⟨h.inv, h.rd, h.row.keep hb, h.le, ownsRow_keep h.lst hb, h.nl, h.lb, h.kb, h.box.keep hb, h.res.keep hb, bl_trans h.bel hb, h.rb, h.wr0, h.wk, Nat.le_trans h.bs hb.size, h.rk⟩
structure PlR (w : World) (B R K : Nat) (M : Rm) (u1 : Rv) (l : List Td) (la : Option Addr) (ln lc : Nat) (w3 : World) : Prop where
  row : RRow B w3 M u1
  le : RLe M 2097152
  lst : w3.ownsRow B 53 6 (.slice la ln lc) ln (dflat l)
  lb : ∀ q, (Value.slice la ln lc).ownBlock = some q → some q ∉ blkR M ∧ q ≠ K
  kb : some K ∉ blkR M
  box : ∃ vs : List Value, vs.length = 8 ∧ BoxL K vs w3
  res : BoxL R zRp w3
  bel : Below w.heap.size w w3
  bs : B ≤ w3.heap.size
theorem PlS.read {xs' : List Sa} (h : PlS w B R K most v k j M u l la ln lc cd wr) (hrow : RRow B w3 { M with xs := xs' } (rdV u k)) (hn : ∀ y, y ∈ xs' → ∃ x, x ∈ M.xs ∧ y.n = x.n) (gr : wr.grownBy w3 (Value.slice M.sa M.s M.sc).ownBlock) (hbk : blkR { M with xs := xs' } = blkR M) :
    PlR w B R K { M with xs := xs' } (rdV u k) l la ln lc w3 := by
  have hin : ∀ q, (Value.slice M.sa M.s M.sc).ownBlock = some q → some q ∈ blkR M := fun q e => by rw [← e]; simp [blkR]
  have hge : ∀ q, (Value.slice M.sa M.s M.sc).ownBlock = some q → B ≤ q := fun q e => (h.row.blk q (hin q e)).1
  have hrb := h.rb
  have hw0 := h.wr0
  have hbs := h.bs
  refine ⟨hrow, ⟨h.le.i, h.le.s, fun y hy => ?_, h.le.l, h.le.g⟩, rowG h.lst gr (fun q e e2 => (h.lb q e2).1 (hin q e)), fun q e => ⟨by rw [hbk]; exact (h.lb q e).1, (h.lb q e).2⟩, by rw [hbk]; exact h.kb, ⟨rC M u, rfl, h.box.grown gr (fun e => h.kb (hin K e))⟩, h.res.grown gr (fun e => by have := hge R e; omega), h.bel.grown gr (by omega) (fun q e => by have := hge q e; omega), Nat.le_trans hbs gr.size⟩
  obtain ⟨x, hx, e⟩ := hn y hy
  have := h.le.f x hx
  omega
theorem PlR.keep {u1 : Rv} {w4 : World} (h : PlR w B R K M u1 l la ln lc w3) (hb : Below w3.heap.size w3 w4) : PlR w B R K M u1 l la ln lc w4 :=
  ⟨h.row.keep hb, h.le, ownsRow_keep h.lst hb, h.lb, h.kb, by obtain ⟨vs, h1, h2⟩ := h.box; exact ⟨vs, h1, h2.keep hb⟩, h.res.keep hb, bl_trans h.bel hb, Nat.le_trans h.bs hb.size⟩
theorem PlR.trim {ia : Option Addr} {i ic : Nat} {u1 u2 : Rv} {w4 : World} (h : PlR w B R K M u1 l la ln lc w3) (hrow : RRow B w4 { M with ia := ia, i := i, ic := ic } u2) (hi : i ≤ M.i) (hb : Below w3.heap.size w3 w4)
    (hq : (Value.slice ia i ic).ownBlock = (Value.slice M.ia M.i M.ic).ownBlock ∨ ∀ q, (Value.slice ia i ic).ownBlock = some q → w3.heap.size ≤ q) (hrk : R ≠ K) (hwk : w.heap.size ≤ K) :
    PlR w B R K { M with ia := ia, i := i, ic := ic } u2 l la ln lc (setL w4 K 0 (rC { M with ia := ia, i := i, ic := ic } u2)) ∧ BoxL K (rC { M with ia := ia, i := i, ic := ic } u2) (setL w4 K 0 (rC { M with ia := ia, i := i, ic := ic } u2)) := by
  obtain ⟨vs, hv, hbx⟩ := h.box
  have hbx4 := hbx.keep hb
  have hnb : ∀ q, q < w3.heap.size → some q ∉ blkR M → some q ∉ blkR { M with ia := ia, i := i, ic := ic } := fun q hlt hno hm => by
    unfold blkR at hm hno
    rw [List.mem_cons] at hm hno
    rcases hm with e | e
    · rcases hq with k1 | k1
      · exact hno (.inl (by rw [e]; exact k1))
      · have := k1 q e.symm; omega
    · exact hno (.inr e)
  have hK := hnb K hbx.lt h.kb
  have hgr : w4.grownBy (setL w4 K 0 (rC { M with ia := ia, i := i, ic := ic } u2)) (some K) := setL_grown ⟨rfl, rfl, rfl, Nat.le_refl _, fun _ _ _ => rfl⟩
  have hbox : BoxL K (rC { M with ia := ia, i := i, ic := ic } u2) (setL w4 K 0 (rC { M with ia := ia, i := i, ic := ic } u2)) := hbx4.setAll (us := rC { M with ia := ia, i := i, ic := ic } u2) (by rw [hv]; rfl)
  refine ⟨⟨hrow.grown hgr hK, ⟨Nat.le_trans hi h.le.i, h.le.s, h.le.f, h.le.l, h.le.g⟩, rowG (ownsRow_keep h.lst hb) hgr (fun q e e2 => by injection e with e; subst e; exact (h.lb K e2).2 rfl), fun q e => ⟨hnb q (h.lst.lt q e).2 (h.lb q e).1, (h.lb q e).2⟩, hK, ⟨_, rfl, hbox⟩, (h.res.keep hb).setFar hrk, setL_below hwk (bl_trans h.bel hb), ?_⟩, hbox⟩
  rw [setL_size]
  exact Nat.le_trans h.bs hb.size
theorem PlR.told {u2 : Rv} {w4 w5 : World} {la' : Option Addr} {lc' : Nat} {l' : List Td} (h : PlR w B R K M u2 l la ln lc w4) (hbox : BoxL K (rC M u2) w4) (ho : w5.ownsRow B 53 6 (.slice la' (ln + 1) lc') (ln + 1) (dflat l')) (hg : w4.grownBy w5 (Value.slice la ln lc).ownBlock)
    (hq : ∀ q, (Value.slice la' (ln + 1) lc').ownBlock = some q → (Value.slice la ln lc).ownBlock = some q ∨ w4.heap.size ≤ q) (hrb : R < B) (hw0 : w.heap.size ≤ R) :
    PlR w B R K M u2 l' la' (ln + 1) lc' w5 ∧ BoxL K (rC M u2) w5 := by
  have hge : ∀ q, (Value.slice la ln lc).ownBlock = some q → B ≤ q := fun q e => (h.lst.lt q e).1
  have hbs := h.bs
  have hb5 : BoxL K (rC M u2) w5 := hbox.grown hg (fun e => (h.lb K e).2 rfl)
  refine ⟨⟨h.row.grownO hg (fun q e => (h.lb q e).1), h.le, ho, fun q e => ?_, h.kb, ⟨_, rfl, hb5⟩, h.res.grown hg (fun e => by have := hge R e; omega), h.bel.grown hg (by omega) (fun q e => by have := hge q e; omega), Nat.le_trans hbs hg.size⟩, hb5⟩
  rcases hq q e with h1 | h1
  · exact h.lb q h1
  · exact ⟨fun hm => by have := (h.row.blk q hm).2; omega, by have := hbox.lt; omega⟩
theorem PlR.pls {u2 : Rv} {w4 : World} (h : PlR w B R K M u2 l la ln lc w4) (hbox : BoxL K (rC M u2) w4) (hi : PulI most v k j u2 l cd) (hr : RdOk u2 k) (hn : ln = l.length) (hrb : R < B) (hw0 : w.heap.size ≤ R) (hwk : w.heap.size ≤ K) (hrk : R ≠ K) : PlS w B R K most v k j M u2 l la ln lc cd w4 :=
  ⟨hi, hr, h.row, h.le, h.lst, hn, h.lb, h.kb, hbox, h.res, h.bel, hrb, hw0, hwk, h.bs, hrk⟩
end
def PulS (w : World) (v : Rv) (l : List Td) (cd : Int) (e : Ending) (w' : World) : Prop := ∃ (M : Rm) (a : Option Addr) (n c : Nat), e = .returned (.tuple #[.agg #[.int .i64 v.cp, .int .i64 v.se, .slice M.ia M.i M.ic, .int .i64 v.nx, .slice M.sa M.s M.sc, .slice M.la M.l M.lc, .slice M.ga M.g M.gc, .bool v.cl], .slice a n c, .int .i64 cd]) ∧ RRow w.heap.size w' M v ∧ RLe M 2097152 ∧ w'.ownsRow w.heap.size 53 6 (.slice a n c) n (dflat l) ∧ (∀ q, (Value.slice a n c).ownBlock = some q → some q ∉ blkR M) ∧ Below w.heap.size w w'
end Go.Proofs.YtdboaoejlkkoeaaGreat
namespace Go.Proofs.YtdboaoejlkkoeaaGreat
open Go.RowKit Pl Il
theorem boxT (w : World) (o : Obj) (td : Td) : BoxL (w.heap.size + 1) (tdC td) ((w.alloc o).alloc (.cells #[.int .i64 td.kd, .int .i64 td.ms.1, .int .i64 td.ms.2.1, .string td.ms.2.2, .int .i64 td.ix, .int .i64 td.n] 53)) := by
  have h := BoxL.new (w.alloc o) (tdC td) 53
  simpa using h
theorem eqMsgT (k n : Int) (s : ByteArray) (w : World) :
    Calls Tryz.prog 132 #[.agg #[.int .i64 k, .int .i64 n, .string s], .agg #[.int .i64 k, .int .i64 n, .string s]] w fun e w' => e = .returned (.bool true) ∧ Below w.heap.size w w' := by
  go_enter Tryz.func132, Tryz.ntmps132
  go_wp2
  go_ret
  exact ⟨rfl, bl_alloc (bl_alloc (Below.refl _ _) _) _⟩
set_option maxHeartbeats 2000000 in
theorem eqTold_same (td : Td) (w : World) :
    Calls Tryz.prog 62 #[.agg #[.int .i64 td.kd, .int .i64 td.ms.1, .int .i64 td.ms.2.1, .string td.ms.2.2, .int .i64 td.ix, .int .i64 td.n], .agg #[.int .i64 td.kd, .int .i64 td.ms.1, .int .i64 td.ms.2.1, .string td.ms.2.2, .int .i64 td.ix, .int .i64 td.n]] w fun e w' => e = .returned (.bool true) ∧ Below w.heap.size w w' := by
  obtain ⟨W0, hW0⟩ : ∃ W, W = (w.alloc (.cells #[.int .i64 td.kd, .int .i64 td.ms.1, .int .i64 td.ms.2.1, .string td.ms.2.2, .int .i64 td.ix, .int .i64 td.n] 53)).alloc (.cells #[.int .i64 td.kd, .int .i64 td.ms.1, .int .i64 td.ms.2.1, .string td.ms.2.2, .int .i64 td.ix, .int .i64 td.n] 53) := ⟨_, rfl⟩
  have b0 : Below w.heap.size w W0 := by rw [hW0]; exact bl_alloc (bl_alloc (Below.refl _ _) _) _
  have X0 : BoxL w.heap.size (tdC td) W0 := by rw [hW0]; exact (BoxL.new w (tdC td) _).alloc _
  have Y0 : BoxL (w.heap.size + 1) (tdC td) W0 := by rw [hW0]; exact boxT w _ td
  have p0 := X0.cs 0 (by simp)
  have p1 := X0.cs 1 (by simp)
  have p2 := X0.cs 2 (by simp)
  have p3 := X0.cs 3 (by simp)
  have p4 := X0.cs 4 (by simp)
  have p5 := X0.cs 5 (by simp)
  simp at p0 p1 p2 p3 p4 p5
  have q0 := Y0.cs 0 (by simp)
  have q1 := Y0.cs 1 (by simp)
  have q2 := Y0.cs 2 (by simp)
  have q3 := Y0.cs 3 (by simp)
  have q4 := Y0.cs 4 (by simp)
  have q5 := Y0.cs 5 (by simp)
  simp at q0 q1 q2 q3 q4 q5
  go_enter Tryz.func62, Tryz.ntmps62
  go_upto_region 1 with fail
  rw [← hW0]
  clear hW0
  go_wp2_with fail
  refine (eqMsgT td.ms.1 td.ms.2.1 td.ms.2.2 _).mono ?_
  rintro e w1 ⟨rfl, hb1⟩
  have X1 := X0.keep hb1
  have Y1 := Y0.keep hb1
  clear p0 p1 p2 p3 p4 p5 q0 q1 q2 q3 q4 q5 X0 Y0
  have p0 := X1.cs 0 (by simp)
  have p1 := X1.cs 1 (by simp)
  have p2 := X1.cs 2 (by simp)
  have p3 := X1.cs 3 (by simp)
  have p4 := X1.cs 4 (by simp)
  have p5 := X1.cs 5 (by simp)
  simp at p0 p1 p2 p3 p4 p5
  have q0 := Y1.cs 0 (by simp)
  have q1 := Y1.cs 1 (by simp)
  have q2 := Y1.cs 2 (by simp)
  have q3 := Y1.cs 3 (by simp)
  have q4 := Y1.cs 4 (by simp)
  have q5 := Y1.cs 5 (by simp)
  simp at q0 q1 q2 q3 q4 q5
  go_wp2
  go_ret
  exact ⟨rfl, bl_trans b0 hb1⟩
open Go.RowKit Pl Il
def dg (l : List Td) (i : Nat) : Td := l.getD i Td0
structure DCell (w : World) (b o : Nat) (t : Td) : Prop where
  c0 : w.cell? ⟨b, o, none⟩ = some (.int .i64 t.kd)
  c1 : w.cell? ⟨b, o + 1, none⟩ = some (.int .i64 t.ms.1)
  c2 : w.cell? ⟨b, o + 2, none⟩ = some (.int .i64 t.ms.2.1)
  c3 : w.cell? ⟨b, o + 3, none⟩ = some (.string t.ms.2.2)
  c4 : w.cell? ⟨b, o + 4, none⟩ = some (.int .i64 t.ix)
  c5 : w.cell? ⟨b, o + 5, none⟩ = some (.int .i64 t.n)
structure TdAt (w : World) (a : Option Addr) (n : Nat) (l : List Td) : Prop where
  len : l.length = n
  row : n = 0 ∨ ∃ b off, a = some ⟨b, off, none⟩ ∧ b < w.heap.size ∧ ∀ i, i < n → DCell w b (off + i * 6) (dg l i)
theorem cellD {w w' : World} {p : Addr} {x : Value} (h : w.cell? p = some x) (hb : Below w.heap.size w w') : w'.cell? p = some x := by
  rw [hb.cell (World.block_lt_of_cell? w _ h)]; exact h
theorem DCell.keep {w w' : World} {b o : Nat} {t : Td} (h : DCell w b o t) (hb : Below w.heap.size w w') : DCell w' b o t :=
  ⟨cellD h.c0 hb, cellD h.c1 hb, cellD h.c2 hb, cellD h.c3 hb, cellD h.c4 hb, cellD h.c5 hb⟩
theorem TdAt.keep {w w' : World} {a : Option Addr} {n : Nat} {l : List Td} (h : TdAt w a n l) (hb : Below w.heap.size w w') : TdAt w' a n l := by
  refine ⟨h.len, ?_⟩
  rcases h.row with k | ⟨b, off, e, hlt, hc⟩
  · exact .inl k
  · exact .inr ⟨b, off, e, Nat.lt_of_lt_of_le hlt hb.size, fun i hi => (hc i hi).keep hb⟩
theorem dflat_get : ∀ (l : List Td) (i r : Nat), i < l.length → r < 6 → (dflat l)[i * 6 + r]? = (tdC (dg l i))[r]?
  | t :: l, 0, r, _, hr => by
    show (tdC t ++ dflat l)[0 * 6 + r]? = _
    rw [List.getElem?_append_left (by simp; omega), show 0 * 6 + r = r by omega]
    rfl
  | t :: l, i + 1, r, hi, hr => by
    show (tdC t ++ dflat l)[(i + 1) * 6 + r]? = _
    rw [List.getElem?_append_right (by simp; omega), show (i + 1) * 6 + r - (tdC t).length = i * 6 + r by simp; omega, dflat_get l i r (by simpa using hi) hr]
    rfl
theorem heap_lt {w : World} {g : Nat} {o : Obj} (h : w.heap[g]? = some o) : g < w.heap.size := by
  rcases Nat.lt_or_ge g w.heap.size with k | k
  · exact k
  · rw [Array.getElem?_eq_none k] at h; cases h
theorem td_of_row {B : Nat} {w : World} {a : Option Addr} {n c : Nat} {l : List Td} (h : w.ownsRow B 53 6 (.slice a n c) n (dflat l)) : TdAt w a n l := by
  obtain ⟨hl, ⟨e, hn⟩ | ⟨g, cp, cur, e, hB, hg, hc, hm, hs, ht⟩⟩ := h
  · subst hn
    rw [dflat_len] at hl
    exact ⟨by omega, .inl rfl⟩
  · rw [dflat_len] at hl
    have hn : l.length = n := by omega
    injection e with e1 e2 e3
    refine ⟨hn, .inr ⟨g, 0, e1, heap_lt hg, fun i hi => ?_⟩⟩
    have hcell : ∀ r, r < 6 → w.cell? ⟨g, i * 6 + r, none⟩ = (tdC (dg l i))[r]? := fun r hr => by
      rw [cell_of_row w g (i * 6 + r) cur _ (0, 0) hg, ← dflat_get l i r (by omega) hr, ← ht, List.getElem?_take_of_lt (by omega), Array.getElem?_toList]
    simp only [Nat.zero_add]
    exact ⟨hcell 0 (by omega), hcell 1 (by omega), hcell 2 (by omega), hcell 3 (by omega), hcell 4 (by omega), hcell 5 (by omega)⟩
set_option maxRecDepth 100000 in
set_option maxHeartbeats 4000000 in
theorem eqToldS_same (a a' : Option Addr) (n cap cap' : Nat) (l : List Td) (w : World) (hI : TdAt w a n l) (hJ : TdAt w a' n l) (hn : n ≤ 2097152) :
  Calls Tryz.prog 69 #[.slice a n cap, .slice a' n cap'] w fun e w' => e = .returned (.bool true) ∧ Below w.heap.size w w' := by
 by_cases h0 : n = 0
 ·subst h0
  clear hI hJ
  go_enter Tryz.func69, Tryz.ntmps69
  go_wp2
  go_loop [5] (fun i => i = .int .i64 0) (fun _ => 0)
  case atStart => rfl
  case round =>
   subst hrel
   go_wp2
   go_ret
   exact ⟨rfl, Below.refl _ _⟩
 ·obtain ⟨_, hr | ⟨b, off, rfl, hb, hcell⟩⟩ := hI
  ·omega
  obtain ⟨_, hr | ⟨b', off', rfl, hb', hcell'⟩⟩ := hJ
  ·omega
  go_enter Tryz.func69, Tryz.ntmps69
  go_wp2
  go_loopw [5] (fun i wr => ∃ k : Nat, k ≤ n ∧ i = .int .i64 k ∧ Below w.heap.size w wr) (fun i _ => n - (intOf i).toNat)
  case atStart => exact ⟨0, Nat.zero_le _, rfl, Below.refl _ _⟩
  case round =>
   rename World => wr
   obtain ⟨k, hk, rfl, hB⟩ := hrel
   by_cases hlt : k < n
   ·obtain ⟨c0, c1, c2, c3, c4, c5⟩ := (hcell k hlt).keep hB
    obtain ⟨d0, d1, d2, d3, d4, d5⟩ := (hcell' k hlt).keep hB
    have hki : (0 : Int) ≤ (k : Int) ∧ (k : Int) < (n : Int) := by omega
    obtain ⟨t, ht⟩ : ∃ t, dg l k = t := ⟨_, rfl⟩
    rw [ht] at c0 c1 c2 c3 c4 c5 d0 d1 d2 d3 d4 d5
    have HB := hidOf hB
    clear hcell hcell' ht hB
    go_upto_region 6 with fail
    have hB2 : Below wr.heap.size wr wr.drew := (Below.refl _ _).drew
    refine wp_region_noPanic ?_
    refine wp_region_held_drew (S := fun u => u.cell? ⟨b, off + k * 6, none⟩ = some (.int .i64 t.kd) ∧ u.cell? ⟨b, off + k * 6 + 1, none⟩ = some (.int .i64 t.ms.1) ∧ u.cell? ⟨b, off + k * 6 + 2, none⟩ = some (.int .i64 t.ms.2.1) ∧ u.cell? ⟨b, off + k * 6 + 3, none⟩ = some (.string t.ms.2.2) ∧ u.cell? ⟨b, off + k * 6 + 4, none⟩ = some (.int .i64 t.ix) ∧ u.cell? ⟨b, off + k * 6 + 5, none⟩ = some (.int .i64 t.n) ∧ u.cell? ⟨b', off' + k * 6, none⟩ = some (.int .i64 t.kd) ∧ u.cell? ⟨b', off' + k * 6 + 1, none⟩ = some (.int .i64 t.ms.1) ∧ u.cell? ⟨b', off' + k * 6 + 2, none⟩ = some (.int .i64 t.ms.2.1) ∧ u.cell? ⟨b', off' + k * 6 + 3, none⟩ = some (.string t.ms.2.2) ∧ u.cell? ⟨b', off' + k * 6 + 4, none⟩ = some (.int .i64 t.ix) ∧ u.cell? ⟨b', off' + k * 6 + 5, none⟩ = some (.int .i64 t.n) ∧ Below w.heap.size w u) (by kernel_rfl) ⟨cellD c0 (hB2), cellD c1 (hB2), cellD c2 (hB2), cellD c3 (hB2), cellD c4 (hB2), cellD c5 (hB2), cellD d0 (hB2), cellD d1 (hB2), cellD d2 (hB2), cellD d3 (hB2), cellD d4 (hB2), cellD d5 (hB2), bl_trans HB.out (hB2)⟩ (fun hHeld => ?_)
    refine tK 0 ?_ rfl (by kernel_rfl) (by rfl) ?_ (by assumption) (fun _ _ _ h => h) ?_
    case refine_2 => (intro w hSw; (try dsimp only at hSw); go_simp; try with_reducible rfl)
    simp only [Act.put, List.getElem_toArray, List.getElem_cons_zero, List.setIfInBounds_toArray, List.set_cons_zero, List.set_cons_succ]
    refine tR 1 ?_
    refine tR 2 ?_
    refine tR 3 ?_
    refine tR 4 ?_
    refine tR 5 ?_
    refine tR 6 ?_
    refine tR 7 ?_
    refine tW 8 (fun K hK => ?_)
    go_simp
    refine (eqTold_same t _).mono ?_
    rintro e w1 ⟨rfl, hb1⟩
    go_wp2_with fail
    have hB3 := bl_trans hB2 hb1
    refine hK.out _ _ ⟨cellD c0 (hB3), cellD c1 (hB3), cellD c2 (hB3), cellD c3 (hB3), cellD c4 (hB3), cellD c5 (hB3), cellD d0 (hB3), cellD d1 (hB3), cellD d2 (hB3), cellD d3 (hB3), cellD d4 (hB3), cellD d5 (hB3), bl_trans HB.out (hB3)⟩ (fun hHeld => ?_)
    clear hK K
    refine tR 9 ?_
    refine wpAnyH_done (by kernel_rfl) ?_ _
    refine NoPanic.normal ?_
    have HBf := hidOf (bl_trans HB.out hB3)
    clear hHeld hB2 hB3 hb1 c0 c1 c2 c3 c4 c5 d0 d1 d2 d3 d4 d5
    go_wp2_with fail
    go_roundw
    case rel => exact ⟨k + 1, hlt, by go_num, HBf.out⟩
    case measure => simp [intOf]; omega
   ·clear hcell hcell'
    go_wp2
    go_ret
    exact ⟨rfl, hB⟩
end Go.Proofs.YtdboaoejlkkoeaaGreat
