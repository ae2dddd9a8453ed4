/-
  The specification's Send: what its loop holds on to
-/
import Derived.Test.YtdboaoejlkkoeaaGreatZPo28
namespace Go.Proofs.YtdboaoejlkkoeaaGreat
open Go.RowKit Go.Maps Pl Il
theorem RRow.grownV {B : Nat} {w w' : World} {M : Rm} {v : Rv} (h : RRow B w M v) {g : Option Nat} (hg : w.grownBy w' g) (hn : ∀ q, g = some q → some q ∉ blkR M) : RRow B w' M v := by
  have key : ∀ {u : Value}, u.ownBlock ∈ blkR M → ∀ q, g = some q → u.ownBlock ≠ some q := fun {u} hu q e e' => by
    rw [e'] at hu
    exact hn q e hu
  exact ⟨rowG h.it hg (key (by simp [blkR])), h.its, rowG h.sb hg (key (by simp [blkR])), fun x hx => rowG (h.fl x hx) hg (key (by
    unfold blkR
    exact List.mem_cons_of_mem _ (List.mem_cons_of_mem _ (List.mem_cons_of_mem _ (List.mem_cons_of_mem _ (List.mem_map.2 ⟨x, hx, rfl⟩)))))), h.fls, h.sv, rowG h.ln hg (key (by simp [blkR])), rowG h.gs hg (key (by simp [blkR])), h.apt⟩
structure SpF (w : World) (NM N1 NK K : Nat) (M2 : Rm) : Prop where
  nm : NM = w.heap.size + 1
  n1 : N1 = w.heap.size + 2
  nk : w.heap.size + 3 ≤ NK
  k : NK < K
  nkb : some NK ∉ blkR M2
structure SpL (w : World) (NM N1 NK K : Nat) (M : Rm) (v : Rv) (M2 : Rm) (v2 : Rv) (mc zr : List Value) (sb' : List Sb) (ys : List Sa) (tl sl : List Int) (ta : Option Addr) (tn tc : Nat) (za : Option Addr) (zn zc : Nat) (u : World) : Prop where
  A : BoxL w.heap.size (rC M v) u
  X : BoxL NM mc u
  R : BoxL N1 zr u
  O : BoxL NK (rC M2 v2) u
  row : RRow (w.heap.size + 3) u { M2 with xs := ys } { v2 with sb := sb' }
  bk : ys.map (fun x => (Value.slice x.a x.n x.c).ownBlock) = M2.xs.map (fun x => (Value.slice x.a x.n x.c).ownBlock)
  ns : ∀ y, y ∈ ys → ∃ x, x ∈ M2.xs ∧ y.n = x.n
  told : u.ownsRow K 3 1 (.slice ta tn tc) tn (intsV tl)
  stay : u.ownsRow K 3 1 (.slice za zn zc) zn (intsV sl)
  ap : ∀ q, (Value.slice ta tn tc).ownBlock = some q → (Value.slice za zn zc).ownBlock ≠ some q
  tb : ∀ q, (Value.slice ta tn tc).ownBlock = some q → some q ∉ blkR M2
  zb : ∀ q, (Value.slice za zn zc).ownBlock = some q → some q ∉ blkR M2
  bel : Below w.heap.size w u
  ge : K ≤ u.heap.size
section
variable {w : World} {NM N1 NK K : Nat} {M : Rm} {v : Rv} {M2 : Rm} {v2 : Rv} {mc zr : List Value} {sb' : List Sb} {ys : List Sa} {tl sl : List Int} {ta : Option Addr} {tn tc : Nat} {za : Option Addr} {zn zc : Nat} {u u' : World}
theorem SpL.blk (h : SpL w NM N1 NK K M v M2 v2 mc zr sb' ys tl sl ta tn tc za zn zc u) : blkR { M2 with xs := ys } = blkR M2 := by
  unfold blkR
  simp only
  rw [h.bk]
theorem SpL.keep (h : SpL w NM N1 NK K M v M2 v2 mc zr sb' ys tl sl ta tn tc za zn zc u) (hb : Below u.heap.size u u') : SpL w NM N1 NK K M v M2 v2 mc zr sb' ys tl sl ta tn tc za zn zc u' :=
  ⟨h.A.keep hb, h.X.keep hb, h.R.keep hb, h.O.keep hb, h.row.keep hb, h.bk, h.ns, ownsRow_keep h.told hb, ownsRow_keep h.stay hb, h.ap, h.tb, h.zb, bl_trans h.bel hb, Nat.le_trans h.ge hb.size⟩
theorem SpL.drew (h : SpL w NM N1 NK K M v M2 v2 mc zr sb' ys tl sl ta tn tc za zn zc u) : SpL w NM N1 NK K M v M2 v2 mc zr sb' ys tl sl ta tn tc za zn zc u.drew := h.keep (Below.refl _ _).drew
theorem SpL.tell (h : SpL w NM N1 NK K M v M2 v2 mc zr sb' ys tl sl ta tn tc za zn zc u) (hF : SpF w NM N1 NK K M2) {g6 c6 : Nat} {tl' : List Int} (hg : u.grownBy u' (Value.slice ta tn tc).ownBlock) (ho : u'.ownsRow K 3 1 (.slice (some ⟨g6, 0, none⟩) (tn + 1) c6) (tn + 1) (intsV tl')) (hl : (Value.slice ta tn tc).ownBlock = some g6 ∨ u.heap.size ≤ g6) :
    SpL w NM N1 NK K M v M2 v2 mc zr sb' ys tl' sl (some ⟨g6, 0, none⟩) (tn + 1) c6 za zn zc u' := by
  have hB : Below K u u' := (Below.refl K u).grown hg h.ge (fun q e => (row_lt h.told e).1)
  have l1 := hF.nm; have l2 := hF.n1; have l3 := hF.nk; have l4 := hF.k
  refine ⟨h.A.below hB (by omega), h.X.below hB (by omega), h.R.below hB (by omega), h.O.below hB (by omega), h.row.grownV hg (fun q e => by rw [h.blk]; exact h.tb q e), h.bk, h.ns, ho, rowG h.stay hg (fun q e => h.ap q e), fun q e e' => ?_, fun q e hm => ?_, h.zb, h.bel.trans (hB.mono (by omega)), Nat.le_trans h.ge hg.size⟩
  · have e2 : g6 = q := by simpa [Value.ownBlock] using e
    subst e2
    rcases hl with k | k
    · exact h.ap _ k e'
    · have := (row_lt h.stay e').2; omega
  · have e2 : g6 = q := by simpa [Value.ownBlock] using e
    subst e2
    rcases hl with k | k
    · exact h.tb _ k hm
    · rw [← h.blk] at hm
      have := (h.row.blk _ hm).2; omega
theorem SpL.stayS (h : SpL w NM N1 NK K M v M2 v2 mc zr sb' ys tl sl ta tn tc za zn zc u) (hF : SpF w NM N1 NK K M2) {g6 c6 : Nat} {sl' : List Int} (hg : u.grownBy u' (Value.slice za zn zc).ownBlock) (ho : u'.ownsRow K 3 1 (.slice (some ⟨g6, 0, none⟩) (zn + 1) c6) (zn + 1) (intsV sl')) (hl : (Value.slice za zn zc).ownBlock = some g6 ∨ u.heap.size ≤ g6) :
    SpL w NM N1 NK K M v M2 v2 mc zr sb' ys tl sl' ta tn tc (some ⟨g6, 0, none⟩) (zn + 1) c6 u' := by
  have hB : Below K u u' := (Below.refl K u).grown hg h.ge (fun q e => (row_lt h.stay e).1)
  have l1 := hF.nm; have l2 := hF.n1; have l3 := hF.nk; have l4 := hF.k
  refine ⟨h.A.below hB (by omega), h.X.below hB (by omega), h.R.below hB (by omega), h.O.below hB (by omega), h.row.grownV hg (fun q e => by rw [h.blk]; exact h.zb q e), h.bk, h.ns, rowG h.told hg (fun q e e' => h.ap q e' e), ho, fun q e e' => ?_, h.tb, fun q e hm => ?_, h.bel.trans (hB.mono (by omega)), Nat.le_trans h.ge hg.size⟩
  · have e2 : g6 = q := by simpa [Value.ownBlock] using e'
    subst e2
    rcases hl with k | k
    · exact h.ap _ e k
    · have := (row_lt h.told e).2; omega
  · have e2 : g6 = q := by simpa [Value.ownBlock] using e
    subst e2
    rcases hl with k | k
    · exact h.zb _ k hm
    · rw [← h.blk] at hm
      have := (h.row.blk _ hm).2; omega
theorem SpL.put (h : SpL w NM N1 NK K M v M2 v2 mc zr sb' ys tl sl ta tn tc za zn zc u) (hF : SpF w NM N1 NK K M2) {g k r : Nat} (hs : M2.sa = some ⟨g, 0, none⟩) (hk : k < ys.length) (h2 : 2 ≤ r) (h5 : r ≤ 5) (z : Int) :
    SpL w NM N1 NK K M v M2 v2 mc zr (putV sb' k r z) (putS ys k r z) tl sl ta tn tc za zn zc (u.setCell ⟨g, k * 7 + r, none⟩ (.int .i64 z)) := by
  have hgm : some g ∈ blkR M2 := by unfold blkR; rw [hs]; simp [Value.ownBlock]
  have hgl := h.row.blk g (by rw [h.blk]; exact hgm)
  have l1 := hF.nm; have l2 := hF.n1; have l3 := hF.nk; have l4 := hF.k
  have hnk : NK ≠ g := fun e => hF.nkb (by rw [e]; exact hgm)
  have hgr : u.grownBy (u.setCell ⟨g, k * 7 + r, none⟩ (.int .i64 z)) (some g) := grown_setC _ _ _ _
  exact ⟨h.A.far _ _ (by omega) _, h.X.far _ _ (by omega) _, h.R.far _ _ (by omega) _, h.O.far _ _ hnk _, h.row.put hs hk h2 h5 z, by rw [putS_map hk (fun a n c => (Value.slice a n c).ownBlock)]; exact h.bk, fun y hy => by
      obtain ⟨x, hx, _, e, _⟩ := putS_mem hk y hy
      obtain ⟨x', hx', e'⟩ := h.ns x hx
      exact ⟨x', hx', e.trans e'⟩, rowG h.told hgr (fun q e e' => by injection e with e; subst e; exact h.tb _ e' hgm), rowG h.stay hgr (fun q e e' => by injection e with e; subst e; exact h.zb _ e' hgm), h.ap, h.tb, h.zb, bl_setB h.bel _ _ (by omega) _, by simpa using h.ge⟩
theorem SpL.cell (h : SpL w NM N1 NK K M v M2 v2 mc zr sb' ys tl sl ta tn tc za zn zc u) {g k r : Nat} (hs : M2.sa = some ⟨g, 0, none⟩) (hk : k < ys.length) (hr : r < 7) : u.cell? ⟨g, k * 7 + r, none⟩ = (sC (sg ys k))[r]? := by
  have hsb := h.row.sb
  simp only at hsb
  rw [hs] at hsb
  exact row_cell hsb hk hr
theorem SpL.frz (h : SpL w NM N1 NK K M v M2 v2 mc zr sb' ys tl sl ta tn tc za zn zc u) {g : Nat} (hs : M2.sa = some ⟨g, 0, none⟩) : ∀ o, u.frozen? ⟨g, o, none⟩ = false := fun o => by
  have hsb := h.row.sb
  simp only at hsb
  rw [hs] at hsb
  exact World.ownsRow.frozenAt hsb o
theorem SpL.lenY (h : SpL w NM N1 NK K M v M2 v2 mc zr sb' ys tl sl ta tn tc za zn zc u) : ys.length = sb'.length := by
  have e := h.row.sv
  simp only at e
  rw [← e]; simp [svs]
theorem SpL.getY (h : SpL w NM N1 NK K M v M2 v2 mc zr sb' ys tl sl ta tn tc za zn zc u) {k : Nat} (hk : k < ys.length) : sb'.getD k Sb0 = (sg ys k).s := by
  have e := h.row.sv
  simp only at e
  rw [← e]
  exact sg_svs2 hk
end
abbrev SpS (w : World) (NM N1 NK K : Nat) (M : Rm) (v : Rv) (M2 : Rm) (v2 : Rv) (mc zr : List Value) (sb' : List Sb) (ys : List Sa) (tl sl : List Int) (ta : Option Addr) (tn tc : Nat) (za : Option Addr) (zn zc : Nat) (lb off j : Nat) (id : Int) (u : World) : Prop :=
  u.cell? ⟨w.heap.size, 0, none⟩ = some (.int .i64 v.cp) ∧ u.cell? ⟨w.heap.size, 1, none⟩ = some (.int .i64 v.se) ∧ u.cell? ⟨w.heap.size, 2, none⟩ = some (.slice M.ia M.i M.ic) ∧ u.cell? ⟨w.heap.size, 3, none⟩ = some (.int .i64 v.nx) ∧ u.cell? ⟨w.heap.size, 4, none⟩ = some (.slice M.sa M.s M.sc) ∧ u.cell? ⟨w.heap.size, 5, none⟩ = some (.slice (some ⟨lb, off, none⟩) M.l M.lc) ∧ u.cell? ⟨w.heap.size, 6, none⟩ = some (.slice M.ga M.g M.gc) ∧ u.cell? ⟨w.heap.size, 7, none⟩ = some (.bool v.cl) ∧
  u.cell? ⟨lb, off + j, none⟩ = some (.int .i64 id) ∧ SpL w NM N1 NK K M v M2 v2 mc zr sb' ys tl sl ta tn tc za zn zc u ∧ Hid (M.la = some ⟨lb, off, none⟩) ∧ lb < w.heap.size ∧ w.cell? ⟨lb, off + j, none⟩ = some (.int .i64 id)
section
variable {w : World} {NM N1 NK K : Nat} {M : Rm} {v : Rv} {M2 : Rm} {v2 : Rv} {mc zr : List Value} {sb' : List Sb} {ys : List Sa} {tl sl : List Int} {ta : Option Addr} {tn tc : Nat} {za : Option Addr} {zn zc : Nat} {lb off j : Nat} {id : Int} {u u' : World}
theorem SpS.mk' (h : SpL w NM N1 NK K M v M2 v2 mc zr sb' ys tl sl ta tn tc za zn zc u) (hl : M.la = some ⟨lb, off, none⟩) (hb : lb < w.heap.size) (hc : w.cell? ⟨lb, off + j, none⟩ = some (.int .i64 id)) : SpS w NM N1 NK K M v M2 v2 mc zr sb' ys tl sl ta tn tc za zn zc lb off j id u := by
  obtain ⟨p0, p1, p2, p3, p4, p5, p6, p7⟩ := box8 h.A
  rw [hl] at p5
  exact ⟨p0, p1, p2, p3, p4, p5, p6, p7, by rw [h.bel.cell (p := ⟨lb, off + j, none⟩) hb]; exact hc, h, hidOf hl, hb, hc⟩
theorem SpS.spl (h : SpS w NM N1 NK K M v M2 v2 mc zr sb' ys tl sl ta tn tc za zn zc lb off j id u) : SpL w NM N1 NK K M v M2 v2 mc zr sb' ys tl sl ta tn tc za zn zc u := h.2.2.2.2.2.2.2.2.2.1
theorem SpS.keep (h : SpS w NM N1 NK K M v M2 v2 mc zr sb' ys tl sl ta tn tc za zn zc lb off j id u) (hb : Below u.heap.size u u') : SpS w NM N1 NK K M v M2 v2 mc zr sb' ys tl sl ta tn tc za zn zc lb off j id u' := SpS.mk' (h.spl.keep hb) h.2.2.2.2.2.2.2.2.2.2.1.out h.2.2.2.2.2.2.2.2.2.2.2.1 h.2.2.2.2.2.2.2.2.2.2.2.2
theorem SpS.drew (h : SpS w NM N1 NK K M v M2 v2 mc zr sb' ys tl sl ta tn tc za zn zc lb off j id u) : SpS w NM N1 NK K M v M2 v2 mc zr sb' ys tl sl ta tn tc za zn zc lb off j id u.drew := h.keep (Below.refl _ _).drew
end
abbrev SpT (w : World) (NM N1 NK K : Nat) (M : Rm) (v : Rv) (M2 : Rm) (v2 : Rv) (m1 m2 : Int) (m3 : ByteArray) (zr : List Value) (sb' : List Sb) (ys : List Sa) (tl sl : List Int) (ta : Option Addr) (tn tc : Nat) (za : Option Addr) (zn zc : Nat) (bs off k : Nat) (x : Sa) (u : World) : Prop :=
  u.cell? ⟨w.heap.size, 4, none⟩ = some (.slice (some ⟨bs, off, none⟩) M.s M.sc) ∧ u.cell? ⟨bs, off + k * 7 + 6, none⟩ = some (.slice x.a x.n x.c) ∧ u.cell? ⟨NM, 0, none⟩ = some (.int .i64 m1) ∧ u.cell? ⟨NM, 1, none⟩ = some (.int .i64 m2) ∧ u.cell? ⟨NM, 2, none⟩ = some (.string m3) ∧
  SpL w NM N1 NK K M v M2 v2 [.int .i64 m1, .int .i64 m2, .string m3] zr sb' ys tl sl ta tn tc za zn zc u ∧ Hid (M.sa = some ⟨bs, off, none⟩) ∧ bs < w.heap.size ∧ w.cell? ⟨bs, off + k * 7 + 6, none⟩ = some (.slice x.a x.n x.c)
section
variable {w : World} {NM N1 NK K : Nat} {M : Rm} {v : Rv} {M2 : Rm} {v2 : Rv} {m1 m2 : Int} {m3 : ByteArray} {zr : List Value} {sb' : List Sb} {ys : List Sa} {tl sl : List Int} {ta : Option Addr} {tn tc : Nat} {za : Option Addr} {zn zc : Nat} {bs off k : Nat} {x : Sa} {u u' : World}
theorem SpT.mk' (h : SpL w NM N1 NK K M v M2 v2 [.int .i64 m1, .int .i64 m2, .string m3] zr sb' ys tl sl ta tn tc za zn zc u) (hl : M.sa = some ⟨bs, off, none⟩) (hb : bs < w.heap.size) (hc : w.cell? ⟨bs, off + k * 7 + 6, none⟩ = some (.slice x.a x.n x.c)) : SpT w NM N1 NK K M v M2 v2 m1 m2 m3 zr sb' ys tl sl ta tn tc za zn zc bs off k x u := by
  obtain ⟨p0, p1, p2, p3, p4, p5, p6, p7⟩ := box8 h.A
  rw [hl] at p4
  exact ⟨p4, by rw [h.bel.cell (p := ⟨bs, off + k * 7 + 6, none⟩) hb]; exact hc, h.X.cs 0 (by simp), h.X.cs 1 (by simp), h.X.cs 2 (by simp), h, hidOf hl, hb, hc⟩
theorem SpT.spl (h : SpT w NM N1 NK K M v M2 v2 m1 m2 m3 zr sb' ys tl sl ta tn tc za zn zc bs off k x u) : SpL w NM N1 NK K M v M2 v2 [.int .i64 m1, .int .i64 m2, .string m3] zr sb' ys tl sl ta tn tc za zn zc u := h.2.2.2.2.2.1
theorem SpT.keep (h : SpT w NM N1 NK K M v M2 v2 m1 m2 m3 zr sb' ys tl sl ta tn tc za zn zc bs off k x u) (hb : Below u.heap.size u u') : SpT w NM N1 NK K M v M2 v2 m1 m2 m3 zr sb' ys tl sl ta tn tc za zn zc bs off k x u' := SpT.mk' (h.spl.keep hb) h.2.2.2.2.2.2.1.out h.2.2.2.2.2.2.2.1 h.2.2.2.2.2.2.2.2
theorem SpT.drew (h : SpT w NM N1 NK K M v M2 v2 m1 m2 m3 zr sb' ys tl sl ta tn tc za zn zc bs off k x u) : SpT w NM N1 NK K M v M2 v2 m1 m2 m3 zr sb' ys tl sl ta tn tc za zn zc bs off k x u.drew := h.keep (Below.refl _ _).drew
end
theorem put_bump {sb : List Sb} {k : Nat} (hk : k < sb.length) : putV (putV sb k 2 ((sb.getD k Sb0).cu + 1)) k 5 ((sb.getD k Sb0).pa + 1) = bump sb k := by
  unfold bump putV
  have e : (sb.set k (subPut (sb.getD k ⟨0, 0, 0, 0, 0, 0, []⟩) 2 ((sb.getD k Sb0).cu + 1))).getD k ⟨0, 0, 0, 0, 0, 0, []⟩ = subPut (sb.getD k ⟨0, 0, 0, 0, 0, 0, []⟩) 2 ((sb.getD k Sb0).cu + 1) := by
    rw [List.getD_eq_getElem?_getD, List.getElem?_set_self hk]; rfl
  rw [e, List.set_set]
  rfl
end Go.Proofs.YtdboaoejlkkoeaaGreat
