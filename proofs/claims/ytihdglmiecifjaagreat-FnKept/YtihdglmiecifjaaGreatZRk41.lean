/-
  The specification's draws: a ring and a number
  The plain mathematics of a right ring: one subscriber after another le
  One subscriber is gone: the program's list is moved up, its last place
-/
import Derived.Test.YtihdglmiecifjaaGreatZRk39
import Derived.Test.YtihdglmiecifjaaGreatZRk40
namespace Go.Proofs.YtihdglmiecifjaaGreat
open Go.RowKit Go.Maps Pl Il Dr
theorem Dr.Bytes.laterR {w w' : World} {a : Option Addr} {len cap : Nat} (h : Bytes w.heap.size w a len cap) (hb : Below w.heap.size w w') (c : Nat) (hc : w.heap.size ≤ c) : Bytes c w' a len cap := by
  obtain ⟨hl, hm, h | ⟨b, off, rfl, hb', hn, hcell⟩⟩ := h
  · exact ⟨hl, hm, .inl h⟩
  · refine ⟨hl, hm, .inr ⟨b, off, rfl, Nat.lt_of_lt_of_le hb' hb.size, by omega, fun i hi => ?_⟩⟩
    rw [hb.cell (p := ⟨b, off + i, none⟩) hb']; exact hcell i hi
/-- A ring and a number are drawn. -/
def RidP (w : World) (e : Ending) (w' : World) : Prop := ∃ (M : Rm) (v : Rv) (z : Int), e = .returned (.tuple #[.agg #[.int .i64 v.cp, .int .i64 v.se, .slice M.ia M.i M.ic, .int .i64 v.nx, .slice M.sa M.s M.sc, .slice M.la M.l M.lc, .slice M.ga M.g M.gc, .bool v.cl], .int .i64 z]) ∧ RRow w.heap.size w' M v ∧ RLe M 66 ∧ RWf v ∧ (Lit.int .i64 z).wf = true ∧ Below w.heap.size w w'
/-- What the drawing's last statement holds on to. -/
structure DrS (c : Nat) (a : Option Addr) (len cap : Nat) (w : World) (N B : Nat) (M : Rm) (v : Rv) (u : World) : Prop where
  cur : Cur c a len cap u
  bel : Below w.heap.size w u
  box : BoxL N (rC M v) u
  row : RRow B u M v
abbrev DrC (c : Nat) (a : Option Addr) (len cap : Nat) (w : World) (N B : Nat) (M : Rm) (v : Rv) (u : World) : Prop :=
  u.cell? ⟨N, 0, none⟩ = some (.int .i64 v.cp) ∧ u.cell? ⟨N, 1, none⟩ = some (.int .i64 v.se) ∧ u.cell? ⟨N, 2, none⟩ = some (.slice M.ia M.i M.ic) ∧ u.cell? ⟨N, 3, none⟩ = some (.int .i64 v.nx) ∧ u.cell? ⟨N, 4, none⟩ = some (.slice M.sa M.s M.sc) ∧ u.cell? ⟨N, 5, none⟩ = some (.slice M.la M.l M.lc) ∧ u.cell? ⟨N, 6, none⟩ = some (.slice M.ga M.g M.gc) ∧ u.cell? ⟨N, 7, none⟩ = some (.bool v.cl) ∧ DrS c a len cap w N B M v u
section
variable {c : Nat} {a : Option Addr} {len cap : Nat} {w : World} {N B : Nat} {M : Rm} {v : Rv} {u u' : World}
theorem DrS.s (h : DrS c a len cap w N B M v u) : DrC c a len cap w N B M v u := by
  obtain ⟨p0, p1, p2, p3, p4, p5, p6, p7⟩ := box8 h.box
  exact ⟨p0, p1, p2, p3, p4, p5, p6, p7, h⟩
theorem DrS.draw (h : DrS c a len cap w N B M v u) (hd : Drawn c a len cap u u') (hN : N ≠ c) (hB : c < B) (hw : w.heap.size ≤ c) : DrS c a len cap w N B M v u' := ⟨hd.cur, h.bel.trans (hd.ex.below hw h.bel.size), h.box.dr hd hN, h.row.dr hd hB⟩
theorem DrS.keep (h : DrS c a len cap w N B M v u) (hb : Below u.heap.size u u') : DrS c a len cap w N B M v u' := ⟨h.cur.keep hb, bl_trans h.bel hb, h.box.keep hb, h.row.keep hb⟩
theorem DrS.drew (h : DrS c a len cap w N B M v u) : DrS c a len cap w N B M v u.drew := h.keep (Below.refl _ _).drew
/-- Another block has turned, that is not the bytes'. -/
theorem Dr.Cur.grownQ {g : Nat} (h : Cur c a len cap u) (hg : u.grownBy u' (some g)) (hgc : g ≠ c) (hgb : len = 0 ∨ ∀ b off, a = some ⟨b, off, none⟩ → b ≠ g) : Cur c a len cap u' := by
  have key : ∀ b, b < u.heap.size → b ≠ g → u'.heap[b]? = u.heap[b]? := fun b hb hn => hg.block b hb (by simpa using hn)
  have hcell : ∀ o, u'.cell? ⟨c, o, none⟩ = u.cell? ⟨c, o, none⟩ := fun o => World.cell?_of_block (key c h.lt (Ne.symm hgc))
  have hfr : ∀ o, u'.frozen? ⟨c, o, none⟩ = u.frozen? ⟨c, o, none⟩ := fun o => World.frozen?_of_block (key c h.lt (Ne.symm hgc))
  refine ⟨Nat.lt_of_lt_of_le h.lt hg.size, ?_, by rw [hcell]; exact h.at0, by rw [hcell]; exact h.at1, by rw [hcell]; exact h.at2, by rw [hfr]; exact h.fr1, by rw [hfr]; exact h.fr2⟩
  obtain ⟨hl, hm, k | ⟨b, off, e, hb, hn, hc⟩⟩ := h.bytes
  · exact ⟨hl, hm, .inl k⟩
  · rcases hgb with k | k
    · exact ⟨hl, hm, .inl k⟩
    · refine ⟨hl, hm, .inr ⟨b, off, e, Nat.lt_of_lt_of_le hb hg.size, hn, fun i hi => ?_⟩⟩
      have : u'.cell? ⟨b, off + i, none⟩ = u.cell? ⟨b, off + i, none⟩ := World.cell?_of_block (key b hb (k b off e))
      rw [this]; exact hc i hi
theorem DrS.res (h : DrS c a len cap w N B M v u) (hN : w.heap.size ≠ N) (hc : w.heap.size ≠ c) (hB : w.heap.size < B) (hgb : len = 0 ∨ ∀ b off, a = some ⟨b, off, none⟩ → b ≠ w.heap.size) (M' : Rm) (v' : Rv) : DrS c a len cap w N B M v (stR u w.heap.size M' v') := by
  have hg := stR_grown u w.heap.size M' v'
  exact ⟨h.cur.grownQ hg hc hgb, by rw [stR_eq]; exact setL_below (Nat.le_refl _) h.bel, h.box.grown hg (by intro e; injection e with e; exact hN e), h.row.grown hg (h.row.out hB)⟩
end
set_option maxRecDepth 100000 in
set_option maxHeartbeats 8000000 in
theorem drawUns_any (a : Option Addr) (len cap : Nat) (w : World) (hB : Bytes w.heap.size w a len cap) (hG : GOk w) :
  Calls Tryz.prog 39 #[.slice a len cap] w fun e w' => RidP w e w' := by
 have bA : Below w.heap.size w (w.alloc (.cells #[.int .i64 0, .int .i64 0, .slice none 0 0, .int .i64 0, .slice none 0 0, .slice none 0 0, .slice none 0 0, .bool false] 28)) := bl_alloc (Below.refl _ _) _
 have hgl := hG.lt
 have HBy := hidOf (show len = 0 ∨ ∀ b off, a = some ⟨b, off, none⟩ → b ≠ w.heap.size from by
  obtain ⟨_, _, k | ⟨b, off, e, hb, _⟩⟩ := id hB
  ·exact .inl k
  ·exact .inr fun b' off' e' => by rw [e] at e'; cases e'; omega)
 go_enter Tryz.func39, Tryz.ntmps39
 go_wp2_with fail
 refine (new_any a len cap _ (hB.laterR bA _ (by simp))).mono ?_
 rintro e w1 ⟨rfl, hC, hb1⟩
 have r1 := (BoxL.new w zR 28).keep hb1
 have hb := bl_trans bA hb1
 have G1 := hG.keep hb
 clear hb1 bA hB
 simp only [World.size_alloc] at hC r1
 have hlt1 := hC.lt
 go_wp2_with fail
 refine (l9Some_any a len cap _ _ hC G1 (by omega)).mono ?_
 rintro e w2 ⟨M, v, rfl, hrow, hle, hwf, hd2⟩
 have hs2 := hd2.ex.size
 have r2 := r1.dr hd2 (by omega)
 have hB2 : Below w.heap.size w w2 := hb.trans (hd2.ex.below (by omega) hb.size)
 go_upto_region 3 with fail
 have ba := bl_alloc (Below.refl w2.heap.size w2) (.cells (rC M v).toArray 28)
 generalize hW3 : w2.alloc (.cells #[.int .i64 v.cp, .int .i64 v.se, .slice M.ia M.i M.ic, .int .i64 v.nx, .slice M.sa M.s M.sc, .slice M.la M.l M.lc, .slice M.ga M.g M.gc, .bool v.cl] 28) = W3
 rw [show w2.alloc (.cells (rC M v).toArray 28) = W3 from hW3] at ba
 have hx3 : BoxL w2.heap.size (rC M v) W3 := by rw [← hW3]; exact BoxL.new w2 (rC M v) _
 have hD3 : DrS (w.heap.size + 1) a len cap w w2.heap.size w1.heap.size M v W3 := ⟨hd2.cur.keep ba, bl_trans hB2 ba, hx3, hrow.keep ba⟩
 have r3 := r2.keep ba
 have hB3 := bl_trans hB2 ba
 have HId := hidOf (fun (u : World) (hu : DrS (w.heap.size + 1) a len cap w w2.heap.size w1.heap.size M v u) => l9Id_any a len cap (w.heap.size + 1) w1.heap.size M v u hu.cur hu.row (by omega) hle hwf)
 have HLe := hidOf hle
 have HWf := hidOf hwf
 have HBw := hidOf hb
 clear hW3 hx3 hb r1 r2 hd2 hrow hC G1 hle hwf hB2 ba
 have hS := hD3.drew.s
 have HR3 := hidOf r3
 clear r3
 refine wp_region_noPanic ?_
 refine wp_region_held_drew (S := fun u => DrC (w.heap.size + 1) a len cap w w2.heap.size w1.heap.size M v u) (by kernel_rfl) hS (fun hHeld => ?_)
 refine tK 0 ?_ rfl (by kernel_rfl) (by rfl) ?_ (by assumption) (fun _ _ _ h => h) ?_
 case refine_2 => (intro w hSw; (try dsimp only at hSw); go_simp; try with_reducible rfl)
 simp only [Act.put, List.getElem_toArray, List.getElem_cons_zero, List.setIfInBounds_toArray, List.set_cons_zero, List.set_cons_succ]
 refine tK 1 ?_ rfl (by kernel_rfl) (by rfl) ?_ (by assumption) (fun _ _ _ h => h) ?_
 case refine_2 => (intro w hSw; (try dsimp only at hSw); go_simp; try with_reducible rfl)
 simp only [Act.put, zGA, zG0, zGC, zSA, zS0, zSC]
 refine tK 2 ?_ rfl (by kernel_rfl) (by rfl) ?_ (by assumption) (fun _ _ _ h => h) ?_
 case refine_2 => (intro w hSw; (try dsimp only at hSw); go_simp; try with_reducible rfl)
 simp only [Act.put, zGA, zG0, zGC, zSA, zS0, zSC]
 refine wpAnyH_ready (rs := [3]) (by kernel_rfl) (by simp) ?_
 refine AllReadyH.cons rfl (fun K hK => ?_) AllReadyH.nil
 go_simp
 refine (HId.out _ hD3.drew).mono ?_
 rintro e w5 ⟨z, rfl, hz, hd5⟩
 go_wp2_with fail
 have hD5 := hD3.drew.draw hd5 (by omega) (by omega) (by omega)
 have r5 := (HR3.out.keep (Below.refl _ _).drew).dr hd5 (by omega)
 have hB5 : Below w.heap.size w w5 := (bl_trans hB3 (Below.refl _ _).drew).trans (hd5.ex.below (by omega) (bl_trans hB3 (Below.refl _ _).drew).size)
 refine hK.out _ _ hD5.s (fun hHeld => ?_)
 clear hK K
 obtain ⟨t0, t1, t2, t3, t4, t5, t6, t7⟩ := box8 r5
 have rf := r5.fr
 have hD9 := hD5.res (by omega) (by omega) (by omega) HBy.out M v
 refine wpAnyH_ready (rs := [4]) (by kernel_rfl) (by simp) ?_
 refine AllReadyH.cons rfl (fun K hK => ?_) AllReadyH.nil
 go_simp
 refine hK.out _ _ hD9.s (fun hHeld => ?_)
 clear hK K
 refine tK 5 ?_ rfl (by kernel_rfl) (by rfl) ?_ (by assumption) (fun _ _ _ h => h) ?_
 case refine_2 => (intro w hSw; (try dsimp only at hSw); go_simp; try with_reducible rfl)
 simp only [Act.put, zGA, zG0, zGC, zSA, zS0, zSC]
 refine wpAnyH_done (by kernel_rfl) ?_ _
 refine NoPanic.normal ?_
 have x9 : BoxL w.heap.size (rC M v) (stR w5 w.heap.size M v) := by rw [stR_eq]; exact r5.setAll (us := rC M v) rfl
 have HF := hidOf (show RRow w.heap.size (stR w5 w.heap.size M v) M v ∧ Below w.heap.size w (stR w5 w.heap.size M v) from ⟨hD9.row.mono (by have := HBw.out.size; omega), by rw [stR_eq]; exact setL_below (Nat.le_refl _) hB5⟩)
 have HZ := hidOf hz
 obtain ⟨y0, y1, y2, y3, y4, y5, y6, y7⟩ := box8 x9
 clear hD9 hD5 hB5 hD3 hS hz hB3
 go_wp2_with fail
 exact bodyPost_ret (v := .tuple #[.agg #[.int .i64 v.cp, .int .i64 v.se, .slice M.ia M.i M.ic, .int .i64 v.nx, .slice M.sa M.s M.sc, .slice M.la M.l M.lc, .slice M.ga M.g M.gc, .bool v.cl], .int .i64 z]) (by simp [results, Tryz.results39, go_sem, t0, t1, t2, t3, t4, t5, t6, t7]) rfl ⟨M, v, z, rfl, HF.out.1, HLe.out, HWf.out, HZ.out, HF.out.2⟩
end Go.Proofs.YtihdglmiecifjaaGreat
namespace Go.Proofs.YtihdglmiecifjaaGreat
open Go.RowKit Go.Maps Pl Il
theorem trim_se (v : Rv) : (trimR v).se = v.se := by unfold trimR; split <;> rfl
theorem trim_sb (v : Rv) : (trimR v).sb = v.sb := by unfold trimR; split <;> rfl
theorem trim_itl (v : Rv) : (trimR v).it.length ≤ v.it.length := by
  unfold trimR
  split
  · show (v.it.drop _).length ≤ _
    rw [List.length_drop]
    omega
  · exact Nat.le_refl _
theorem uns_se (v : Rv) (id : Int) : (unsR v id).se = v.se := by
  unfold unsR
  split
  · split
    · rfl
    · rw [trim_se]; rfl
  · rfl
/-- The first one leaves. -/
theorem uns_first {y : Rv} (h : okR restR y = true) (h0 : 0 < y.sb.length) : unsC y (y.sb.getD 0 Sb0).id = 0 ∧ okR restR (unsR y (y.sb.getD 0 Sb0).id) = true ∧ (unsR y (y.sb.getD 0 Sb0).id).sb.length + 1 = y.sb.length ∧ (unsR y (y.sb.getD 0 Sb0).id).it.length ≤ y.it.length ∧ (unsR y (y.sb.getD 0 Sb0).id).se = y.se := by
  have h' := h
  rw [okR_iff] at h'
  have ha := at_of h'.1.inc h0
  have hn : ¬ atR y.sb (y.sb.getD 0 Sb0).id < 0 := by rw [ha]; omega
  have e : unsR y (y.sb.getD 0 Sb0).id = trimR (dropV y (y.sb.getD 0 Sb0).id 0) := by
    unfold unsR
    rw [if_pos h, if_neg hn, ha]
    rfl
  refine ⟨by unfold unsC; rw [if_pos h, if_neg hn], ok_uns h _, ?_, ?_, uns_se _ _⟩
  · rw [e, trim_sb]
    show (y.sb.eraseIdx 0).length + 1 = _
    rw [List.length_eraseIdx, if_pos h0]
    omega
  · rw [e]
    exact Nat.le_trans (trim_itl _) (Nat.le_refl _)
/-- Where nobody is left, nothing is. -/
theorem ok_none {y : Rv} (h : okR restR y = true) (h0 : y.sb = []) : y.it = [] ∧ y.ln = [] ∧ y.gs = [] := by
  rw [okR_iff] at h
  obtain ⟨h, hl⟩ := h
  have hm : ∀ x, x ∉ y.ln ++ y.gs := fun x hx => by
    have := h.mem x hx
    rw [h0] at this
    cases this
  have hlg : y.ln ++ y.gs = [] := List.eq_nil_iff_forall_not_mem.2 hm
  rw [List.append_eq_nil_iff] at hlg
  refine ⟨?_, hlg.1, hlg.2⟩
  have hc := h.cp
  have hs := h.se
  have e : oldR y = y.se := by
    unfold oldR
    rw [h0]
    show (let l := y.se; let k := if l < y.se - y.cp then y.se - y.cp else l; if k < 0 then 0 else k) = y.se
    simp only
    rw [if_neg (by omega : ¬ y.se < y.se - y.cp), if_neg (by omega)]
  exact List.length_eq_zero_iff.1 (by omega)
end Go.Proofs.YtihdglmiecifjaaGreat
namespace Go.Proofs.YtihdglmiecifjaaGreat
open Go.RowKit Go.Maps Pl Il
theorem infoSz : (Tryz.prog.info? 41).map (·.size) = some 7 := by kernel_rfl
/-- A row of subscribers, whole. -/
structure SubW (g s sc : Nat) (xs : List Sa) (w : World) (cur : Array Value) : Prop where
  blk : w.heap[g]? = some (.cells cur 41 (0, 0))
  size : cur.size = sc * 7
  le : s ≤ sc
  max : sc ≤ maxLen
  cells : cur.toList.take (s * 7) = sflat xs
  len : xs.length = s
theorem SubW.of {B g s sc : Nat} {xs : List Sa} {w : World} (h : w.ownsRow B 41 7 (.slice (some ⟨g, 0, none⟩) s sc) s (sflat xs)) : B ≤ g ∧ ∃ cur, SubW g s sc xs w cur := by
  obtain ⟨hl, ⟨e, _⟩ | ⟨g', c', cur, e, hB, hg, hc, hm, hs, ht⟩⟩ := h
  · cases e
  · cases e
    exact ⟨hB, cur, hg, hs, hc, hm, ht, by rw [length_sflat] at hl; omega⟩
theorem SubW.row {B g s sc : Nat} {xs : List Sa} {w : World} {cur : Array Value} (h : SubW g s sc xs w cur) (hB : B ≤ g) : w.ownsRow B 41 7 (.slice (some ⟨g, 0, none⟩) s sc) s (sflat xs) :=
  ⟨by rw [length_sflat, h.len], .inr ⟨g, sc, cur, rfl, hB, h.blk, h.le, h.max, h.size, h.cells⟩⟩
theorem SubW.cell {g s sc : Nat} {xs : List Sa} {w : World} {cur : Array Value} (h : SubW g s sc xs w cur) {j : Nat} (hj : j < s * 7) : w.cell? ⟨g, j, none⟩ = (sflat xs)[j]? := by
  rw [cell_of_row w g j cur _ (0, 0) h.blk, ← h.cells, List.getElem?_take_of_lt hj, Array.getElem?_toList]
/-- Those behind place k are moved up by one. -/
theorem copy_up {g s sc k : Nat} {xs : List Sa} {w : World} {cur : Array Value} (h : SubW g s sc xs w cur) (hk : k < s) (a : Addr) (ha : s = k + 1 ∨ a = ⟨g, (k + 1) * 7, none⟩) (n1 n2 : Nat) (hn1 : s - k = n1) (hn2 : s - (k + 1) = n2) :
    ∃ (w' : World) (cur' : Array Value), (∀ ty c1 c2, (Builtin.copy_ #[25, 25] ty #[.slice (some ⟨g, k * 7, none⟩) n1 c1, .slice (some a) n2 c2]).run Tryz.prog w = .ok (.int .i64 ((Nat.min n2 n1 : Nat) : Int)) w') ∧ w.grownBy w' (some g) ∧ w'.heap[g]? = some (.cells cur' 41 (0, 0)) ∧ cur'.size = sc * 7 ∧ cur'.toList.take ((s - 1) * 7) = sflat (xs.eraseIdx k) := by
  subst hn1 hn2
  have hcl : (sflat (xs.drop (k + 1))).length = (s - (k + 1)) * 7 := by rw [length_sflat, List.length_drop, h.len]
  have hmin : Nat.min (s - (k + 1)) (s - k) = s - (k + 1) := Nat.min_eq_left (by omega)
  have hle := h.le
  have hsz := h.size
  have hr := fun ty c1 c2 => run_copyG (P := Tryz.prog) w 25 25 ty 41 7 g (k * 7) (s - k) c1 a (s - (k + 1)) c2 cur 41 (sflat (xs.drop (k + 1))) Tryz.underlying25 infoSz h.blk (by rw [hcl, hmin])
    (fun j v hj => by
      have hlt := (List.getElem?_eq_some_iff.1 hj).1
      rw [hcl] at hlt
      rcases ha with e | e
      · omega
      · rw [e, Addr.add_lit, h.cell (by omega), ← hj, ← sflat_drop, List.getElem?_drop])
    (by rw [hcl]; omega) (one_sflat _)
  refine ⟨_, _, hr, grown_setRow _ _ _, setRow_heap w g cur _ _ _ h.blk, ?_, ?_⟩
  · simp only [List.size_toArray, List.length_append, List.length_take, List.length_drop, Array.length_toList, hcl]
    omega
  · rw [erase_split, sflat_append, ← sflat_take, ← h.cells, List.take_take, Nat.min_eq_left (by omega)]
    simp only [List.append_assoc]
    rw [← List.append_assoc, List.take_append_of_le_length (by simp only [List.length_append, List.length_take, Array.length_toList, hcl]; omega), List.take_of_length_le (by simp only [List.length_append, List.length_take, Array.length_toList, hcl]; omega)]
theorem clear_subs (w : World) (g d sc : Nat) (cur : Array Value) (hg : w.heap[g]? = some (.cells cur 41 (0, 0))) (hs : cur.size = sc * 7) (hd : d < sc) :
    ∃ (w' : World) (cur' : Array Value), (∀ ty c, (Builtin.clear_ #[25] ty #[.slice (some ⟨g, d * 7, none⟩) 1 c]).run Tryz.prog w = .ok (.tuple #[]) w') ∧ w.grownBy w' (some g) ∧ w'.heap[g]? = some (.cells cur' 41 (0, 0)) ∧ cur'.size = sc * 7 ∧ cur'.toList.take (d * 7) = cur.toList.take (d * 7) := by
  obtain ⟨zs, hzs⟩ : ∃ zs, (Builtin.zeroCells (Value.agg #[.int .i64 0, .int .i64 0, .int .i64 0, .int .i64 0, .int .i64 0, .int .i64 0, .slice none 0 0]).cells 1).toList = zs := ⟨_, rfl⟩
  have hze : zs = sflat [Sa.zero] := by rw [← hzs]; kernel_rfl
  have hzl : zs.length = 7 := by rw [hze]; rfl
  have h1 : ∀ v ∈ zs, v.oneCell' = true := by rw [hze]; exact one_sflat _
  clear hze
  have hst := run_storeCells_at Tryz.prog g (d * 7) 41 zs 0 cur w hg (by rw [hzl]; omega) h1
  simp only [Nat.add_zero] at hst
  refine ⟨w.setRow g (cur.toList.take (d * 7) ++ zs ++ cur.toList.drop (d * 7 + zs.length)).toArray, _, fun ty c => ?_, grown_setRow _ _ _, setRow_heap w g cur _ _ _ hg, ?_, ?_⟩
  · rw [← hzs] at hst ⊢
    simp only [Builtin.clear_]
    simp [run_underlying Tryz.underlying25, hst]
  · simp only [List.size_toArray, List.length_append, List.length_take, List.length_drop, Array.length_toList, hzl]
    omega
  · simp only [List.append_assoc]
    rw [List.take_append_of_le_length (by simp only [List.length_take, Array.length_toList]; omega), List.take_take, Nat.min_self]
end Go.Proofs.YtihdglmiecifjaaGreat
