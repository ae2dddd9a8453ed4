/-
  The specification's draws: a ring's variable while it is drawn
  Walk of the specification's draws: a short filter
  The program's Subscribe
  Walks of the specification's filters: what a term that takes nothing s
-/
import Derived.Test.YtihdglmiecifjaaGreatZRn24
namespace Go.Proofs.YtihdglmiecifjaaGreat
open Go.RowKit Go.Maps Pl Il Dr
abbrev zR : List Value := [.int .i64 0, .int .i64 0, .slice none 0 0, .int .i64 0, .slice none 0 0, .slice none 0 0, .slice none 0 0, .bool false]
abbrev stR (u : World) (N : Nat) (M : Rm) (v : Rv) : World := (((((((u.setCell ⟨N, 0, none⟩ (.int .i64 v.cp)).setCell ⟨N, 1, none⟩ (.int .i64 v.se)).setCell ⟨N, 2, none⟩ (.slice M.ia M.i M.ic)).setCell ⟨N, 3, none⟩ (.int .i64 v.nx)).setCell ⟨N, 4, none⟩ (.slice M.sa M.s M.sc)).setCell ⟨N, 5, none⟩ (.slice M.la M.l M.lc)).setCell ⟨N, 6, none⟩ (.slice M.ga M.g M.gc)).setCell ⟨N, 7, none⟩ (.bool v.cl)
theorem stR_eq (u : World) (N : Nat) (M : Rm) (v : Rv) : stR u N M v = setL u N 0 (rC M v) := rfl
theorem stR_size (u : World) (N : Nat) (M : Rm) (v : Rv) : (stR u N M v).heap.size = u.heap.size := by rw [stR_eq, setL_size]
theorem stR_grown (u : World) (N : Nat) (M : Rm) (v : Rv) : u.grownBy (stR u N M v) (some N) := by rw [stR_eq]; exact setL_grown ⟨rfl, rfl, rfl, Nat.le_refl _, fun _ _ _ => rfl⟩
section
variable {c : Nat} {a : Option Addr} {len cap : Nat} {w u u' : World}
theorem drawn_keepR (h : Drawn c a len cap w u) (hb : Below u.heap.size u u') : Drawn c a len cap w u' := ⟨h.cur.keep hb, h.ex.trans (Ex.of hb)⟩
theorem BoxL.dr {N : Nat} {vs : List Value} (h : BoxL N vs u) (hd : Drawn c a len cap u u') (hn : N ≠ c) : BoxL N vs u' := h.grown hd.ex (by intro e; injection e with e; exact hn e.symm)
theorem GOk.dr (h : GOk u) (hd : Drawn c a len cap u u') (hg : 0 < c) : GOk u' := h.grown hd.ex (by intro e; injection e with e; omega)
theorem RRow.dr {B : Nat} {M : Rm} {v : Rv} (h : RRow B u M v) (hd : Drawn c a len cap u u') (hn : c < B) : RRow B u' M v := h.grown hd.ex (h.out hn)
end
structure RKv (c : Nat) (a : Option Addr) (len cap : Nat) (w : World) (N R : Nat) (M : Rm) (v : Rv) (u : World) : Prop where
  dr : Drawn c a len cap w u
  box : BoxL N (rC M v) u
  row : RRow (w.heap.size + 1) u M v
  out : some N ∉ blkR M
  und : ∀ q, some q ∈ blkR M → q < R
  hN : w.heap.size < N
  cur : Cur c a len cap w
  le : R ≤ u.heap.size
  lt : N < R
  gok : GOk u
  gc : 0 < c
  res : BoxL w.heap.size zR u
abbrev RKS (c : Nat) (a : Option Addr) (len cap : Nat) (w : World) (N R : Nat) (M : Rm) (v : Rv) (u : World) : Prop :=
  u.cell? ⟨N, 0, none⟩ = some (.int .i64 v.cp) ∧ u.cell? ⟨N, 1, none⟩ = some (.int .i64 v.se) ∧ u.cell? ⟨N, 2, none⟩ = some (.slice M.ia M.i M.ic) ∧ u.cell? ⟨N, 3, none⟩ = some (.int .i64 v.nx) ∧ u.cell? ⟨N, 4, none⟩ = some (.slice M.sa M.s M.sc) ∧ u.cell? ⟨N, 5, none⟩ = some (.slice M.la M.l M.lc) ∧ u.cell? ⟨N, 6, none⟩ = some (.slice M.ga M.g M.gc) ∧ u.cell? ⟨N, 7, none⟩ = some (.bool v.cl) ∧ RKv c a len cap w N R M v u
structure RNx (c : Nat) (a : Option Addr) (len cap : Nat) (w : World) (N P : Nat) (M : Rm) (v : Rv) (M' : Rm) (v' : Rv) (u : World) : Prop where
  dr : Drawn c a len cap w u
  cur : Cur c a len cap w
  box : BoxL N (rC M v) u
  nxt : BoxL P (rC M' v') u
  row : RRow (w.heap.size + 1) u M' v'
  out : some N ∉ blkR M'
  hN : w.heap.size < N
  ne : P ≠ N
  gok : GOk u
  gc : 0 < c
  res : BoxL w.heap.size zR u
section
variable {c : Nat} {a : Option Addr} {len cap : Nat} {w : World} {N R P : Nat} {M M' : Rm} {v v' : Rv} {u u' : World} {B : Nat}
theorem RKv.s (h : RKv c a len cap w N R M v u) : RKS c a len cap w N R M v u := by
  obtain ⟨p0, p1, p2, p3, p4, p5, p6, p7⟩ := box8 h.box
  exact ⟨p0, p1, p2, p3, p4, p5, p6, p7, h⟩
theorem RKS.kv (h : RKS c a len cap w N R M v u) : RKv c a len cap w N R M v u := h.2.2.2.2.2.2.2.2
theorem RKv.keep (h : RKv c a len cap w N R M v u) (hb : Below u.heap.size u u') : RKv c a len cap w N R M v u' :=
  ⟨drawn_keepR h.dr hb, h.box.keep hb, h.row.keep hb, h.out, h.und, h.hN, h.cur, Nat.le_trans h.le hb.size, h.lt, h.gok.keep hb, h.gc, h.res.keep hb⟩
theorem RKv.draw (h : RKv c a len cap w N R M v u) (hd : Drawn c a len cap u u') : RKv c a len cap w N R M v u' := by
  have hc := h.cur.lt
  have hN := h.hN
  exact ⟨h.dr.trans hd, h.box.dr hd (by omega), h.row.dr hd (by omega), h.out, h.und, h.hN, h.cur, Nat.le_trans h.le hd.ex.size, h.lt, h.gok.dr hd h.gc, h.gc, h.res.dr hd (by omega)⟩
theorem RKv.up (h : RKv c a len cap w N R M v u) : RKv c a len cap w N u.heap.size M v u := ⟨h.dr, h.box, h.row, h.out, fun q hq => (h.row.blk q hq).2, h.hN, h.cur, Nat.le_refl _, h.box.lt, h.gok, h.gc, h.res⟩
theorem RKv.st (h : RKv c a len cap w N R M v u) (hP : R ≤ P) (M' : Rm) (v' : Rv) : RKv c a len cap w N R M v (stR u P M' v') := by
  have hN := h.hN
  have hl := h.lt
  have hg := stR_grown u P M' v'
  have hgc := h.gc
  have hcl := h.cur.lt
  refine ⟨h.dr.grown h.cur hg (by omega), h.box.grown hg (by intro e; injection e with e; omega), h.row.grown hg (fun k => ?_), h.out, h.und, h.hN, h.cur, by rw [stR_size]; exact h.le, h.lt, h.gok.grown hg (by intro e; injection e with e; omega), h.gc, h.res.grown hg (by intro e; injection e with e; omega)⟩
  have := h.und P k
  omega
theorem RKS.keep (h : RKS c a len cap w N R M v u) (hb : Below u.heap.size u u') : RKS c a len cap w N R M v u' := (h.kv.keep hb).s
theorem RKS.drew (h : RKS c a len cap w N R M v u) : RKS c a len cap w N R M v u.drew := h.keep (Below.refl _ _).drew
theorem RKS.alloc (h : RKS c a len cap w N R M v u) (o : Obj) : RKS c a len cap w N R M v (u.alloc o) := h.keep (bl_alloc (Below.refl _ _) o)
theorem RKS.draw (h : RKS c a len cap w N R M v u) (hd : Drawn c a len cap u u') : RKS c a len cap w N R M v u' := (h.kv.draw hd).s
theorem RKS.st (h : RKS c a len cap w N R M v u) (hP : R ≤ P) (M' : Rm) (v' : Rv) : RKS c a len cap w N R M v (stR u P M' v') := (h.kv.st hP M' v').s
theorem RKS.curs (h : RKS c a len cap w N R M v u) : Cur c a len cap u := h.kv.dr.cur
theorem RKS.rin (h : RKS c a len cap w N R M v u) : RIn u M v := h.kv.row.own.rin
theorem RNx.ofAlloc (h : RKS c a len cap w N R M v u) (ho : RRow B u M' v') (hB : R ≤ B) (t : TypeId) : RNx c a len cap w N u.heap.size M v M' v' (u.alloc (.cells (rC M' v').toArray t)) := by
  have hb := bl_alloc (Below.refl u.heap.size u) (.cells (rC M' v').toArray t)
  have k := h.kv.keep hb
  have hl := h.kv.lt
  have hN := k.hN
  exact ⟨k.dr, k.cur, k.box, BoxL.new u (rC M' v') t, (ho.keep hb).mono (by omega), ho.out (by omega), k.hN, by have := h.kv.box.lt; omega, k.gok, k.gc, k.res⟩
theorem RNx.ofStore {vs : List Value} (h : RKS c a len cap w N R M v u) (hP : BoxL P vs u) (hvs : vs.length = 8) (hR : R ≤ P) (ho : RRow B u M' v') (hPB : P < B) : RNx c a len cap w N P M v M' v' (stR u P M' v') := by
  have k := h.kv.st hR M' v'
  have hl := h.kv.lt
  have hN := h.kv.hN
  have hx : BoxL P (rC M' v') (stR u P M' v') := by rw [stR_eq]; exact hP.setAll (us := rC M' v') hvs.symm
  exact ⟨k.dr, k.cur, k.box, hx, (ho.grown (stR_grown u P M' v') (ho.out hPB)).mono (by omega), ho.out (by omega), hN, by omega, k.gok, k.gc, k.res⟩
theorem RNx.keep (h : RNx c a len cap w N P M v M' v' u) (hb : Below u.heap.size u u') : RNx c a len cap w N P M v M' v' u' := ⟨drawn_keepR h.dr hb, h.cur, h.box.keep hb, h.nxt.keep hb, h.row.keep hb, h.out, h.hN, h.ne, h.gok.keep hb, h.gc, h.res.keep hb⟩
theorem RNx.put (h : RNx c a len cap w N P M v M' v' u) : RKv c a len cap w N u.heap.size M' v' (stR u N M' v') := by
  have hN := h.hN
  have hg := stR_grown u N M' v'
  have hgc := h.gc
  have hcl := h.cur.lt
  have hx : BoxL N (rC M' v') (stR u N M' v') := by rw [stR_eq]; exact h.box.setAll (us := rC M' v') rfl
  exact ⟨h.dr.grown h.cur hg (by omega), hx, h.row.grown hg h.out, h.out, fun q hq => (h.row.blk q hq).2, hN, h.cur, by rw [stR_size]; exact Nat.le_refl _, h.box.lt, h.gok.grown hg (by intro e; injection e with e; omega), h.gc, h.res.grown hg (by intro e; injection e with e; omega)⟩
end
theorem okF_len {fl : List Tm} (h : okF fl = true) : fl.length ≤ 12 := by
  unfold okF at h
  simp only [Bool.and_eq_true, decide_eq_true_eq] at h
  omega
theorem ok_le {w : World} {M : Rm} {v : Rv} (h : okR restR v = true) (hI : RIn w M v) : RLe M 64 := by
  have h1 := ok_head h
  rw [okR_iff] at h
  have l1 := hI.it.len
  have l2 := hI.sb.len
  have l3 := hI.ln.len
  have l4 := hI.gs.len
  have l5 := congrArg List.length hI.sv
  simp only [svs, List.length_map] at l5
  refine ⟨by omega, by omega, fun x hx => ?_, by omega, by omega⟩
  have l6 := (hI.sb.fil x hx).len
  have : x.s ∈ v.sb := by rw [← hI.sv]; exact List.mem_map.2 ⟨x, hx, rfl⟩
  have := okF_len (h.1.sub _ this).fl
  omega
theorem wf_of {x : Int} (h0 : -2000000000 ≤ x) (h1 : x ≤ 2000000000) : (Lit.int .i64 x).wf = true := by
  simp [Lit.wf, IntKind.min, IntKind.max, IntKind.signed, IntKind.bits]; omega
theorem ok_wf {v : Rv} (h : okR restR v = true) : RWf v := by
  rw [okR_iff] at h
  obtain ⟨h, _⟩ := h
  have h1 := h.cp
  have h2 := h.se
  have h3 := h.nx
  have hm : ∀ y, y ∈ v.ln ++ v.gs → (Lit.int .i64 y).wf = true := fun y hy => by
    obtain ⟨s, hs, rfl⟩ := List.mem_map.1 (h.mem y hy)
    have p := h.sub s hs
    have := p.i0
    have := p.i1
    exact wf_of (by omega) (by omega)
  refine ⟨wf_of (by omega) (by omega), wf_of (by omega) (by omega), wf_of (by omega) (by omega), fun s hs => ?_, fun y hy => hm y (List.mem_append.2 (.inl hy)), fun y hy => hm y (List.mem_append.2 (.inr hy))⟩
  have p := h.sub s hs
  have := p.i0
  have := p.i1
  have := p.st
  have := p.sc
  have := p.cu
  have := p.gt
  have := p.lo
  have := p.pa
  have := p.su
  exact ⟨wf_of (by omega) (by omega), wf_of (by omega) (by omega), wf_of (by omega) (by omega), wf_of (by omega) (by omega), wf_of (by omega) (by omega), wf_of (by omega) (by omega)⟩
end Go.Proofs.YtihdglmiecifjaaGreat
namespace Go.Proofs.YtihdglmiecifjaaGreat
open Go.RowKit Pl Il Dr
set_option maxRecDepth 100000 in
set_option maxHeartbeats 8000000 in
theorem l8Filter2_any (a : Option Addr) (len cap : Nat) (c : Nat) (w : World) (hC : Cur c a len cap w) :
  Calls Tryz.prog 172 #[.pointer (some ⟨c, 0, none⟩), .int .i64 2] w fun e w' => FilP w c a len cap 12 e w' := by
 have hlt := hC.lt
 have HC := hidOf hC
 have V0 : FV w c a len cap (.slice (some ⟨w.heap.size, 0, none⟩) 0 0) 0 [] (w.alloc (.cells #[] 132)) :=
  ⟨(Drawn.start hC).alloc _, World.ownsRow_made w #[] 0 (Nat.le_refl _) (by unfold maxLen; omega) (by simp), fun p hp => by cases hp⟩
 have HV0 := hidOf V0
 clear hC V0
 go_enter Tryz.func172, Tryz.ntmps172
 go_wp2_with fail
 refine (below_any a len cap c _ _ HV0.out.D.cur (by omega) (by omega)).mono ?_
 rintro e w1 ⟨n, rfl, n0, n1, hd1⟩
 have HV1 := hidOf (HV0.out.draw hd1 hlt)
 clear hd1 HV0
 go_wp2_with fail
 go_loopw [5, 7] (fun v i wr => ∃ (j m : Nat) (l : List Tm), (j : Int) ≤ n ∧ i = .int .i64 j ∧ m ≤ 2 * j ∧ FV w c a len cap v m l wr) (fun _ i _ => n.toNat - (intOf i).toNat)
 case atStart => exact ⟨0, 0, [], by omega, rfl, Nat.le_refl _, HV1.out⟩
 case round =>
  rename_i wr
  obtain ⟨j, m, l, hj, rfl, hmj, hV⟩ := hrel
  clear HV1
  obtain ⟨a1, c1, rfl⟩ := hV.form
  have HV := hidOf hV
  clear hV
  by_cases hlt' : (j : Int) < n
  ·by_cases hj0 : j = 0
   ·subst hj0
    go_wp2_with fail
    refine (l8Leaf_any a len cap c _ HV.out.D.cur).mono ?_
    rintro e w2 ⟨t, rfl, ht, hd2⟩
    have V2 := HV.out.draw hd2 hlt
    obtain ⟨a3, c3, w3, hr3, hV3⟩ := V2.app HC.out 1 [t] _ (new1 w2 t (small40 ht)) (by omega)
    have Hr := hidOf hr3
    have HV3 := hidOf hV3
    clear hd2 V2 hr3 hV3 HV
    go_wp2_with (at_builtin; refine wpList_append_run rfl _ _ 39 rfl _ _ _ rfl rfl Hr.out ?_)
    go_roundw
    case rel => exact ⟨0 + 1, m + 1, _, by omega, by go_num, by omega, HV3.out⟩
    case measure => simp [intOf]; omega
   ·have e0 : ((j : Int) == 0) = false := by simp; omega
    go_wp2_with fail
    refine (below_any a len cap c _ _ HV.out.D.cur (by omega) (by omega)).mono ?_
    rintro e w2 ⟨x, rfl, x0, x1, hd2⟩
    have HV2 := hidOf (HV.out.draw hd2 hlt)
    clear hd2 HV
    by_cases hx0 : x = 0
    ·subst hx0
     obtain ⟨a3, c3, w3, hr3, hV3⟩ := HV2.out.app HC.out 1 [(8, 0, ⟨#[]⟩)] _ (new1 w2 (8, 0, ⟨#[]⟩) (by exact Nat.zero_le _)) (by omega)
     have Hr := hidOf hr3
     have HV3 := hidOf hV3
     clear hr3 hV3 HV2
     go_wp2_with (at_builtin; refine wpList_append_run rfl _ _ 39 rfl _ _ _ rfl rfl Hr.out ?_)
     go_roundw
     case rel => exact ⟨j + 1, m + 1, _, by omega, by go_num, by omega, HV3.out⟩
     case measure => simp [intOf]; omega
    have ex0 : (x == 0) = false := by simp [hx0]
    by_cases hx1 : x = 1
    ·subst hx1
     go_wp2_with fail
     refine (l8Leaf_any a len cap c _ HV2.out.D.cur).mono ?_
     rintro e w4 ⟨t, rfl, ht, hd4⟩
     have V4 := HV2.out.draw hd4 hlt
     obtain ⟨a3, c3, w3, hr3, hV3⟩ := V4.app HC.out 2 [t, (9, 0, ⟨#[]⟩)] _ (new2 w4 t (9, 0, ⟨#[]⟩) (small40 ht) (by exact Nat.zero_le _)) (by omega)
     have Hr := hidOf hr3
     have HV3 := hidOf hV3
     clear hd4 V4 hr3 hV3 HV2
     go_wp2_with (at_builtin; refine wpList_append_run rfl _ _ 39 rfl _ _ _ rfl rfl Hr.out ?_)
     go_roundw
     case rel => exact ⟨j + 1, m + 2, _, by omega, by go_num, by omega, HV3.out⟩
     case measure => simp [intOf]; omega
    ·have ex1 : (x == 1) = false := by simp [hx1]
     go_wp2_with fail
     refine (l8Leaf_any a len cap c _ HV2.out.D.cur).mono ?_
     rintro e w4 ⟨t, rfl, ht, hd4⟩
     have V4 := HV2.out.draw hd4 hlt
     obtain ⟨a3, c3, w3, hr3, hV3⟩ := V4.app HC.out 2 [t, (10, 0, ⟨#[]⟩)] _ (new2 w4 t (10, 0, ⟨#[]⟩) (small40 ht) (by exact Nat.zero_le _)) (by omega)
     have Hr := hidOf hr3
     have HV3 := hidOf hV3
     clear hd4 V4 hr3 hV3 HV2
     go_wp2_with (at_builtin; refine wpList_append_run rfl _ _ 39 rfl _ _ _ rfl rfl Hr.out ?_)
     go_roundw
     case rel => exact ⟨j + 1, m + 2, _, by omega, by go_num, by omega, HV3.out⟩
     case measure => simp [intOf]; omega
  ·have h12 : ¬ 12 < (m : Int) := by omega
   go_wp2
   go_ret
   exact ⟨a1, m, c1, l, rfl, by omega, HV.out⟩
end Go.Proofs.YtihdglmiecifjaaGreat
namespace Go.Proofs.YtihdglmiecifjaaGreat
open Go.RowKit Go.Maps Pl Il
theorem ok_next {v : Rv} (h : okR restR v = true) : 0 ≤ v.nx ∧ v.nx ≤ 1000000000 := by
  simp only [okR, headR, lenR, Bool.and_eq_true, decide_eq_true_eq] at h
  obtain ⟨⟨⟨⟨_, hn⟩, _⟩, _⟩, _⟩ := h
  omega
end Go.Proofs.YtihdglmiecifjaaGreat
namespace Go.Proofs.YtihdglmiecifjaaGreat
open Go.RowKit Pl Il
theorem inL_short : ∀ (l sub : List UInt8), l.length < sub.length → inL sub l = false
  | [], sub, h => by
    cases sub with
    | nil => simp at h
    | cons _ _ => rfl
  | x :: l, sub, h => by
    unfold inL
    rw [inL_short l sub (by simp at h; omega), Bool.or_false, Bool.eq_false_iff]
    intro e
    have := (List.isPrefixOf_iff_prefix.1 e).length_le
    omega
theorem inL_step {l sub : List UInt8} {i : Nat} (h : ¬ sub.isPrefixOf (l.drop i) = true) : inL sub (l.drop i) = inL sub (l.drop (i + 1)) := by
  rcases Nat.lt_or_ge i l.length with hi | hi
  · have e : inL sub (l.drop i) = (sub.isPrefixOf (l[i] :: l.drop (i + 1)) || inL sub (l.drop (i + 1))) := by
      conv => lhs; rw [List.drop_eq_getElem_cons hi]
      rfl
    rw [List.drop_eq_getElem_cons hi] at h
    rw [e, Bool.eq_false_iff.2 h, Bool.false_or]
  · rw [List.drop_of_length_le hi, List.drop_of_length_le (by omega)]
theorem inL_hit {l sub : List UInt8} (h : sub.isPrefixOf l = true) : inL sub l = true := by
  cases l with
  | nil =>
    cases sub with
    | nil => rfl
    | cons _ _ => simp at h
  | cons x l => unfold inL; simp [h]
theorem ext_drop (s : ByteArray) (i k : Nat) : (s.extract i (i + k)).toList = (s.toList.drop i).take k := by
  rw [ByteArray.toList_eq, ByteArray.toList_eq, ByteArray.data_extract, Array.toList_extract]
  simp [List.extract]
theorem pre_eq {s t : ByteArray} {i : Nat} : ((s.extract i (i + t.size)).toList == t.toList) = t.toList.isPrefixOf (s.toList.drop i) := by
  have hl : t.toList.length = t.size := by rw [ByteArray.toList_eq]; rfl
  rw [ext_drop, Bool.eq_iff_iff, List.isPrefixOf_iff_prefix, List.prefix_iff_eq_take, hl]
  simp only [beq_iff_eq]
  exact eq_comm
set_option maxHeartbeats 1000000 in
theorem l8Holds_any (s t : ByteArray) (w : World) (hs : s.size ≤ 40) (ht : t.size ≤ 10) :
    Calls Tryz.prog 176 #[.string s, .string t] w fun e w' => e = .returned (.bool (inL t.toList s.toList)) ∧ w' = w := by
  go_enter Tryz.func176, Tryz.ntmps176
  go_wp2
  go_loop [5] (fun x => ∃ i : Nat, i ≤ s.size + 1 ∧ x = .int .i64 i ∧ inL t.toList (s.toList.drop i) = inL t.toList s.toList ∧ (0 < i → 0 < t.size)) (fun x => s.size + 1 - (intOf x).toNat)
  case atStart => exact ⟨0, Nat.zero_le _, rfl, rfl, fun h => by omega⟩
  case round =>
    obtain ⟨i, hi, rfl, hp, hpos⟩ := hrel
    have hl : s.toList.length = s.size := by rw [ByteArray.toList_eq]; rfl
    have hl' : t.toList.length = t.size := by rw [ByteArray.toList_eq]; rfl
    have HP := hidOf hp
    have HL := hidOf (And.intro hl hl')
    clear hp hl hl'
    by_cases hle : i + t.size ≤ s.size
    · have h1 : (i : Int) + (t.size : Int) ≤ (s.size : Int) := by omega
      have hpe := @pre_eq s t i
      cases hq : t.toList.isPrefixOf (s.toList.drop i)
      · rw [hq] at hpe
        have HQ := hidOf (inL_step (l := s.toList) (sub := t.toList) (i := i) (by rw [hq]; simp))
        have HN : 0 < t.size := by
          rcases Nat.eq_zero_or_pos t.size with h0 | h0
          · have : t.toList = [] := List.length_eq_zero_iff.1 (by rw [HL.out.2, h0])
            rw [this] at hq
            simp at hq
          · exact h0
        clear hq
        go_wp2
        go_round
        case rel => exact ⟨i + 1, by omega, by go_num, by rw [← HP.out, HQ.out], fun _ => HN⟩
        case measure => simp [intOf]; omega
      · rw [hq] at hpe
        have HQ := hidOf (inL_hit hq)
        clear hq
        go_wp2
        go_ret
        exact ⟨rbool (by rw [← HP.out, HQ.out]), rfl⟩
    · have h1 : ¬ (i : Int) + (t.size : Int) ≤ (s.size : Int) := by omega
      have HQ := hidOf (inL_short (s.toList.drop i) t.toList (by rw [List.length_drop, HL.out.1, HL.out.2]; omega))
      go_wp2
      go_ret
      exact ⟨rbool (by rw [← HP.out, HQ.out]), rfl⟩
theorem okB_two {k n : Int} {s : ByteArray} (h : okB k n s = true) : k = 1 ∨ k = 2 ∧ s.size ≤ 40 := by
  by_cases h1 : k = 1
  · exact .inl h1
  · by_cases h2 : k = 2
    · subst h2
      simp [okB, plainB] at h
      exact .inr ⟨rfl, h.2.1⟩
    · simp [okB, h1, h2] at h
theorem ok_67 {op n : Int} {t : ByteArray} (h : okTm (op, n, t) = true) (ho : op = 6 ∨ op = 7) : t.size ≤ 10 := by
  rcases ho with rfl | rfl
  · simp [okTm, partB] at h; omega
  · simp [okTm, partB] at h; omega
set_option maxHeartbeats 4000000 in
theorem l8Says_any (t : Tm) (k n : Int) (s : ByteArray) (w : World) (hok : okTm t = true) (hc : cntM t.1 = 0) (hm : okB k n s = true) :
    Calls Tryz.prog 148 #[.agg #[.int .i64 t.1, .int .i64 t.2.1, .string t.2.2], .agg #[.int .i64 k, .int .i64 n, .string s]] w fun e w' => e = .returned (.bool (leafP t (bdOf k n s))) ∧ Below w.heap.size w w' := by
  obtain ⟨op, num, t⟩ := t
  have h := leaf_ops hok hc
  simp only at h ⊢
  have hb : ∀ op : Int, Below w.heap.size w ((w.alloc (.cells #[.int .i64 op, .int .i64 num, .string t] 132)).alloc (.cells #[.int .i64 k, .int .i64 n, .string s] 30)) := fun _ => bl_alloc (bl_alloc (Below.refl _ _) _) _
  rcases okB_two hm with rfl | ⟨rfl, hs⟩
  · have HB := fun op => hidOf (hb op)
    have h5 : op = 5 → ¬ num = 0 ∧ ¬ num = -1 := fun e => by subst e; have := ok_5 hok; omega
    clear hb hm hok hc
    rcases h with rfl | rfl | rfl | rfl | rfl | rfl | rfl
    all_goals (try (obtain ⟨n0, n1⟩ := h5 rfl))
    all_goals clear h5
    all_goals go_enter Tryz.func148, Tryz.ntmps148
    all_goals go_wp2_with fail
    all_goals (try go_quiet (fail))
    all_goals (try go_wp2)
    all_goals (try go_ret)
    all_goals first | (refine ⟨rbool ?_, (HB _).out⟩; simp [leafP, bdOf]; done) | (refine ⟨rbool ?_, bl_drewN (HB _).out _⟩; simp [leafP, bdOf]; done) | (refine ⟨rbool ?_, (HB _).out⟩; simp [leafP, bdOf]; rw [Bool.eq_iff_iff]; simp)
  · have HB := fun op => hidOf (hb op)
    have ht : op = 6 ∨ op = 7 → t.size ≤ 10 := fun e => ok_67 hok e
    clear hb hm hok hc
    rcases h with rfl | rfl | rfl | rfl | rfl | rfl | rfl
    iterate 5
      · clear ht
        go_enter Tryz.func148, Tryz.ntmps148
        go_wp2_with fail
        (try go_ret)
        exact ⟨rbool (by simp [leafP, bdOf]), (HB _).out⟩
    · have ht' := ht (.inl rfl)
      clear ht
      by_cases hle : t.size ≤ s.size
      · have hd : decide ((t.size : Int) ≤ (s.size : Int)) = true := by simp; omega
        have hbe := beg_eq s t
        go_enter Tryz.func148, Tryz.ntmps148
        go_wp2_with fail
        go_quiet (fail)
        (try go_wp2)
        (try go_ret)
        exact ⟨rbool (by simp [leafP, bdOf]), bl_drewN (HB _).out _⟩
      · have hd : decide ((t.size : Int) ≤ (s.size : Int)) = false := by simp; omega
        have hbe := beg_no hle
        go_enter Tryz.func148, Tryz.ntmps148
        go_wp2_with fail
        go_quiet (fail)
        (try go_wp2)
        (try go_ret)
        exact ⟨rbool (by simp [leafP, bdOf, hbe]), bl_drewN (HB _).out _⟩
    · have ht' := ht (.inr rfl)
      have HH := fun u => hidOf (l8Holds_any s t u hs ht')
      clear ht
      go_enter Tryz.func148, Tryz.ntmps148
      go_wp2_with (first | (go_at_call 176; refine ((HH _).out).mono ?_; rintro e w1 ⟨rfl, rfl⟩))
      go_ret
      exact ⟨rbool (by simp [leafP, bdOf]), (HB _).out⟩
open Go.RowKit Pl Il
theorem fstep_append_ex {P : Program} {ops : Array Oper} {o : Oper} {a : Act} {w : World} {K : Act → World → Prop} {Q : Exit → Act → World → Prop} {E : Prop} {R : Value → World → Prop} (hgd : o.guard = none) (s x : Operand) (t : TypeId)
    (ho : o.op = .call { callee := .builtin .append, args := #[s, x], argTypes := #[t, t] }) (v u : Value) (hs : a.eval s = v) (hx : a.eval x = u)
    (hr : ∃ v' w', (Builtin.append_ #[t, t] o.type #[v, u]).run P w = .ok v' w' ∧ R v' w') (h : ∀ v' w', R v' w' → K (a.put o.dst v') w') :
    if Region.wanted o (yielded ops a.tmps) = true then Oper.wp P o a w K Q else E := by
  have hw : Region.wanted o (yielded ops a.tmps) = true := by simp [Region.wanted, hgd]
  rw [if_pos hw]
  obtain ⟨v', w', hrun, hR⟩ := hr
  unfold Oper.wp execOp
  simp only [ho, resolve, invoke, builtin, Sem.run_bind, Sem.run_pure, Result.andThen_ok, List.map_toArray, List.map_cons, List.map_nil, hs, hx, hrun]
  exact h v' w' hR
theorem fstep_append_run {P : Program} {ops : Array Oper} {o : Oper} {a : Act} {w w' : World} {K : Act → World → Prop} {Q : Exit → Act → World → Prop} {E : Prop} (hgd : o.guard = none) (s x : Operand) (t : TypeId)
    (ho : o.op = .call { callee := .builtin .append, args := #[s, x], argTypes := #[t, t] }) (v u v' : Value) (hs : a.eval s = v) (hx : a.eval x = u)
    (hr : (Builtin.append_ #[t, t] o.type #[v, u]).run P w = .ok v' w') (h : K (a.put o.dst v') w') :
    if Region.wanted o (yielded ops a.tmps) = true then Oper.wp P o a w K Q else E :=
  fstep_append_ex (R := fun v1 w1 => v1 = v' ∧ w1 = w') hgd s x t ho v u hs hx ⟨v', w', hr, rfl, rfl⟩ (fun _ _ h1 => by obtain ⟨rfl, rfl⟩ := h1; exact h)
theorem okF_at {f : List Tm} (h : okF f = true) {k : Nat} (hk : k < f.length) {m : Nat} (hm : goN (f.take k) 0 = some m) : okTm (qg f k) = true ∧ ¬ m < cntM (qg f k).1 := by
  constructor
  · cases e : okTm (qg f k) with
    | true => rfl
    | false => have := okF_stop hk hm (.inl e); rw [h] at this; cases this
  · intro e
    have := okF_stop hk hm (.inr e)
    rw [h] at this; cases this
def bitsV (ps : List Pd) (b : Bd) : List Value := ps.map fun p => .bool (p b)
theorem bits_len (ps : List Pd) (b : Bd) : (bitsV ps b).length = ps.length := by simp [bitsV]
theorem bits_snoc (ps : List Pd) (p : Pd) (b : Bd) : bitsV (ps ++ [p]) b = bitsV ps b ++ [.bool (p b)] := by simp [bitsV]
theorem infoBo : (Tryz.prog.info? 4).map (fun i => (i.zero, i.size, i.bytes)) = some (some (.bool false), 1, 1) := by kernel_rfl
theorem append_bit (B m : Nat) (v : Value) (vs : List Value) (x : Bool) (w : World) (ho : w.ownsRow B 4 1 v m vs) (hB : B ≤ w.heap.size) (hs : m + 1 ≤ 4194304) :
    ∃ (g cap : Nat) (w' : World), (Builtin.append_ #[162, 162] 162 #[v, .slice (some ⟨w.heap.size, 0, none⟩) 1 1]).run Tryz.prog (w.alloc (.cells #[.bool x] 4)) = .ok (.slice (some ⟨g, 0, none⟩) (m + 1) cap) w' ∧
      w'.ownsRow B 4 1 (.slice (some ⟨g, 0, none⟩) (m + 1) cap) (m + 1) (vs ++ [.bool x]) ∧ w.grownBy w' v.ownBlock := by
  obtain ⟨i, hi, hz0, hz1, hz2⟩ := info_parts infoBo
  have hb0 : Below w.heap.size w (w.alloc (.cells #[.bool x] 4)) := bl_alloc (Below.refl _ _) _
  have ho' : (w.alloc (.cells #[.bool x] 4)).ownsRow B 4 1 v m vs := ho.alloc _
  obtain ⟨g, c, w', hr, hown, hg, _, _⟩ := run_append_lies (P := Tryz.prog) (w.alloc (.cells #[.bool x] 4)) 162 162 B 4 i _ 1 1 Tryz.underlying162 hi hz0 hz1 hz2 rfl (by omega) v m _ ho' ⟨w.heap.size, 0, none⟩ 1 1 [.bool x] (by simp)
    (fun j u h => by
      have hj : j = 0 := by
        have := (List.getElem?_eq_some_iff.1 h).1
        simp at this; omega
      subst hj
      simp at h
      subst h
      rw [Addr.add_lit]; simp)
    (fun u hu => by
      simp at hu
      subst hu
      rfl) (by omega) (by unfold maxLen; omega) (by omega) (by simp; omega) _ rfl
  refine ⟨g, c, w', hr, hown, ?_⟩
  exact ⟨hg.os.trans hb0.os, hg.tape.trans hb0.tape, hg.output.trans hb0.output, Nat.le_trans hb0.size hg.size, fun k hk hne => (hg.block k (Nat.lt_of_lt_of_le hk hb0.size) hne).trans (hb0.block k hk)⟩
abbrev LeftS (b o M : Nat) (z : Tm) (k n : Int) (s : ByteArray) (u0 w : World) : Prop :=
  w.cell? ⟨b, o, none⟩ = some (.int .i64 z.1) ∧ w.cell? ⟨b, o + 1, none⟩ = some (.int .i64 z.2.1) ∧ w.cell? ⟨b, o + 2, none⟩ = some (.string z.2.2) ∧ w.cell? ⟨M, 0, none⟩ = some (.int .i64 k) ∧ w.cell? ⟨M, 1, none⟩ = some (.int .i64 n) ∧ w.cell? ⟨M, 2, none⟩ = some (.string s) ∧ Below u0.heap.size u0 w
theorem LeftS.keep {b o M : Nat} {z : Tm} {k n : Int} {s : ByteArray} {u0 w w' : World} (h : LeftS b o M z k n s u0 w) (hb : Below u0.heap.size w w') (hl : b < u0.heap.size) (hl' : M < u0.heap.size) : LeftS b o M z k n s u0 w' := by
  obtain ⟨h0, h1, h2, h3, h4, h5, h6⟩ := h
  exact ⟨by rw [hb.cell (p := ⟨b, o, none⟩) hl]; exact h0, by rw [hb.cell (p := ⟨b, o + 1, none⟩) hl]; exact h1, by rw [hb.cell (p := ⟨b, o + 2, none⟩) hl]; exact h2, by rw [hb.cell (p := ⟨M, 0, none⟩) hl']; exact h3, by rw [hb.cell (p := ⟨M, 1, none⟩) hl']; exact h4, by rw [hb.cell (p := ⟨M, 2, none⟩) hl']; exact h5, h6.trans hb⟩
theorem rowB_keep {B : Nat} {w w' : World} {v : Value} {n : Nat} {t : TypeId} {xs : List Value} (h : w.ownsRow B t 1 v n xs) (hb : Below w.heap.size w w') : w'.ownsRow B t 1 v n xs := by
  refine h.kept (row := none) ⟨hb.os, hb.tape, hb.output, hb.size, fun k hk _ => hb.block k hk⟩ ?_
  cases v.ownBlock with
  | none => exact .inl rfl
  | some _ => exact .inr (by simp)
theorem pd_snoc {ps : List Pd} (h : 0 < ps.length) : ∃ qs p, ps = qs ++ [p] := by
  have hne : ps ≠ [] := by rintro rfl; simp at h
  exact ⟨ps.dropLast, ps.getLast hne, (List.dropLast_concat_getLast hne).symm⟩
theorem step8 {z : Tm} (qs : List Pd) (p : Pd) (b : Bd) (h : z.1 = 8) : bitsV (stepP z (qs ++ [p])) b = bitsV qs b ++ [.bool (!(p b))] := by
  rw [stepP_8 h]
  have e : (qs ++ [p]).length - 1 = qs.length := by simp
  rw [e, List.take_left, pg_snoc_eq, bits_snoc]
theorem step9 {z : Tm} (qs : List Pd) (p q : Pd) (b : Bd) (h : z.1 = 9) : bitsV (stepP z (qs ++ [p] ++ [q])) b = bitsV qs b ++ [.bool (p b && q b)] := by
  rw [stepP_9 h]
  have e : (qs ++ [p] ++ [q]).length - 1 = (qs ++ [p]).length := by simp
  have e2 : (qs ++ [p] ++ [q]).length - 2 = qs.length := by simp
  rw [e, e2, List.append_assoc, List.take_left, ← List.append_assoc, pg_snoc_eq, bits_snoc, pg_snoc_lt (by simp), pg_snoc_eq, Bool.and_comm]
theorem step10 {z : Tm} (qs : List Pd) (p q : Pd) (b : Bd) (h : z.1 = 10) : bitsV (stepP z (qs ++ [p] ++ [q])) b = bitsV qs b ++ [.bool (p b || q b)] := by
  rw [stepP_10 h]
  have e : (qs ++ [p] ++ [q]).length - 1 = (qs ++ [p]).length := by simp
  have e2 : (qs ++ [p] ++ [q]).length - 2 = qs.length := by simp
  rw [e, e2, List.append_assoc, List.take_left, ← List.append_assoc, pg_snoc_eq, bits_snoc, pg_snoc_lt (by simp), pg_snoc_eq, Bool.or_comm]
theorem set_snoc {l : List Value} {x y : Value} : (l ++ [x]).set l.length y = l ++ [y] := by simp
theorem set_snoc2 {l : List Value} {x z y : Value} : (l ++ [x] ++ [z]).set l.length y = l ++ [y] ++ [z] := by
  rw [List.append_assoc, List.append_assoc, List.set_append_right _ _ (Nat.le_refl _)]
  simp
open Go.RowKit Pl Il
set_option maxRecDepth 100000 in
set_option maxHeartbeats 8000000 in
theorem l8Left_any (a : Option Addr) (N cap : Nat) (ts : List Tm) (k n : Int) (s : ByteArray) (w : World) (hI : TmAt w a N ts) (hok : okF ts = true) (hm : okB k n s = true) :
  Calls Tryz.prog 85 #[.slice a N cap, .agg #[.int .i64 k, .int .i64 n, .string s]] w fun e w' => e = .returned (.bool (passP ts (bdOf k n s))) ∧ Below w.heap.size w w' := by
 have hlen := hI.len
 have hN : N ≤ 12 := by rw [← hlen]; simp [okF] at hok; exact hok.1
 obtain ⟨W0, hW0⟩ : ∃ W, W = w.alloc (.cells #[.int .i64 k, .int .i64 n, .string s] 30) := ⟨_, rfl⟩
 have b0 : Below w.heap.size w W0 := by rw [hW0]; exact bl_alloc (Below.refl _ _) _
 have x0 : Box3 w.heap.size (.int .i64 k) (.int .i64 n) (.string s) W0 := by rw [hW0]; exact Box3.new w _ _ _ _
 have sW : W0.heap.size = w.heap.size + 1 := by rw [hW0]; simp
 obtain ⟨W1, hW1⟩ : ∃ W, W = W0.alloc (.cells #[] 4) := ⟨_, rfl⟩
 have b1 : Below W0.heap.size W0 W1 := by rw [hW1]; exact bl_alloc (Below.refl _ _) _
 have oW : W1.ownsRow W0.heap.size 4 1 (.slice (some ⟨W0.heap.size, 0, none⟩) 0 0) 0 [] := by rw [hW1]; exact World.ownsRow_made W0 #[] 0 (Nat.le_refl _) (by unfold maxLen; omega) (by simp)
 have HR := hidOf (hI.keep b0).row
 have HX := hidOf x0
 have HB0 := hidOf b0
 have HO := hidOf (And.intro oW b1)
 have HOK := hidOf hok
 have HM := hidOf hm
 have HL := hidOf hlen
 have HSW := hidOf sW
 generalize hbd : bdOf k n s = bd
 have HBD := hidOf hbd
 clear hI b0 x0 b1 oW hok hm hlen hbd sW
 go_enter Tryz.func85, Tryz.ntmps85
 go_wp2_with fail
 rw [← hW0, ← hW1, ← HSW.out]
 clear hW0 hW1
 go_loopw [5, 6] (fun v i wr => ∃ (j m : Nat) (g c : Nat), j ≤ N ∧ i = .int .i64 j ∧ v = .slice (some ⟨g, 0, none⟩) m c ∧ goN (ts.take j) 0 = some m ∧ wr.ownsRow W0.heap.size 4 1 (.slice (some ⟨g, 0, none⟩) m c) m (bitsV (runP (ts.take j)) bd) ∧ Below W0.heap.size W0 wr) (fun _ i _ => N - (intOf i).toNat)
 case atStart => exact ⟨0, 0, _, _, Nat.zero_le _, rfl, rfl, rfl, HO.out.1, HO.out.2⟩
 case round =>
  rename_i wr
  obtain ⟨j, m, g, c, hj, rfl, rfl, hgo, ho, hB⟩ := hrel
  have hw0 : w.heap.size < W0.heap.size := by rw [HSW.out]; omega
  have hpl := runP_len (f := ts) (k := j) (by rw [HL.out]; exact hj) hgo
  have hgc : W0.heap.size ≤ g ∧ g < wr.heap.size := ho.lt g rfl
  have hmc : m ≤ c := by
   obtain ⟨_, ⟨h0, _⟩ | ⟨g', cap', cur, hv, _, _, hc', _⟩⟩ := id ho
   ·cases h0
   ·cases hv; exact hc'
  clear HO
  by_cases hlt : j < N
  ·have hjl : j < ts.length := by rw [HL.out]; exact hlt
   obtain ⟨hok, hcn⟩ := okF_at HOK.out hjl hgo
   have hstep := goN_step hjl hgo hok hcn
   have hrun := runP_step hjl
   have hm12 : m ≤ 12 := by have := goN_le _ _ _ hgo; simp at this; omega
   obtain hr | ⟨b, off, rfl, hb, hcell⟩ := HR.out
   ·omega
   obtain ⟨q0, q1, q2⟩ := hcell j hlt
   obtain ⟨z, hz⟩ : ∃ z, qg ts j = z := ⟨_, rfl⟩
   rw [hz] at q0 q1 q2 hok hcn hstep hrun
   have hS0 : LeftS b (off + j * 3) w.heap.size z k n s W0 W0 := ⟨q0, q1, q2, HX.out.c0, HX.out.c1, HX.out.c2, Below.refl _ _⟩
   have hS := hS0.keep hB hb hw0
   obtain ⟨t0, t1, t2, y0, y1, y2, _⟩ := id hS
   have HGO := hidOf (And.intro hstep hrun)
   have Hz := hidOf hz
   clear hz hcell q0 q1 q2 hS0 hstep hrun
   obtain ⟨ps, hps⟩ : ∃ ps, runP (ts.take j) = ps := ⟨_, rfl⟩
   rw [hps] at ho hpl HGO
   by_cases h8 : z.1 = 8
   ·have hc1 : 1 ≤ m := by rw [h8] at hcn; have e : cntM 8 = 1 := rfl; omega
    obtain ⟨qs, p, rfl⟩ := pd_snoc (ps := ps) (by omega)
    have hql : m = qs.length + 1 := by rw [← hpl]; simp
    subst hql
    rw [bits_snoc] at ho
    have hx : wr.cell? ⟨g, qs.length, none⟩ = some (.bool (p bd)) := by rw [ho.cellAt qs.length (by omega)]; simp [bitsV]
    have hfx : ∀ o, wr.frozen? ⟨g, o, none⟩ = false := ho.frozenAt
    have ho2 := (ho.stored qs.length (.bool (!(p bd)))).1
    have e1 := set_snoc (l := bitsV qs bd) (x := .bool (p bd)) (y := .bool (!(p bd)))
    rw [bits_len] at e1
    rw [e1, ← step8 qs p bd h8] at ho2
    have hB2 : Below W0.heap.size W0 (wr.setCell ⟨g, qs.length, none⟩ (.bool (!(p bd)))) := hB.setCell (p := ⟨g, qs.length, none⟩) hgc.1 _
    have HO2 := hidOf (And.intro ho2 hB2)
    have e2 : ((qs.length + 1 : Nat) : Int) - 1 = (qs.length : Int) := by omega
    have hcz : cntM z.1 = 1 := by rw [h8]; rfl
    rw [hcz] at HGO
    rw [h8] at t0
    clear ho ho2 hB2 hB hS hcn hok h8 e1
    go_wp2
    go_roundw
    case rel => exact ⟨j + 1, qs.length + 1, g, c, by omega, by go_num, rfl, HGO.out.1, by rw [HGO.out.2]; exact HO2.out.1, HO2.out.2⟩
    case measure => simp [intOf]; omega
   by_cases h9 : z.1 = 9
   ·have hc1 : 2 ≤ m := by rw [h9] at hcn; have e : cntM 9 = 2 := rfl; omega
    obtain ⟨qs1, q, rfl⟩ := pd_snoc (ps := ps) (by omega)
    obtain ⟨qs, p, rfl⟩ := pd_snoc (ps := qs1) (by simp at hpl; omega)
    have hql : m = qs.length + 1 + 1 := by rw [← hpl]; simp
    subst hql
    rw [bits_snoc, bits_snoc] at ho
    have hx : wr.cell? ⟨g, qs.length, none⟩ = some (.bool (p bd)) := by rw [ho.cellAt qs.length (by omega)]; simp [bitsV]
    have hx2 : wr.cell? ⟨g, qs.length + 1, none⟩ = some (.bool (q bd)) := by rw [ho.cellAt (qs.length + 1) (by omega)]; simp [bitsV]
    have hfx : ∀ o, wr.frozen? ⟨g, o, none⟩ = false := ho.frozenAt
    have ho2 := (ho.stored qs.length (.bool (p bd && q bd))).1
    have e1 := set_snoc2 (l := bitsV qs bd) (x := .bool (p bd)) (z := .bool (q bd)) (y := .bool (p bd && q bd))
    rw [bits_len] at e1
    rw [e1, ← step9 qs p q bd h9] at ho2
    have hl3 : (bitsV (stepP z (qs ++ [p] ++ [q])) bd).length = (qs.length + 1) * 1 := by rw [step9 qs p q bd h9]; simp [bitsV]
    have ho3 := ownsRow_pop hl3 ho2
    have hB2 : Below W0.heap.size W0 (wr.setCell ⟨g, qs.length, none⟩ (.bool (p bd && q bd))) := hB.setCell (p := ⟨g, qs.length, none⟩) hgc.1 _
    have HO2 := hidOf (And.intro ho3 hB2)
    have e2 : ((qs.length + 1 + 1 : Nat) : Int) - 1 = ((qs.length + 1 : Nat) : Int) := by omega
    have e3 : ((qs.length + 1 + 1 : Nat) : Int) - 2 = (qs.length : Int) := by omega
    have hcz : cntM z.1 = 2 := by rw [h9]; rfl
    rw [hcz] at HGO
    rw [h9] at t0
    clear ho ho2 ho3 hB2 hB hS hcn hok h9 e1 hl3
    cases hpv : p bd
    all_goals rw [hpv] at hx HO2
    all_goals go_wp2
    all_goals go_roundw
    all_goals first
     | exact ⟨j + 1, qs.length + 1, g, c, by omega, by go_num, rfl, HGO.out.1, by rw [HGO.out.2]; exact HO2.out.1, HO2.out.2⟩
     | (simp [intOf]; omega)
   by_cases h10 : z.1 = 10
   ·have hc1 : 2 ≤ m := by rw [h10] at hcn; have e : cntM 10 = 2 := rfl; omega
    obtain ⟨qs1, q, rfl⟩ := pd_snoc (ps := ps) (by omega)
    obtain ⟨qs, p, rfl⟩ := pd_snoc (ps := qs1) (by simp at hpl; omega)
    have hql : m = qs.length + 1 + 1 := by rw [← hpl]; simp
    subst hql
    rw [bits_snoc, bits_snoc] at ho
    have hx : wr.cell? ⟨g, qs.length, none⟩ = some (.bool (p bd)) := by rw [ho.cellAt qs.length (by omega)]; simp [bitsV]
    have hx2 : wr.cell? ⟨g, qs.length + 1, none⟩ = some (.bool (q bd)) := by rw [ho.cellAt (qs.length + 1) (by omega)]; simp [bitsV]
    have hfx : ∀ o, wr.frozen? ⟨g, o, none⟩ = false := ho.frozenAt
    have ho2 := (ho.stored qs.length (.bool (p bd || q bd))).1
    have e1 := set_snoc2 (l := bitsV qs bd) (x := .bool (p bd)) (z := .bool (q bd)) (y := .bool (p bd || q bd))
    rw [bits_len] at e1
    rw [e1, ← step10 qs p q bd h10] at ho2
    have hl3 : (bitsV (stepP z (qs ++ [p] ++ [q])) bd).length = (qs.length + 1) * 1 := by rw [step10 qs p q bd h10]; simp [bitsV]
    have ho3 := ownsRow_pop hl3 ho2
    have hB2 : Below W0.heap.size W0 (wr.setCell ⟨g, qs.length, none⟩ (.bool (p bd || q bd))) := hB.setCell (p := ⟨g, qs.length, none⟩) hgc.1 _
    have HO2 := hidOf (And.intro ho3 hB2)
    have e2 : ((qs.length + 1 + 1 : Nat) : Int) - 1 = ((qs.length + 1 : Nat) : Int) := by omega
    have e3 : ((qs.length + 1 + 1 : Nat) : Int) - 2 = (qs.length : Int) := by omega
    have hcz : cntM z.1 = 2 := by rw [h10]; rfl
    rw [hcz] at HGO
    rw [h10] at t0
    clear ho ho2 ho3 hB2 hB hS hcn hok h10 e1 hl3
    cases hpv : p bd
    all_goals rw [hpv] at hx HO2
    all_goals go_wp2
    all_goals go_roundw
    all_goals first
     | exact ⟨j + 1, qs.length + 1, g, c, by omega, by go_num, rfl, HGO.out.1, by rw [HGO.out.2]; exact HO2.out.1, HO2.out.2⟩
     | (simp [intOf]; omega)
   have hc0 : cntM z.1 = 0 := by simp [cntM, h8, h9, h10]
   have e8 : (z.1 == 8) = false := by simp [h8]
   have e9 : (z.1 == 9) = false := by simp [h9]
   have e10 : (z.1 == 10) = false := by simp [h10]
   have HC := fun u => hidOf (l8Says_any z k n s u hok hc0 HM.out)
   rw [HBD.out] at HC
   rw [hc0] at HGO
   have HO1 := hidOf ho
   clear ho hok hcn h8 h9 h10
   go_wp2_with fail
   refine wp_region_noPanic ?_
   refine wp_region_held_drew (S := fun w' => LeftS b (off + j * 3) w.heap.size z k n s W0 w') (by kernel_rfl) (hS.keep (Below.refl _ _).drew hb hw0) (fun hHeld => ?_)
   refine tK 0 ?_ rfl (by kernel_rfl) (by rfl) ?_ (by assumption) (fun _ _ _ h => h) ?_
   case refine_2 => (intro w hSw; (try dsimp only at hSw); go_simp; try with_reducible rfl)
   simp only [Act.put, List.getElem_toArray, List.getElem_cons_zero, List.setIfInBounds_toArray, List.set_cons_zero, List.set_cons_succ]
   refine tR 1 ?_
   refine tR 2 ?_
   refine tR 3 ?_
   refine tR 4 ?_
   refine tR 5 ?_
   refine tW 6 (fun K hK => ?_)
   go_simp
   refine ((HC _).out).mono ?_
   rintro e w1 ⟨rfl, hb1⟩
   have hb1' : Below wr.heap.size wr w1 := (Below.refl _ _).drew.trans hb1
   have hS1 : LeftS b (off + j * 3) w.heap.size z k n s W0 w1 := hHeld.keep (hb1.mono hHeld.2.2.2.2.2.2.size) hb hw0
   have ho1 := rowB_keep HO1.out hb1'
   obtain ⟨g3, c3, w3, hr3, ho3, hg3⟩ := append_bit W0.heap.size m _ _ (leafP z bd) w1 ho1 hS1.2.2.2.2.2.2.size (by omega)
   have hB3 : Below W0.heap.size W0 w3 := hS1.2.2.2.2.2.2.grown hg3 hS1.2.2.2.2.2.2.size (fun q hq => (ho1.lt q hq).1)
   have hS3 : LeftS b (off + j * 3) w.heap.size z k n s W0 w3 := hS1.keep ((Below.refl W0.heap.size w1).grown hg3 hS1.2.2.2.2.2.2.size (fun q hq => (ho1.lt q hq).1)) hb hw0
   have hSa : LeftS b (off + j * 3) w.heap.size z k n s W0 (w1.alloc (.cells #[.bool (leafP z bd)] 4)) := hS1.keep ((Below.refl W0.heap.size w1).alloc hS1.2.2.2.2.2.2.size _) hb hw0
   rw [← bits_snoc, ← stepP_0 hc0] at ho3
   have HO3 := hidOf (And.intro ho3 hB3)
   go_wp2_with fail
   refine hK.out _ _ hS1 (fun hHeld => ?_)
   clear hK K
   refine tW 7 (fun K hK => ?_)
   go_simp
   refine hK.out _ _ hSa (fun hHeld => ?_)
   clear hK K
   refine tW 8 (fun K hK => ?_)
   refine fstep_append_run (by rfl) _ _ 162 (by rfl) (.slice (some ⟨g, 0, none⟩) m c) (.slice (some ⟨w1.heap.size, 0, none⟩) 1 1) _ (by rfl) (by rfl) hr3 ?_
   refine hK.out _ _ hS3 (fun hHeld => ?_)
   clear hK K
   simp only [Act.put, zGA, zG0, zGC, zSA, zS0, zSC]
   refine tR 9 ?_
   refine wpAnyH_done (by kernel_rfl) ?_ _
   refine NoPanic.normal ?_
   clear hHeld hS1 hS3 hSa ho1 ho3 hg3 hr3 hB3 hb1 hb1' HC HO1 t0 t1 t2 y0 y1 y2 hS
   go_wp2
   go_roundw
   case rel => exact ⟨j + 1, m + 1, g3, c3, by omega, by go_num, rfl, HGO.out.1, by rw [HGO.out.2]; exact HO3.out.1, HO3.out.2⟩
   case measure => simp [intOf]; omega
  ·obtain rfl : j = N := by omega
   have hT : ts.take j = ts := List.take_of_length_le (by rw [HL.out]; exact Nat.le_refl _)
   rw [hT] at ho hgo hpl
   have HBf := hidOf (HB0.out.trans (hB.mono (Nat.le_of_lt hw0)))
   by_cases h0 : j = 0
   ·subst h0
    obtain rfl : ts = [] := List.length_eq_zero_iff.1 HL.out
    clear ho hB
    go_wp2
    go_ret
    exact ⟨rfl, HBf.out⟩
   ·have hne : ts ≠ [] := by rintro rfl; have := HL.out; simp at this; omega
    have hpos : 1 ≤ m := goN_pos (f := ts) (k := j) (by omega) (by rw [HL.out]; exact Nat.le_refl _) (by rw [hT]; exact hgo)
    have e0 : ((j : Int) == 0) = false := by simp; omega
    have hx : wr.cell? ⟨g, 0, none⟩ = some (.bool (pg (runP ts) 0 bd)) := by
     rw [ho.cellAt 0 (by omega)]
     have : 0 < (runP ts).length := by omega
     simp [bitsV, pg, List.getD, List.getElem?_eq_getElem this]
    have HP := hidOf (passP_end hne)
    clear ho hB hT
    go_wp2
    go_ret
    exact ⟨rbool (by rw [HP.out]), HBf.out⟩
end Go.Proofs.YtihdglmiecifjaaGreat
