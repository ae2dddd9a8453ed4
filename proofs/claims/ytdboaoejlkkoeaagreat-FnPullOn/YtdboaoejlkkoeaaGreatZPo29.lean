/-
  The specification's draws: a ring's variable while it is drawn
  Walk of the specification's draws: a short filter
  The program's Subscribe
  The program's Send
-/
import Derived.Test.YtdboaoejlkkoeaaGreatZPo35
namespace Go.Proofs.YtdboaoejlkkoeaaGreat
open Go.RowKit Go.Maps Pl Il Dr
abbrev zR : List Value := [.int .i64 0, .int .i64 0, .slice none 0 0, .int .i64 0, .slice none 0 0, .slice none 0 0, .slice none 0 0, .bool false]
abbrev stR (u : World) (N : Nat) (M : Rm) (v : Rv) : World := (((((((u.setCell ⟨N, 0, none⟩ (.int .i64 v.cp)).setCell ⟨N, 1, none⟩ (.int .i64 v.se)).setCell ⟨N, 2, none⟩ (.slice M.ia M.i M.ic)).setCell ⟨N, 3, none⟩ (.int .i64 v.nx)).setCell ⟨N, 4, none⟩ (.slice M.sa M.s M.sc)).setCell ⟨N, 5, none⟩ (.slice M.la M.l M.lc)).setCell ⟨N, 6, none⟩ (.slice M.ga M.g M.gc)).setCell ⟨N, 7, none⟩ (.bool v.cl)
theorem stR_eq (u : World) (N : Nat) (M : Rm) (v : Rv) : stR u N M v = setL u N 0 (rC M v) := rfl
theorem stR_size (u : World) (N : Nat) (M : Rm) (v : Rv) : (stR u N M v).heap.size = u.heap.size := by rw [stR_eq, setL_size]
theorem stR_grown (u : World) (N : Nat) (M : Rm) (v : Rv) : u.grownBy (stR u N M v) (some N) := by rw [stR_eq]; exact setL_grown ⟨rfl, rfl, rfl, Nat.le_refl _, fun _ _ _ => rfl⟩
section
variable {c : Nat} {a : Option Addr} {len cap : Nat} {w u u' : World}
theorem drawn_keepR (h : Drawn c a len cap w u) (hb : Below u.heap.size u u') : Drawn c a len cap w u' := ⟨h.cur.keep hb, h.ex.trans (Ex.of hb)⟩
theorem BoxL.dr {N : Nat} {vs : List Value} (h : BoxL N vs u) (hd : Drawn c a len cap u u') (hn : N ≠ c) : BoxL N vs u' := h.grown hd.ex (by intro e; injection e with e; exact hn e.symm)
theorem GOk.dr (h : GOk u) (hd : Drawn c a len cap u u') (hg : 0 < c) : GOk u' := h.grown hd.ex (by intro e; injection e with e; omega)
theorem RRow.dr {B : Nat} {M : Rm} {v : Rv} (h : RRow B u M v) (hd : Drawn c a len cap u u') (hn : c < B) : RRow B u' M v := h.grown hd.ex (h.out hn)
end
structure RKv (c : Nat) (a : Option Addr) (len cap : Nat) (w : World) (N R : Nat) (M : Rm) (v : Rv) (u : World) : Prop where
  dr : Drawn c a len cap w u
  box : BoxL N (rC M v) u
  row : RRow (w.heap.size + 1) u M v
  out : some N ∉ blkR M
  und : ∀ q, some q ∈ blkR M → q < R
  hN : w.heap.size < N
  cur : Cur c a len cap w
  le : R ≤ u.heap.size
  lt : N < R
  gok : GOk u
  gc : 0 < c
  res : BoxL w.heap.size zR u
abbrev RKS (c : Nat) (a : Option Addr) (len cap : Nat) (w : World) (N R : Nat) (M : Rm) (v : Rv) (u : World) : Prop :=
  u.cell? ⟨N, 0, none⟩ = some (.int .i64 v.cp) ∧ u.cell? ⟨N, 1, none⟩ = some (.int .i64 v.se) ∧ u.cell? ⟨N, 2, none⟩ = some (.slice M.ia M.i M.ic) ∧ u.cell? ⟨N, 3, none⟩ = some (.int .i64 v.nx) ∧ u.cell? ⟨N, 4, none⟩ = some (.slice M.sa M.s M.sc) ∧ u.cell? ⟨N, 5, none⟩ = some (.slice M.la M.l M.lc) ∧ u.cell? ⟨N, 6, none⟩ = some (.slice M.ga M.g M.gc) ∧ u.cell? ⟨N, 7, none⟩ = some (.bool v.cl) ∧ RKv c a len cap w N R M v u
structure RNx (c : Nat) (a : Option Addr) (len cap : Nat) (w : World) (N P : Nat) (M : Rm) (v : Rv) (M' : Rm) (v' : Rv) (u : World) : Prop where
  dr : Drawn c a len cap w u
  cur : Cur c a len cap w
  box : BoxL N (rC M v) u
  nxt : BoxL P (rC M' v') u
  row : RRow (w.heap.size + 1) u M' v'
  out : some N ∉ blkR M'
  hN : w.heap.size < N
  ne : P ≠ N
  gok : GOk u
  gc : 0 < c
  res : BoxL w.heap.size zR u
section
variable {c : Nat} {a : Option Addr} {len cap : Nat} {w : World} {N R P : Nat} {M M' : Rm} {v v' : Rv} {u u' : World} {B : Nat}
theorem RKv.s (h : RKv c a len cap w N R M v u) : RKS c a len cap w N R M v u := by
  obtain ⟨p0, p1, p2, p3, p4, p5, p6, p7⟩ := box8 h.box
  exact ⟨p0, p1, p2, p3, p4, p5, p6, p7, h⟩
theorem RKS.kv (h : RKS c a len cap w N R M v u) : RKv c a len cap w N R M v u := h.2.2.2.2.2.2.2.2
theorem RKv.keep (h : RKv c a len cap w N R M v u) (hb : Below u.heap.size u u') : RKv c a len cap w N R M v u' :=
  ⟨drawn_keepR h.dr hb, h.box.keep hb, h.row.keep hb, h.out, h.und, h.hN, h.cur, Nat.le_trans h.le hb.size, h.lt, h.gok.keep hb, h.gc, h.res.keep hb⟩
theorem RKv.draw (h : RKv c a len cap w N R M v u) (hd : Drawn c a len cap u u') : RKv c a len cap w N R M v u' := by
  have hc := h.cur.lt
  have hN := h.hN
  exact ⟨h.dr.trans hd, h.box.dr hd (by omega), h.row.dr hd (by omega), h.out, h.und, h.hN, h.cur, Nat.le_trans h.le hd.ex.size, h.lt, h.gok.dr hd h.gc, h.gc, h.res.dr hd (by omega)⟩
theorem RKv.up (h : RKv c a len cap w N R M v u) : RKv c a len cap w N u.heap.size M v u := ⟨h.dr, h.box, h.row, h.out, fun q hq => (h.row.blk q hq).2, h.hN, h.cur, Nat.le_refl _, h.box.lt, h.gok, h.gc, h.res⟩
theorem RKv.st (h : RKv c a len cap w N R M v u) (hP : R ≤ P) (M' : Rm) (v' : Rv) : RKv c a len cap w N R M v (stR u P M' v') := by
  have hN := h.hN
  have hl := h.lt
  have hg := stR_grown u P M' v'
  have hgc := h.gc
  have hcl := h.cur.lt
  refine ⟨h.dr.grown h.cur hg (by omega), h.box.grown hg (by intro e; injection e with e; omega), h.row.grown hg (fun k => ?_), h.out, h.und, h.hN, h.cur, by rw [stR_size]; exact h.le, h.lt, h.gok.grown hg (by intro e; injection e with e; omega), h.gc, h.res.grown hg (by intro e; injection e with e; omega)⟩
  have := h.und P k
  omega
theorem RKS.keep (h : RKS c a len cap w N R M v u) (hb : Below u.heap.size u u') : RKS c a len cap w N R M v u' := (h.kv.keep hb).s
theorem RKS.drew (h : RKS c a len cap w N R M v u) : RKS c a len cap w N R M v u.drew := h.keep (Below.refl _ _).drew
theorem RKS.alloc (h : RKS c a len cap w N R M v u) (o : Obj) : RKS c a len cap w N R M v (u.alloc o) := h.keep (bl_alloc (Below.refl _ _) o)
theorem RKS.draw (h : RKS c a len cap w N R M v u) (hd : Drawn c a len cap u u') : RKS c a len cap w N R M v u' := (h.kv.draw hd).s
theorem RKS.st (h : RKS c a len cap w N R M v u) (hP : R ≤ P) (M' : Rm) (v' : Rv) : RKS c a len cap w N R M v (stR u P M' v') := (h.kv.st hP M' v').s
theorem RKS.curs (h : RKS c a len cap w N R M v u) : Cur c a len cap u := h.kv.dr.cur
theorem RKS.rin (h : RKS c a len cap w N R M v u) : RIn u M v := h.kv.row.own.rin
theorem RNx.ofAlloc (h : RKS c a len cap w N R M v u) (ho : RRow B u M' v') (hB : R ≤ B) (t : TypeId) : RNx c a len cap w N u.heap.size M v M' v' (u.alloc (.cells (rC M' v').toArray t)) := by
  have hb := bl_alloc (Below.refl u.heap.size u) (.cells (rC M' v').toArray t)
  have k := h.kv.keep hb
  have hl := h.kv.lt
  have hN := k.hN
  exact ⟨k.dr, k.cur, k.box, BoxL.new u (rC M' v') t, (ho.keep hb).mono (by omega), ho.out (by omega), k.hN, by have := h.kv.box.lt; omega, k.gok, k.gc, k.res⟩
theorem RNx.ofStore {vs : List Value} (h : RKS c a len cap w N R M v u) (hP : BoxL P vs u) (hvs : vs.length = 8) (hR : R ≤ P) (ho : RRow B u M' v') (hPB : P < B) : RNx c a len cap w N P M v M' v' (stR u P M' v') := by
  have k := h.kv.st hR M' v'
  have hl := h.kv.lt
  have hN := h.kv.hN
  have hx : BoxL P (rC M' v') (stR u P M' v') := by rw [stR_eq]; exact hP.setAll (us := rC M' v') hvs.symm
  exact ⟨k.dr, k.cur, k.box, hx, (ho.grown (stR_grown u P M' v') (ho.out hPB)).mono (by omega), ho.out (by omega), hN, by omega, k.gok, k.gc, k.res⟩
theorem RNx.keep (h : RNx c a len cap w N P M v M' v' u) (hb : Below u.heap.size u u') : RNx c a len cap w N P M v M' v' u' := ⟨drawn_keepR h.dr hb, h.cur, h.box.keep hb, h.nxt.keep hb, h.row.keep hb, h.out, h.hN, h.ne, h.gok.keep hb, h.gc, h.res.keep hb⟩
theorem RNx.put (h : RNx c a len cap w N P M v M' v' u) : RKv c a len cap w N u.heap.size M' v' (stR u N M' v') := by
  have hN := h.hN
  have hg := stR_grown u N M' v'
  have hgc := h.gc
  have hcl := h.cur.lt
  have hx : BoxL N (rC M' v') (stR u N M' v') := by rw [stR_eq]; exact h.box.setAll (us := rC M' v') rfl
  exact ⟨h.dr.grown h.cur hg (by omega), hx, h.row.grown hg h.out, h.out, fun q hq => (h.row.blk q hq).2, hN, h.cur, by rw [stR_size]; exact Nat.le_refl _, h.box.lt, h.gok.grown hg (by intro e; injection e with e; omega), h.gc, h.res.grown hg (by intro e; injection e with e; omega)⟩
end
theorem okF_len {fl : List Tm} (h : okF fl = true) : fl.length ≤ 12 := by
  unfold okF at h
  simp only [Bool.and_eq_true, decide_eq_true_eq] at h
  omega
theorem ok_le {w : World} {M : Rm} {v : Rv} (h : okR restR v = true) (hI : RIn w M v) : RLe M 64 := by
  have h1 := ok_head h
  rw [okR_iff] at h
  have l1 := hI.it.len
  have l2 := hI.sb.len
  have l3 := hI.ln.len
  have l4 := hI.gs.len
  have l5 := congrArg List.length hI.sv
  simp only [svs, List.length_map] at l5
  refine ⟨by omega, by omega, fun x hx => ?_, by omega, by omega⟩
  have l6 := (hI.sb.fil x hx).len
  have : x.s ∈ v.sb := by rw [← hI.sv]; exact List.mem_map.2 ⟨x, hx, rfl⟩
  have := okF_len (h.1.sub _ this).fl
  omega
theorem wf_of {x : Int} (h0 : -2000000000 ≤ x) (h1 : x ≤ 2000000000) : (Lit.int .i64 x).wf = true := by
  simp [Lit.wf, IntKind.min, IntKind.max, IntKind.signed, IntKind.bits]; omega
theorem ok_wf {v : Rv} (h : okR restR v = true) : RWf v := by
  rw [okR_iff] at h
  obtain ⟨h, _⟩ := h
  have h1 := h.cp
  have h2 := h.se
  have h3 := h.nx
  have hm : ∀ y, y ∈ v.ln ++ v.gs → (Lit.int .i64 y).wf = true := fun y hy => by
    obtain ⟨s, hs, rfl⟩ := List.mem_map.1 (h.mem y hy)
    have p := h.sub s hs
    have := p.i0
    have := p.i1
    exact wf_of (by omega) (by omega)
  refine ⟨wf_of (by omega) (by omega), wf_of (by omega) (by omega), wf_of (by omega) (by omega), fun s hs => ?_, fun y hy => hm y (List.mem_append.2 (.inl hy)), fun y hy => hm y (List.mem_append.2 (.inr hy))⟩
  have p := h.sub s hs
  have := p.i0
  have := p.i1
  have := p.st
  have := p.sc
  have := p.cu
  have := p.gt
  have := p.lo
  have := p.pa
  have := p.su
  exact ⟨wf_of (by omega) (by omega), wf_of (by omega) (by omega), wf_of (by omega) (by omega), wf_of (by omega) (by omega), wf_of (by omega) (by omega), wf_of (by omega) (by omega)⟩
end Go.Proofs.YtdboaoejlkkoeaaGreat
namespace Go.Proofs.YtdboaoejlkkoeaaGreat
open Go.RowKit Pl Il Dr
set_option maxRecDepth 100000 in
set_option maxHeartbeats 8000000 in
theorem l8Filter2_any (a : Option Addr) (len cap : Nat) (c : Nat) (w : World) (hC : Cur c a len cap w) :
  Calls Tryz.prog 172 #[.pointer (some ⟨c, 0, none⟩), .int .i64 2] w fun e w' => FilP w c a len cap 12 e w' := by
 have hlt := hC.lt
 have HC := hidOf hC
 have V0 : FV w c a len cap (.slice (some ⟨w.heap.size, 0, none⟩) 0 0) 0 [] (w.alloc (.cells #[] 132)) :=
  ⟨(Drawn.start hC).alloc _, World.ownsRow_made w #[] 0 (Nat.le_refl _) (by unfold maxLen; omega) (by simp), fun p hp => by cases hp⟩
 have HV0 := hidOf V0
 clear hC V0
 go_enter Tryz.func172, Tryz.ntmps172
 go_wp2_with fail
 refine (below_any a len cap c _ _ HV0.out.D.cur (by omega) (by omega)).mono ?_
 rintro e w1 ⟨n, rfl, n0, n1, hd1⟩
 have HV1 := hidOf (HV0.out.draw hd1 hlt)
 clear hd1 HV0
 go_wp2_with fail
 go_loopw [5, 7] (fun v i wr => ∃ (j m : Nat) (l : List Tm), (j : Int) ≤ n ∧ i = .int .i64 j ∧ m ≤ 2 * j ∧ FV w c a len cap v m l wr) (fun _ i _ => n.toNat - (intOf i).toNat)
 case atStart => exact ⟨0, 0, [], by omega, rfl, Nat.le_refl _, HV1.out⟩
 case round =>
  rename_i wr
  obtain ⟨j, m, l, hj, rfl, hmj, hV⟩ := hrel
  clear HV1
  obtain ⟨a1, c1, rfl⟩ := hV.form
  have HV := hidOf hV
  clear hV
  by_cases hlt' : (j : Int) < n
  ·by_cases hj0 : j = 0
   ·subst hj0
    go_wp2_with fail
    refine (l8Leaf_any a len cap c _ HV.out.D.cur).mono ?_
    rintro e w2 ⟨t, rfl, ht, hd2⟩
    have V2 := HV.out.draw hd2 hlt
    obtain ⟨a3, c3, w3, hr3, hV3⟩ := V2.app HC.out 1 [t] _ (new1 w2 t (small40 ht)) (by omega)
    have Hr := hidOf hr3
    have HV3 := hidOf hV3
    clear hd2 V2 hr3 hV3 HV
    go_wp2_with (at_builtin; refine wpList_append_run rfl _ _ 39 rfl _ _ _ rfl rfl Hr.out ?_)
    go_roundw
    case rel => exact ⟨0 + 1, m + 1, _, by omega, by go_num, by omega, HV3.out⟩
    case measure => simp [intOf]; omega
   ·have e0 : ((j : Int) == 0) = false := by simp; omega
    go_wp2_with fail
    refine (below_any a len cap c _ _ HV.out.D.cur (by omega) (by omega)).mono ?_
    rintro e w2 ⟨x, rfl, x0, x1, hd2⟩
    have HV2 := hidOf (HV.out.draw hd2 hlt)
    clear hd2 HV
    by_cases hx0 : x = 0
    ·subst hx0
     obtain ⟨a3, c3, w3, hr3, hV3⟩ := HV2.out.app HC.out 1 [(8, 0, ⟨#[]⟩)] _ (new1 w2 (8, 0, ⟨#[]⟩) (by exact Nat.zero_le _)) (by omega)
     have Hr := hidOf hr3
     have HV3 := hidOf hV3
     clear hr3 hV3 HV2
     go_wp2_with (at_builtin; refine wpList_append_run rfl _ _ 39 rfl _ _ _ rfl rfl Hr.out ?_)
     go_roundw
     case rel => exact ⟨j + 1, m + 1, _, by omega, by go_num, by omega, HV3.out⟩
     case measure => simp [intOf]; omega
    have ex0 : (x == 0) = false := by simp [hx0]
    by_cases hx1 : x = 1
    ·subst hx1
     go_wp2_with fail
     refine (l8Leaf_any a len cap c _ HV2.out.D.cur).mono ?_
     rintro e w4 ⟨t, rfl, ht, hd4⟩
     have V4 := HV2.out.draw hd4 hlt
     obtain ⟨a3, c3, w3, hr3, hV3⟩ := V4.app HC.out 2 [t, (9, 0, ⟨#[]⟩)] _ (new2 w4 t (9, 0, ⟨#[]⟩) (small40 ht) (by exact Nat.zero_le _)) (by omega)
     have Hr := hidOf hr3
     have HV3 := hidOf hV3
     clear hd4 V4 hr3 hV3 HV2
     go_wp2_with (at_builtin; refine wpList_append_run rfl _ _ 39 rfl _ _ _ rfl rfl Hr.out ?_)
     go_roundw
     case rel => exact ⟨j + 1, m + 2, _, by omega, by go_num, by omega, HV3.out⟩
     case measure => simp [intOf]; omega
    ·have ex1 : (x == 1) = false := by simp [hx1]
     go_wp2_with fail
     refine (l8Leaf_any a len cap c _ HV2.out.D.cur).mono ?_
     rintro e w4 ⟨t, rfl, ht, hd4⟩
     have V4 := HV2.out.draw hd4 hlt
     obtain ⟨a3, c3, w3, hr3, hV3⟩ := V4.app HC.out 2 [t, (10, 0, ⟨#[]⟩)] _ (new2 w4 t (10, 0, ⟨#[]⟩) (small40 ht) (by exact Nat.zero_le _)) (by omega)
     have Hr := hidOf hr3
     have HV3 := hidOf hV3
     clear hd4 V4 hr3 hV3 HV2
     go_wp2_with (at_builtin; refine wpList_append_run rfl _ _ 39 rfl _ _ _ rfl rfl Hr.out ?_)
     go_roundw
     case rel => exact ⟨j + 1, m + 2, _, by omega, by go_num, by omega, HV3.out⟩
     case measure => simp [intOf]; omega
  ·have h12 : ¬ 12 < (m : Int) := by omega
   go_wp2
   go_ret
   exact ⟨a1, m, c1, l, rfl, by omega, HV.out⟩
end Go.Proofs.YtdboaoejlkkoeaaGreat
namespace Go.Proofs.YtdboaoejlkkoeaaGreat
open Go.RowKit Go.Maps Pl Il
theorem ok_next {v : Rv} (h : okR restR v = true) : 0 ≤ v.nx ∧ v.nx ≤ 1000000000 := by
  simp only [okR, headR, lenR, Bool.and_eq_true, decide_eq_true_eq] at h
  obtain ⟨⟨⟨⟨_, hn⟩, _⟩, _⟩, _⟩ := h
  omega
open Go.RowKit Go.Maps Pl Il
theorem rgt_rowS {w U : World} {M : Rm} {v : Rv} {N1 : Nat} {rs : List Value} (row : RRow (w.heap.size + 3) U M v) (h1 : N1 = w.heap.size + 2) (hB : Below w.heap.size w U) : RRow w.heap.size (setL U N1 0 rs) M v ∧ Below w.heap.size w (setL U N1 0 rs) := by
  have r1 := row.grown (setL_grown (g := N1) (o := 0) (vs := rs) ⟨rfl, rfl, rfl, Nat.le_refl _, fun _ _ _ => rfl⟩) (row.out (by omega))
  exact ⟨(r1.mono (B' := w.heap.size) (by omega)), setL_below (by omega) hB⟩
open Go.RowKit Go.Maps Pl Il
theorem RRow.lineV {B : Nat} {w' : World} {M : Rm} {v : Rv} {a : Option Addr} {m c : Nat} {xs : List Int} (h : RRow B w' M v) (ho : w'.ownsRow B 3 1 (.slice a m c) m (intsV xs)) (hn : ∀ q, (Value.slice a m c).ownBlock = some q → some q ∉ blkR M) : RRow B w' { M with la := a, l := m, lc := c } { v with ln := xs } := by
  have hA : AptP _ _ _ _ _ := apt_iff.1 h.apt
  have nin : ∀ {z : Option Nat}, z ∈ blkR M → ∀ b, (Value.slice a m c).ownBlock = some b → z ≠ some b := fun hz b e e' => hn b e (by rw [← e']; exact hz)
  have inX : ∀ y, y ∈ M.xs.map (fun x => (Value.slice x.a x.n x.c).ownBlock) → y ∈ blkR M := fun y hy => by
    unfold blkR
    exact List.mem_cons_of_mem _ (List.mem_cons_of_mem _ (List.mem_cons_of_mem _ (List.mem_cons_of_mem _ hy)))
  refine ⟨h.it, h.its, h.sb, h.fl, h.fls, h.sv, ho, h.gs, apt_iff.2 ⟨hA.is, fun b e e' => ?_, hA.ig, hA.ix, fun b e e' => ?_, hA.sg, hA.sx, fun b e e' => ?_, fun x hx b e e' => ?_, hA.gx, hA.xx⟩⟩
  · exact nin (z := (Value.slice M.ia M.i M.ic).ownBlock) (by simp [blkR]) b e' e
  · exact nin (z := (Value.slice M.sa M.s M.sc).ownBlock) (by simp [blkR]) b e' e
  · exact nin (z := (Value.slice M.ga M.g M.gc).ownBlock) (by simp [blkR]) b e e'
  · exact nin (inX x hx) b e e'
structure SpM (w : World) (N1 NK K : Nat) (M3 : Rm) (v3 : Rv) (zr : List Value) (tl : List Int) (ta : Option Addr) (tn tc : Nat) (u : World) : Prop where
  R : BoxL N1 zr u
  O : BoxL NK (rC M3 v3) u
  row : RRow (w.heap.size + 3) u M3 v3
  told : u.ownsRow K 3 1 (.slice ta tn tc) tn (intsV tl)
  tb : ∀ q, (Value.slice ta tn tc).ownBlock = some q → some q ∉ blkR M3
  nkb : some NK ∉ blkR M3
  bel : Below w.heap.size w u
  ge : K ≤ u.heap.size
theorem mem_blkL {M : Rm} {a : Option Addr} {n c q : Nat} (h : some q ∈ blkR { M with la := a, l := n, lc := c }) : some q ∈ blkR M ∨ (Value.slice a n c).ownBlock = some q := by
  unfold blkR at h ⊢
  simp only [List.mem_cons] at h ⊢
  rcases h with e | e | e | e | e
  · exact .inl (.inl e)
  · exact .inl (.inr (.inl e))
  · exact .inr e.symm
  · exact .inl (.inr (.inr (.inr (.inl e))))
  · exact .inl (.inr (.inr (.inr (.inr e))))
theorem mem_blkG {M : Rm} {a : Option Addr} {n c q : Nat} (h : some q ∈ blkR { M with ga := a, g := n, gc := c }) : some q ∈ blkR M ∨ (Value.slice a n c).ownBlock = some q := by
  unfold blkR at h ⊢
  simp only [List.mem_cons] at h ⊢
  rcases h with e | e | e | e | e
  · exact .inl (.inl e)
  · exact .inl (.inr (.inl e))
  · exact .inl (.inr (.inr (.inl e)))
  · exact .inr e.symm
  · exact .inl (.inr (.inr (.inr (.inr e))))
section
variable {w : World} {NM N1 NK K : Nat} {M : Rm} {v : Rv} {M2 : Rm} {v2 : Rv} {mc zr : List Value} {sb' : List Sb} {ys : List Sa} {tl sl : List Int} {ta : Option Addr} {tn tc : Nat} {za : Option Addr} {zn zc : Nat} {u u' : World}
theorem SpL.line (h : SpL w NM N1 NK K M v M2 v2 mc zr sb' ys tl sl ta tn tc za zn zc u) (hF : SpF w NM N1 NK K M2) :
    SpM w N1 NK K { M2 with xs := ys, la := za, l := zn, lc := zc } { v2 with sb := sb', ln := sl } zr tl ta tn tc (u.setCell ⟨NK, 5, none⟩ (.slice za zn zc)) := by
  have l1 := hF.nm; have l2 := hF.n1; have l3 := hF.nk; have l4 := hF.k
  have g01 : u.grownBy (u.setCell ⟨NK, 5, none⟩ (.slice za zn zc)) (some NK) := grown_setC _ _ _ _
  have far : ∀ {a : Option Addr} {n c : Nat} {xs : List Int}, u.ownsRow K 3 1 (.slice a n c) n (intsV xs) → (u.setCell ⟨NK, 5, none⟩ (.slice za zn zc)).ownsRow K 3 1 (.slice a n c) n (intsV xs) := fun ho => rowG ho g01 (fun q e e' => by injection e with e; subst e; have := (row_lt ho e').1; omega)
  refine ⟨h.R.far _ _ (by omega) _, h.O.set 5 (by simp) _, ?_, far h.told, fun q e hm => ?_, fun hm => ?_, bl_setB h.bel _ _ (by omega) _, by simpa using h.ge⟩
  · exact (h.row.grown g01 (by rw [h.blk]; exact hF.nkb)).lineV (rowM (far h.stay) (by omega)) (fun q e => by rw [h.blk]; exact h.zb q e)
  · rcases mem_blkL (M := { M2 with xs := ys }) hm with k | k
    · rw [h.blk] at k; exact h.tb q e k
    · exact h.ap q e k
  · rcases mem_blkL (M := { M2 with xs := ys }) hm with k | k
    · rw [h.blk] at k; exact hF.nkb k
    · have := (row_lt h.stay k).1; omega
theorem SpM.grants {M3 : Rm} {v3 : Rv} (h : SpM w N1 NK K M3 v3 zr tl ta tn tc u) (hF : SpF w NM N1 NK K M2) {a4 : Option Addr} {n4 c4 : Nat} {gs' : List Int} {w4 : World} (ho : w4.ownsRow (w.heap.size + 3) 3 1 (.slice a4 n4 c4) n4 (intsV gs')) (hg : u.grownBy w4 (Value.slice M3.ga M3.g M3.gc).ownBlock) (hl : ∀ q, (Value.slice a4 n4 c4).ownBlock = some q → (Value.slice M3.ga M3.g M3.gc).ownBlock = some q ∨ u.heap.size ≤ q) :
    SpM w N1 NK K { M3 with ga := a4, g := n4, gc := c4 } { v3 with gs := gs' } zr tl ta tn tc (w4.setCell ⟨NK, 6, none⟩ (.slice a4 n4 c4)) ∧ BoxL NK (rC M3 v3) w4 := by
  have l1 := hF.nm; have l2 := hF.n1; have l3 := hF.nk; have l4 := hF.k
  have gin : ∀ q, (Value.slice M3.ga M3.g M3.gc).ownBlock = some q → some q ∈ blkR M3 := fun q e => by rw [← e]; simp [blkR]
  have O4 := h.O.grownO hg (fun e => h.nkb (gin _ e))
  have R4 := h.R.grownO hg (fun e => by have := (h.row.blk _ (gin _ e)).1; omega)
  have row4 := h.row.growG ho hg hl
  have nk4 : some NK ∉ blkR { M3 with ga := a4, g := n4, gc := c4 } := fun hm => by
    rcases mem_blkG hm with k | k
    · exact h.nkb k
    · rcases hl _ k with k | k
      · exact h.nkb (gin _ k)
      · have := h.ge; omega
  have told4 := rowG h.told hg (fun q e e' => h.tb q e' (gin q e))
  have B4 : Below w.heap.size w w4 := h.bel.grown hg (by have := h.ge; omega) (fun q e => by have := (h.row.blk _ (gin q e)).1; omega)
  have g01 : w4.grownBy (w4.setCell ⟨NK, 6, none⟩ (.slice a4 n4 c4)) (some NK) := grown_setC _ _ _ _
  refine ⟨⟨R4.far _ _ (by omega) _, O4.set 6 (by simp) _, row4.grown g01 nk4, rowG told4 g01 (fun q e e' => by injection e with e; subst e; have := (row_lt told4 e').1; omega), fun q e hm => ?_, nk4, bl_setB B4 _ _ (by omega) _, by have := h.ge; have := hg.size; simp; omega⟩, O4⟩
  rcases mem_blkG hm with k | k
  · exact h.tb q e k
  · rcases hl _ k with k | k
    · exact h.tb q e (gin _ k)
    · have := (row_lt h.told e).2; omega
end
open Go.RowKit Go.Maps Pl Il
theorem nstep_append_exQ {P : Program} {ops : Array Oper} {o : Oper} {a : Act} {w : World} {K : Act → World → Prop} {Q : Exit → Act → World → Prop} {E : Prop} {R : Value → World → Prop} (hgd : o.guard = none) (s x : Operand) (t : TypeId)
    (ho : o.op = .call { callee := .builtin .append, args := #[s, x], argTypes := #[t, t] }) (v u : Value) (hs : a.eval s = v) (hx : a.eval x = u)
    (hr : ∃ v' w', (Builtin.append_ #[t, t] o.type #[v, u]).run P w = .ok v' w' ∧ R v' w') (h : ∀ v' w', R v' w' → K (a.put o.dst v') w') :
    if Region.wanted o (yielded ops a.tmps) = true then Oper.wp P o a w K Q else E := by
  have hw : Region.wanted o (yielded ops a.tmps) = true := by simp [Region.wanted, hgd]
  rw [if_pos hw]
  obtain ⟨v', w', hrun, hR⟩ := hr
  unfold Oper.wp execOp
  simp only [ho, resolve, invoke, builtin, Sem.run_bind, Sem.run_pure, Result.andThen_ok, List.map_toArray, List.map_cons, List.map_nil, hs, hx, hrun]
  exact h v' w' hR
theorem nstep_append_runQ {P : Program} {ops : Array Oper} {o : Oper} {a : Act} {w w' : World} {K : Act → World → Prop} {Q : Exit → Act → World → Prop} {E : Prop} (hgd : o.guard = none) (s x : Operand) (t : TypeId)
    (ho : o.op = .call { callee := .builtin .append, args := #[s, x], argTypes := #[t, t] }) (v u v' : Value) (hs : a.eval s = v) (hx : a.eval x = u)
    (hr : (Builtin.append_ #[t, t] o.type #[v, u]).run P w = .ok v' w') (h : K (a.put o.dst v') w') :
    if Region.wanted o (yielded ops a.tmps) = true then Oper.wp P o a w K Q else E :=
  nstep_append_exQ (R := fun v1 w1 => v1 = v' ∧ w1 = w') hgd s x t ho v u hs hx ⟨v', w', hr, rfl, rfl⟩ (fun _ _ h1 => by obtain ⟨rfl, rfl⟩ := h1; exact h)
end Go.Proofs.YtdboaoejlkkoeaaGreat
namespace Go.Proofs.YtdboaoejlkkoeaaGreat
open Go.RowKit Go.Maps Pl Il Dr
structure IdS (c : Nat) (a : Option Addr) (len cap : Nat) (w : World) (N B : Nat) (M : Rm) (v : Rv) (ba : Option Addr) (bn bc : Nat) (xs : List Int) (u : World) : Prop where
  dr : Drawn c a len cap w u
  box : BoxL N (rC M v) u
  row : RRow B u M v
  both : u.ownsRow (c + 1) 3 1 (.slice ba bn bc) bn (intsV xs)
  hc : c < B
  hN : N ≠ c
theorem IdS.draw {c : Nat} {a : Option Addr} {len cap : Nat} {w : World} {N B : Nat} {M : Rm} {v : Rv} {ba : Option Addr} {bn bc : Nat} {xs : List Int} {u u' : World} (h : IdS c a len cap w N B M v ba bn bc xs u) (hd : Drawn c a len cap u u') : IdS c a len cap w N B M v ba bn bc xs u' :=
  ⟨h.dr.trans hd, h.box.dr hd h.hN, h.row.dr hd h.hc, rowG h.both hd.ex (fun q e e' => by injection e with e; have := (row_lt h.both e').1; omega), h.hc, h.hN⟩
theorem IdS.drew {c : Nat} {a : Option Addr} {len cap : Nat} {w : World} {N B : Nat} {M : Rm} {v : Rv} {ba : Option Addr} {bn bc : Nat} {xs : List Int} {u : World} (h : IdS c a len cap w N B M v ba bn bc xs u) : IdS c a len cap w N B M v ba bn bc xs u.drew :=
  ⟨h.dr.drew, h.box.keep (Below.refl _ _).drew, h.row.keep (Below.refl _ _).drew, ownsRow_keep h.both (Below.refl _ _).drew, h.hc, h.hN⟩
abbrev IdC (N : Nat) (M : Rm) (w0 u : World) : Prop := u.cell? ⟨N, 5, none⟩ = some (.slice M.la M.l M.lc) ∧ u.cell? ⟨N, 6, none⟩ = some (.slice M.ga M.g M.gc) ∧ Below w0.heap.size w0 u
set_option maxRecDepth 100000 in
set_option maxHeartbeats 8000000 in
theorem l9Id_any (a : Option Addr) (len cap : Nat) (c B : Nat) (M : Rm) (v : Rv) (w : World) (hC : Cur c a len cap w) (hrow : RRow B w M v) (hB : c < B) (hle : RLe M 66) (hwf : RWf v) :
  Calls Tryz.prog 99 #[.pointer (some ⟨c, 0, none⟩), .agg #[.int .i64 v.cp, .int .i64 v.se, .slice M.ia M.i M.ic, .int .i64 v.nx, .slice M.sa M.s M.sc, .slice M.la M.l M.lc, .slice M.ga M.g M.gc, .bool v.cl]] w fun e w' => ∃ z : Int, e = .returned (.int .i64 z) ∧ (Lit.int .i64 z).wf = true ∧ Drawn c a len cap w w' := by
 have hlt := hC.lt
 obtain ⟨W0, hW0⟩ : ∃ W, W = w.alloc (.cells #[.int .i64 v.cp, .int .i64 v.se, .slice M.ia M.i M.ic, .int .i64 v.nx, .slice M.sa M.s M.sc, .slice M.la M.l M.lc, .slice M.ga M.g M.gc, .bool v.cl] 28) := ⟨_, rfl⟩
 have b0 : Below w.heap.size w W0 := by rw [hW0]; exact bl_alloc (Below.refl _ _) _
 have X0 : BoxL w.heap.size (rC M v) W0 := by rw [hW0]; exact BoxL.new w (rC M v) _
 have HX0 := hidOf X0
 have HRow := hidOf (hrow.keep b0)
 have HD := hidOf (drawn_keepR (Drawn.start hC) b0)
 have HIn := hidOf (hrow.own.rin.keep b0)
 have HWf := hidOf hwf
 have hml := hle.l
 have hmg := hle.g
 have hms := hle.s
 have p5 : W0.cell? ⟨w.heap.size, 5, none⟩ = some (.slice M.la M.l M.lc) := X0.cs 5 (by simp)
 have p6 : W0.cell? ⟨w.heap.size, 6, none⟩ = some (.slice M.ga M.g M.gc) := X0.cs 6 (by simp)
 have HZ0 := hidOf (show W0.heap.size = w.heap.size + 1 by rw [hW0]; simp)
 clear hC hrow hle hwf b0 X0
 go_enter Tryz.func99, Tryz.ntmps99
 go_upto_region 1 with fail
 rw [← hW0]
 clear hW0
 have hS0 : IdC w.heap.size M W0 W0 := ⟨p5, p6, Below.refl _ _⟩
 go_cut [5] from 6 (fun s5 wx => ∃ (ba : Option Addr) (bc : Nat), s5 = .slice ba (M.l + M.g) bc ∧ IdS c a len cap w w.heap.size B M v ba (M.l + M.g) bc (v.ln ++ v.gs) wx)
 case first =>
  refine wp_region_noPanic ?_
  refine wp_region_held_drew (S := fun u => IdC w.heap.size M W0 u) (by kernel_rfl) ⟨by simpa using p5, by simpa using p6, (Below.refl _ _).drew⟩ (fun hHeld => ?_)
  refine tK 0 ?_ rfl (by kernel_rfl) (by rfl) ?_ (by assumption) (fun _ _ _ h => h) ?_
  case refine_2 => (intro w hSw; (try dsimp only at hSw); go_simp; try with_reducible rfl)
  simp only [Act.put, List.getElem_toArray, List.getElem_cons_zero, List.setIfInBounds_toArray, List.set_cons_zero, List.set_cons_succ]
  refine tR 1 ?_
  refine tR 3 ?_
  refine tR 4 ?_
  refine tW 2 (fun K hK => ?_)
  go_simp
  refine (l2Copy_any M.la M.l M.lc v.ln _ (HIn.out.keep (Below.refl _ _).drew).ln (by omega)).mono ?_
  rintro e w2 ⟨g2, c2, rfl, ho2, hb2⟩
  go_wp2_with fail
  have hB2 : Below W0.heap.size W0 w2 := bl_trans (Below.refl _ _).drew hb2
  have hS2 : IdC w.heap.size M W0 w2 := ⟨(HX0.out.keep hB2).cs 5 (by simp), (HX0.out.keep hB2).cs 6 (by simp), hB2⟩
  refine hK.out _ _ hS2 (fun hHeld => ?_)
  clear hK K
  have ho2' : w2.ownsRow W0.heap.size 3 1 (.slice (some ⟨g2, 0, none⟩) M.l c2) M.l (intsV v.ln) := ho2
  have hg2 := (owns_parts ho2).2.1
  have hg2' : W0.heap.size ≤ g2 := hg2
  obtain ⟨a3, c3, w3, hr, ho3, hg3, hl3⟩ := append_ownS W0.heap.size M.l (.slice (some ⟨g2, 0, none⟩) M.l c2) v.ln M.ga M.g M.gc v.gs w2 ho2' hB2.size (HIn.out.keep hB2).gs (by omega)
  have hin : ∀ q, (Value.slice (some ⟨g2, 0, none⟩) M.l c2).ownBlock = some q → q = g2 := fun q e => by simpa [Value.ownBlock] using e.symm
  have hB3 : Below W0.heap.size W0 w3 := hB2.grown hg3 hB2.size (fun q e => by have := hin q e; omega)
  have hS3 : IdC w.heap.size M W0 w3 := ⟨(HX0.out.keep hB3).cs 5 (by simp), (HX0.out.keep hB3).cs 6 (by simp), hB3⟩
  refine tW 5 (fun K hK => ?_)
  refine nstep_append_runQ (by rfl) _ _ 26 (by rfl) (.slice (some ⟨g2, 0, none⟩) M.l c2) (.slice M.ga M.g M.gc) _ (by rfl) (by rfl) hr ?_
  refine hK.out _ _ hS3 (fun hHeld => ?_)
  clear hK K
  simp only [Act.put, zGA, zG0, zGC, zSA, zS0, zSC]
  refine tR 6 ?_
  refine wpAnyH_done (by kernel_rfl) ?_ _
  refine NoPanic.normal ?_
  go_wp2_with fail
  go_meet
  exact ⟨a3, c3, rfl, drawn_keepR HD.out hB3, HX0.out.keep hB3, HRow.out.keep hB3, rowM ho3 (by have := HZ0.out; omega), hB, by omega⟩
 case rest =>
  obtain ⟨ba, bc, rfl, hI⟩ := hcut
  have HI := hidOf hI
  clear hI hS0 p5 p6 HX0 HRow HD HIn HZ0
  generalize w.heap.size = N at HI ⊢
  generalize hn : M.l + M.g = n at HI ⊢
  have hn2 : n ≤ 132 := by omega
  have hxl : (v.ln ++ v.gs).length = n := by have := HI.out.both.1; simpa [intsV] using this
  have hwx : ∀ y, y ∈ v.ln ++ v.gs → (Lit.int .i64 y).wf = true := fun y hy => by
   rcases List.mem_append.1 hy with h | h
   ·exact HWf.out.ln y h
   ·exact HWf.out.gs y h
  generalize v.ln ++ v.gs = xs at HI hxl hwx
  have HXl := hidOf hxl
  have HWx := hidOf hwx
  clear hn hxl hwx hml hmg
  go_upto_region 2 with fail
  go_cut [18] from 6 (fun s18 wx => ∃ b : Bool, s18 = .bool b ∧ (b = true → 0 < n) ∧ IdS c a len cap w N B M v ba n bc xs wx)
  case first =>
   by_cases h0 : n = 0
   ·have h0' : ¬ (0 : Int) < (n : Int) := by omega
    clear h0
    go_wp2_with fail
    go_meet
    exact ⟨false, rfl, (fun h => by cases h), HI.out⟩
   ·have h0' : (0 : Int) < (n : Int) := by omega
    have HH := hidOf (Nat.pos_of_ne_zero h0)
    clear h0
    go_wp2_with fail
    refine (once_any a len cap c _ _ HI.out.dr.cur (by omega) (by omega)).mono ?_
    rintro e w4 ⟨b, rfl, hd4⟩
    have HI4 := hidOf (HI.out.draw hd4)
    clear hd4
    go_wp2_with fail
    go_meet
    exact ⟨b, rfl, fun _ => HH.out, HI4.out⟩
  case rest =>
   obtain ⟨b, rfl, hbn, hI⟩ := hcut
   have HI2 := hidOf hI
   clear hI HI
   cases b
   ·clear hbn
    obtain ⟨p0, p1, p2, p3, p4, p5, p6, p7⟩ := box8 HI2.out.box
    go_upto_region 4 with fail
    go_cut [34] from 6 (fun s34 wx => ∃ b : Bool, s34 = .bool b ∧ (b = true → 0 < M.s) ∧ IdS c a len cap w N B M v ba n bc xs wx)
    case first =>
     by_cases h0 : M.s = 0
     ·have h0' : ¬ (0 : Int) < (M.s : Int) := by omega
      clear h0
      go_wp2_with fail
      go_meet
      exact ⟨false, rfl, (fun h => by cases h), HI2.out⟩
     ·have h0' : (0 : Int) < (M.s : Int) := by omega
      have HH := hidOf (Nat.pos_of_ne_zero h0)
      clear h0
      go_wp2_with fail
      refine (once_any a len cap c _ _ HI2.out.dr.cur (by omega) (by omega)).mono ?_
      rintro e w4 ⟨b, rfl, hd4⟩
      have HI4 := hidOf (HI2.out.draw hd4)
      clear hd4
      go_wp2_with fail
      go_meet
      exact ⟨!b, rfl, fun _ => HH.out, HI4.out⟩
    case rest =>
     obtain ⟨b, rfl, hbs, hI⟩ := hcut
     have HI3 := hidOf hI
     clear hI HI2 p0 p1 p2 p3 p4 p5 p6 p7
     cases b
     ·clear hbs
      go_wp2_with fail
      refine (below_any a len cap c _ _ HI3.out.dr.cur (by omega) (by omega)).mono ?_
      rintro e w4 ⟨z, rfl, z0, z1, hd4⟩
      have hw : IntKind.i64.wrap (z - 1) = z - 1 := by rw [IntKind.wrap_i64]; omega
      have HD4 := hidOf (HI3.out.dr.trans hd4)
      have HWz := hidOf (wf_of (x := z - 1) (by omega) (by omega))
      clear hd4
      go_wp2
      go_ret
      exact ⟨_, rfl, HWz.out, HD4.out⟩
     ·have hs : M.s ≠ 0 := by have := hbs rfl; omega
      have hsp : (0 : Int) < (M.s : Int) := by omega
      clear hbs
      obtain ⟨ia, i, ic, sa, s, sc, xs', la, l, lc, ga, g, gc⟩ := M
      simp only at hs hsp HI3 hms
      have hsrow := HI3.out.row.own.rin.sb.row
      simp only at hsrow
      rcases hsrow with h0 | ⟨gb, go, hga, _, _⟩
      ·exact absurd h0 hs
      subst hga
      have hgc : ∀ u, IdS c a len cap w N B ⟨ia, i, ic, some ⟨gb, go, none⟩, s, sc, xs', la, l, lc, ga, g, gc⟩ v ba n bc xs u → ∀ zn : Nat, zn < s → u.cell? ⟨gb, go + zn * 7, none⟩ = some (.int .i64 (sg xs' zn).s.id) := fun u hu zn hzn => by
       rcases hu.row.own.rin.sb.row with h0 | ⟨b2, o2, e2, _, hc2⟩
       ·exact absurd h0 hs
       ·cases e2; exact (hc2 zn hzn).c0
      have HIw := hidOf (fun (zn : Nat) (hzn : zn < s) => show (Lit.int .i64 (sg xs' zn).s.id).wf = true from by
       have hsv := HI3.out.row.sv
       have hlen := HI3.out.row.own.rin.sb.len
       simp only at hsv hlen
       refine (HWf.out.sb _ ?_).id
       rw [← hsv]
       exact List.mem_map.2 ⟨_, sg_mem (by omega), rfl⟩)
      have HB := hidOf (fun (z : Int) (u : World) (z0 : 0 < z) (z1 : z ≤ 256) (hu : Cur c a len cap u) => below_any a len cap c z u hu z0 z1)
      have hS : (fun u => u.cell? ⟨N, 4, none⟩ = some (.slice (some ⟨gb, go, none⟩) s sc) ∧ IdS c a len cap w N B ⟨ia, i, ic, some ⟨gb, go, none⟩, s, sc, xs', la, l, lc, ga, g, gc⟩ v ba n bc xs u) _ := ⟨HI3.out.drew.box.cs 4 (by simp), HI3.out.drew⟩
      go_upto_region 5 with fail
      refine wp_region_noPanic ?_
      refine wp_region_held_drew (S := fun u => u.cell? ⟨N, 4, none⟩ = some (.slice (some ⟨gb, go, none⟩) s sc) ∧ IdS c a len cap w N B ⟨ia, i, ic, some ⟨gb, go, none⟩, s, sc, xs', la, l, lc, ga, g, gc⟩ v ba n bc xs u) (by kernel_rfl) hS (fun hHeld => ?_)
      refine tK 0 ?_ rfl (by kernel_rfl) (by rfl) ?_ (by assumption) (fun _ _ _ h => h) ?_
      case refine_2 => (intro w hSw; (try dsimp only at hSw); go_simp; try with_reducible rfl)
      simp only [Act.put, List.getElem_toArray, List.getElem_cons_zero, List.setIfInBounds_toArray, List.set_cons_zero, List.set_cons_succ]
      refine tR 1 ?_
      refine tR 2 ?_
      refine tR 3 ?_
      refine tR 4 ?_
      refine tR 5 ?_
      refine tW 6 (fun K hK => ?_)
      go_simp
      refine (HB.out _ _ (by omega) (by omega) hHeld.2.dr.cur).mono ?_
      rintro e w5 ⟨z, rfl, z0, z1, hd5⟩
      obtain ⟨zn, rfl⟩ : ∃ zn : Nat, z = zn := ⟨z.toNat, by omega⟩
      go_wp2_with fail
      have hI5 := hHeld.2.draw hd5
      refine hK.out _ _ ⟨hI5.box.cs 4 (by simp), hI5⟩ (fun hHeld => ?_)
      clear hK K
      refine tR 7 ?_
      refine tR 8 ?_
      refine tK 9 ?_ rfl (by kernel_rfl) (by rfl) ?_ (by assumption) (fun _ _ _ h => h) ?_
      case refine_2 => (intro w hSw; have hcg := hgc w hSw.2 zn (by omega); (try dsimp only at hSw); go_simp; try with_reducible rfl)
      simp only [Act.put, zGA, zG0, zGC, zSA, zS0, zSC]
      refine tR 10 ?_
      refine wpAnyH_done (by kernel_rfl) ?_ _
      refine NoPanic.normal ?_
      have HD5 := hidOf hI5.dr
      have HWz := hidOf (HIw.out zn (by omega))
      go_wp2
      go_ret
      exact ⟨_, rfl, HWz.out, HD5.out⟩
   ·have hpos := hbn rfl
    have hp' : (0 : Int) < (n : Int) := by omega
    clear hbn
    go_wp2_with fail
    refine (below_any a len cap c _ _ HI2.out.dr.cur (by omega) (by omega)).mono ?_
    rintro e w4 ⟨z, rfl, z0, z1, hd4⟩
    obtain ⟨k, rfl⟩ : ∃ k : Nat, z = k := ⟨z.toNat, by omega⟩
    have hk : k < n := by omega
    have hI4 := HI2.out.draw hd4
    have HD4 := hidOf hI4.dr
    obtain ⟨_, hr0 | ⟨b2, off2, e2, _, hcell⟩⟩ := ints_row hI4.both
    ·omega
    have hc := hcell k hk
    have HWy := hidOf (HWx.out (xs.getD k 0) (by
     rw [List.getD_eq_getElem?_getD, List.getElem?_eq_getElem (by have := HXl.out; omega)]
     exact List.getElem_mem _))
    subst e2
    clear hI4 hd4 hcell
    go_wp2
    go_ret
    refine ⟨_, rfl, ?_, HD4.out⟩
    first | exact HWy.out | exact HWx.out _ (List.getElem_mem _)
open Go.RowKit Go.Maps Pl Il Dr
theorem Dr.Bytes.laterR {w w' : World} {a : Option Addr} {len cap : Nat} (h : Bytes w.heap.size w a len cap) (hb : Below w.heap.size w w') (c : Nat) (hc : w.heap.size ≤ c) : Bytes c w' a len cap := by
  obtain ⟨hl, hm, h | ⟨b, off, rfl, hb', hn, hcell⟩⟩ := h
  · exact ⟨hl, hm, .inl h⟩
  · refine ⟨hl, hm, .inr ⟨b, off, rfl, Nat.lt_of_lt_of_le hb' hb.size, by omega, fun i hi => ?_⟩⟩
    rw [hb.cell (p := ⟨b, off + i, none⟩) hb']; exact hcell i hi
structure DrS (c : Nat) (a : Option Addr) (len cap : Nat) (w : World) (N B : Nat) (M : Rm) (v : Rv) (u : World) : Prop where
  cur : Cur c a len cap u
  bel : Below w.heap.size w u
  box : BoxL N (rC M v) u
  row : RRow B u M v
abbrev DrC (c : Nat) (a : Option Addr) (len cap : Nat) (w : World) (N B : Nat) (M : Rm) (v : Rv) (u : World) : Prop :=
  u.cell? ⟨N, 0, none⟩ = some (.int .i64 v.cp) ∧ u.cell? ⟨N, 1, none⟩ = some (.int .i64 v.se) ∧ u.cell? ⟨N, 2, none⟩ = some (.slice M.ia M.i M.ic) ∧ u.cell? ⟨N, 3, none⟩ = some (.int .i64 v.nx) ∧ u.cell? ⟨N, 4, none⟩ = some (.slice M.sa M.s M.sc) ∧ u.cell? ⟨N, 5, none⟩ = some (.slice M.la M.l M.lc) ∧ u.cell? ⟨N, 6, none⟩ = some (.slice M.ga M.g M.gc) ∧ u.cell? ⟨N, 7, none⟩ = some (.bool v.cl) ∧ DrS c a len cap w N B M v u
section
variable {c : Nat} {a : Option Addr} {len cap : Nat} {w : World} {N B : Nat} {M : Rm} {v : Rv} {u u' : World}
theorem DrS.s (h : DrS c a len cap w N B M v u) : DrC c a len cap w N B M v u := by
  obtain ⟨p0, p1, p2, p3, p4, p5, p6, p7⟩ := box8 h.box
  exact ⟨p0, p1, p2, p3, p4, p5, p6, p7, h⟩
theorem DrS.draw (h : DrS c a len cap w N B M v u) (hd : Drawn c a len cap u u') (hN : N ≠ c) (hB : c < B) (hw : w.heap.size ≤ c) : DrS c a len cap w N B M v u' := ⟨hd.cur, h.bel.trans (hd.ex.below hw h.bel.size), h.box.dr hd hN, h.row.dr hd hB⟩
theorem DrS.keep (h : DrS c a len cap w N B M v u) (hb : Below u.heap.size u u') : DrS c a len cap w N B M v u' := ⟨h.cur.keep hb, bl_trans h.bel hb, h.box.keep hb, h.row.keep hb⟩
theorem DrS.drew (h : DrS c a len cap w N B M v u) : DrS c a len cap w N B M v u.drew := h.keep (Below.refl _ _).drew
theorem Dr.Cur.grownQ {g : Nat} (h : Cur c a len cap u) (hg : u.grownBy u' (some g)) (hgc : g ≠ c) (hgb : len = 0 ∨ ∀ b off, a = some ⟨b, off, none⟩ → b ≠ g) : Cur c a len cap u' := by
  have key : ∀ b, b < u.heap.size → b ≠ g → u'.heap[b]? = u.heap[b]? := fun b hb hn => hg.block b hb (by simpa using hn)
  have hcell : ∀ o, u'.cell? ⟨c, o, none⟩ = u.cell? ⟨c, o, none⟩ := fun o => World.cell?_of_block (key c h.lt (Ne.symm hgc))
  have hfr : ∀ o, u'.frozen? ⟨c, o, none⟩ = u.frozen? ⟨c, o, none⟩ := fun o => World.frozen?_of_block (key c h.lt (Ne.symm hgc))
  refine ⟨Nat.lt_of_lt_of_le h.lt hg.size, ?_, by rw [hcell]; exact h.at0, by rw [hcell]; exact h.at1, by rw [hcell]; exact h.at2, by rw [hfr]; exact h.fr1, by rw [hfr]; exact h.fr2⟩
  obtain ⟨hl, hm, k | ⟨b, off, e, hb, hn, hc⟩⟩ := h.bytes
  · exact ⟨hl, hm, .inl k⟩
  · rcases hgb with k | k
    · exact ⟨hl, hm, .inl k⟩
    · refine ⟨hl, hm, .inr ⟨b, off, e, Nat.lt_of_lt_of_le hb hg.size, hn, fun i hi => ?_⟩⟩
      have : u'.cell? ⟨b, off + i, none⟩ = u.cell? ⟨b, off + i, none⟩ := World.cell?_of_block (key b hb (k b off e))
      rw [this]; exact hc i hi
theorem DrS.res (h : DrS c a len cap w N B M v u) (hN : w.heap.size ≠ N) (hc : w.heap.size ≠ c) (hB : w.heap.size < B) (hgb : len = 0 ∨ ∀ b off, a = some ⟨b, off, none⟩ → b ≠ w.heap.size) (M' : Rm) (v' : Rv) : DrS c a len cap w N B M v (stR u w.heap.size M' v') := by
  have hg := stR_grown u w.heap.size M' v'
  exact ⟨h.cur.grownQ hg hc hgb, by rw [stR_eq]; exact setL_below (Nat.le_refl _) h.bel, h.box.grown hg (by intro e; injection e with e; exact hN e), h.row.grown hg (h.row.out hB)⟩
end
end Go.Proofs.YtdboaoejlkkoeaaGreat
