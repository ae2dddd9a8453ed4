/-
  The program's ring: a subscriber reads once
-/
import Derived.Test.YtdboaoejlkkoeaaGreatZPu35
namespace Go.Proofs.YtdboaoejlkkoeaaGreat
open Go.RowKit Go.Maps Pl Il
def curAtE (N o : Nat) (w : World) : Int := match w.cell? ⟨N, o, none⟩ with | some (.int _ z) => z | _ => 0
def RdD (B b : Nat) (A : Na) (P : Nat → Tm) (f : Nat) (v : Rv) (g s sc : Nat) (ys : List Sa) (k : Nat) (w : World) (e : Ending) (w' : World) : Prop :=
  e = .returned (.tuple #[.agg #[.int .i64 (readT v (v.sb.getD k Sb0)).kd, .int .i64 (readT v (v.sb.getD k Sb0)).ms.1, .int .i64 (readT v (v.sb.getD k Sb0)).ms.2.1, .string (readT v (v.sb.getD k Sb0)).ms.2.2, .int .i64 (readT v (v.sb.getD k Sb0)).ix, .int .i64 (readT v (v.sb.getD k Sb0)).n], .int .i64 (readC v (v.sb.getD k Sb0))]) ∧ RBody B b A P f (rdV v k) (some ⟨g, 0, none⟩) s sc (ysS ys k (readS v (v.sb.getD k Sb0))) w' ∧ w.grownBy w' (some g)
theorem RBody.belowB {B b : Nat} {A : Na} {P : Nat → Tm} {f : Nat} {v : Rv} {sa : Option Addr} {s sc : Nat} {ys : List Sa} {u u' : World} {K : Nat} (h : RBody B b A P f v sa s sc ys u) (hb : Below K u u') (hlt : b < K ∧ (∀ q, (Value.slice A.a A.n A.c).ownBlock = some q → q < K) ∧ (∀ q, (Value.slice A.a' A.n' A.c').ownBlock = some q → q < K) ∧ (∀ q, (Value.slice sa s sc).ownBlock = some q → q < K) ∧ ∀ x, x ∈ ys → ∀ q, (Value.slice x.a x.n x.c).ownBlock = some q → q < K) : RBody B b A P f v sa s sc ys u' := by
  obtain ⟨h0, h1, h2, h3, h4⟩ := hlt
  have key := hb.block b h0
  have ct : ∀ j, u'.cell? ⟨b, j, none⟩ = u.cell? ⟨b, j, none⟩ := fun j => World.cell?_of_block key
  refine ⟨⟨Nat.lt_of_lt_of_le h.wst.lt hb.size, h.wst.ge, by rw [ct]; exact h.wst.c0, by rw [ct]; exact h.wst.c1, fun o => by rw [← h.wst.fr o]; exact World.frozen?_of_block key, ⟨rowB h.wst.rows.one hb h1, rowB h.wst.rows.two hb h2, h.wst.rows.ne⟩, h.wst.ne1, h.wst.ne2⟩, ⟨?_, fun j hj => ?_⟩, by rw [ct]; exact h.c2, by rw [ct]; exact h.fst, by rw [ct]; exact h.nxt, by rw [ct]; exact h.c56, by rw [ct]; exact h.c57, by rw [ct]; exact h.c58, ⟨rowB h.srow.sb hb h3, fun x hx => rowB (h.srow.fl x hx) hb (h4 x hx), h.srow.fls, h.srow.apt⟩, h.sv, h.its, h.sh, h.se, h.few, h.nb, h.ap⟩
  · obtain ⟨cur, t, hc, hs1⟩ := h.rnd.blk
    exact ⟨cur, t, by rw [key]; exact hc, hs1⟩
  · obtain ⟨q1, q2, q3⟩ := h.rnd.pl j hj
    exact ⟨by rw [ct]; exact q1, by rw [ct]; exact q2, by rw [ct]; exact q3⟩
theorem RBody.blks {B b : Nat} {A : Na} {P : Nat → Tm} {f : Nat} {v : Rv} {sa : Option Addr} {s sc : Nat} {ys : List Sa} {w : World} (h : RBody B b A P f v sa s sc ys w) : b < w.heap.size ∧ (∀ q, (Value.slice A.a A.n A.c).ownBlock = some q → q < w.heap.size) ∧ (∀ q, (Value.slice A.a' A.n' A.c').ownBlock = some q → q < w.heap.size) ∧ (∀ q, (Value.slice sa s sc).ownBlock = some q → q < w.heap.size) ∧ ∀ x, x ∈ ys → ∀ q, (Value.slice x.a x.n x.c).ownBlock = some q → q < w.heap.size :=
  ⟨h.wst.lt, fun _ e => (row_lt h.wst.rows.one e).2, fun _ e => (row_lt h.wst.rows.two e).2, fun _ e => (row_lt h.srow.sb e).2, fun x hx _ e => (row_lt (h.srow.fl x hx) e).2⟩
theorem RbL.done {B b : Nat} {A : Na} {P : Nat → Tm} {f : Nat} {v : Rv} {g s sc : Nat} {ys : List Sa} {k : Nat} {w : World} {N : Nat} {s' : Sb} {u u' : World} (h : RbL B b A P f v g s sc ys k w N s' u) (hb : Below w.heap.size u u') (hw : b < w.heap.size ∧ (∀ q, (Value.slice A.a A.n A.c).ownBlock = some q → q < w.heap.size) ∧ (∀ q, (Value.slice A.a' A.n' A.c').ownBlock = some q → q < w.heap.size) ∧ g < w.heap.size ∧ (∀ x, x ∈ ys → ∀ q, (Value.slice x.a x.n x.c).ownBlock = some q → q < w.heap.size) ∧ k < ys.length) :
    RBody B b A P f { v with sb := v.sb.set k s' } (some ⟨g, 0, none⟩) s sc (ysS ys k s') u' ∧ w.grownBy u' (some g) := by
  have hgq : ∀ q, (Value.slice (some ⟨g, 0, none⟩) s sc).ownBlock = some q → q < w.heap.size := fun q e => by
    have e' : g = q := by simpa [Value.ownBlock] using e
    rw [← e']
    exact hw.2.2.2.1
  refine ⟨h.body.belowB hb ⟨hw.1, hw.2.1, hw.2.2.1, hgq, fun y hy q e => ?_⟩, ?_⟩
  · rcases List.mem_or_eq_of_mem_set hy with h' | h'
    · exact hw.2.2.2.2.1 y h' q e
    · rw [h'] at e
      exact hw.2.2.2.2.1 (sg ys k) (sg_mem hw.2.2.2.2.2) q e
  · exact ⟨hb.os.trans h.gr.os, hb.tape.trans h.gr.tape, hb.output.trans h.gr.output, Nat.le_trans h.gr.size hb.size, fun j hj hne => by rw [hb.block j hj, h.gr.block j hj hne]⟩
abbrev FmS (g k : Nat) (x : Sa) (NM : Nat) (m1 m2 : Int) (m3 : ByteArray) (u : World) : Prop := u.cell? ⟨g, k * 7 + 6, none⟩ = some (.slice x.a x.n x.c) ∧ u.cell? ⟨NM, 0, none⟩ = some (.int .i64 m1) ∧ u.cell? ⟨NM, 1, none⟩ = some (.int .i64 m2) ∧ u.cell? ⟨NM, 2, none⟩ = some (.string m3)
theorem FmS.keep {g k : Nat} {x : Sa} {NM : Nat} {m1 m2 : Int} {m3 : ByteArray} {u u' : World} {K : Nat} (h : FmS g k x NM m1 m2 m3 u) (hb : Below K u u') (hl : g < K ∧ NM < K) : FmS g k x NM m1 m2 m3 u' :=
  ⟨by rw [hb.cell (p := ⟨g, k * 7 + 6, none⟩) hl.1]; exact h.1, by rw [hb.cell (p := ⟨NM, 0, none⟩) hl.2]; exact h.2.1, by rw [hb.cell (p := ⟨NM, 1, none⟩) hl.2]; exact h.2.2.1, by rw [hb.cell (p := ⟨NM, 2, none⟩) hl.2]; exact h.2.2.2⟩
set_option maxRecDepth 100000 in
set_option maxHeartbeats 16000000 in
theorem read_any (B b : Nat) (A : Na) (P : Nat → Tm) (f : Nat) (v : Rv) (g s sc : Nat) (ys : List Sa) (k : Nat) (w : World) (hR : RBody B b A P f v (some ⟨g, 0, none⟩) s sc ys w) (hok : RdOk v k) (hky : k < ys.length) (hyn : ∀ y, y ∈ ys → y.n ≤ 2097152) (hG : GOk w) (hGg : 0 < B) :
  Calls Tryz.prog 157 #[.pointer (some ⟨b, 0, none⟩), .pointer (some ⟨g, k * 7, none⟩)] w fun e w' => RdD B b A P f v g s sc ys k w e w' := by
 obtain ⟨x, hx⟩ : ∃ x, sg ys k = x := ⟨_, rfl⟩
 have hsv : v.sb.getD k Sb0 = x.s := by rw [← hR.sv, sg_svs2 hky, hx]
 have hgl := row_lt (q := g) hR.srow.sb rfl
 obtain ⟨W0, hW0⟩ : ∃ W, W = w.alloc (.cells #[.int .i64 0, .int .i64 0, .int .i64 0, .string ⟨#[]⟩, .int .i64 0, .int .i64 0] 53) := ⟨_, rfl⟩
 have B0 : Below w.heap.size w W0 := by rw [hW0]; exact bl_alloc (Below.refl _ _) _
 have T0 : BoxL w.heap.size [.int .i64 0, .int .i64 0, .int .i64 0, .string ⟨#[]⟩, .int .i64 0, .int .i64 0] W0 := by rw [hW0]; exact BoxL.new w [.int .i64 0, .int .i64 0, .int .i64 0, .string ⟨#[]⟩, .int .i64 0, .int .i64 0] _
 have hset : ({ v with sb := v.sb.set k x.s } : Rv) = v := by
  have e : v.sb.set k x.s = v.sb := by
   rw [← hsv, List.getD, List.getElem?_eq_getElem hok.lt, Option.getD_some]
   exact List.set_getElem_self hok.lt
  rw [e]
 have L0 : RbL B b A P f v g s sc ys k w w.heap.size x.s W0 := ⟨by rw [hset, ← hx, ysS_self hky]; exact hR.keep B0, T0, grown_of B0⟩
 have hnm := hok.nm
 rw [hsv] at hnm
 have hcp := hok.cp
 have hse := hok.se
 have HRw := hidOf (show b < w.heap.size ∧ (∀ q, (Value.slice A.a A.n A.c).ownBlock = some q → q < w.heap.size) ∧ (∀ q, (Value.slice A.a' A.n' A.c').ownBlock = some q → q < w.heap.size) ∧ g < w.heap.size ∧ (∀ x, x ∈ ys → ∀ q, (Value.slice x.a x.n x.c).ownBlock = some q → q < w.heap.size) ∧ k < ys.length from ⟨hR.blks.1, hR.blks.2.1, hR.blks.2.2.1, hgl.2, hR.blks.2.2.2.2, hky⟩)
 have HNM := hidOf (And.intro hnm (And.intro hcp hse))
 have HX := hidOf hx
 have HSV := hidOf hsv
 have HOK := hidOf hok
 have HYN := hidOf hyn
 have HGl := hidOf hgl
 have HG := hidOf hG
 have HGg := hidOf hGg
 have HSe := hidOf hR.se
 have HIts := hidOf hR.its
 have HSh := hidOf hR.sh
 have HK := hidOf (show k < ys.length ∧ k < v.sb.length from ⟨hky, hok.lt⟩)
 have HNg := hidOf (show w.heap.size ≠ g by omega)
 have HFew := hidOf hR.few
 obtain ⟨la, hla⟩ : ∃ la : Int, (if v.se - v.cp - x.s.cu < 0 then 0 else v.se - v.cp - x.s.cu) = la := ⟨_, rfl⟩
 have HLa := hidOf (fun u => lostAhead_E v.cp v.se x.s.cu u (by rw [IntKind.wrap_i64]; omega) (by rw [IntKind.wrap_i64]; omega))
 rw [hla] at HLa
 have hH := L0.body.s
 have hS0 : SkE b v g k x.s.cu W0 := ⟨hH.2.2.1, hH.2.2.2.1, by have h := L0.cell hky 2 (by omega); rw [hx] at h; exact h⟩
 obtain ⟨gn, hgn⟩ : ∃ gn, v.se - v.cp - x.s.cu = gn := ⟨_, rfl⟩
 rw [hgn] at hla
 have HGN := hidOf hgn
 clear hx hsv hgl hnm hcp hse hR hok hky hyn hG hset hH hgn T0 B0 hGg
 go_enter Tryz.func157, Tryz.ntmps157
 go_upto_region 1 with fail
 rw [← hW0]
 clear hW0
 refine wp_region_noPanic ?_
 refine wp_region_held_drew (S := fun w' => SkE b v g k x.s.cu w') (by kernel_rfl) hS0 (fun hHeld => ?_)
 refine tK 0 ?_ rfl (by kernel_rfl) (by rfl) ?_ (by assumption) (fun _ _ _ h => h) ?_
 case refine_2 => (intro w hSw; (try dsimp only at hSw); go_simp; try with_reducible rfl)
 simp only [Act.put, List.getElem_toArray, List.getElem_cons_zero, List.setIfInBounds_toArray, List.set_cons_zero, List.set_cons_succ]
 refine tR 1 ?_
 refine tR 2 ?_
 refine tR 3 ?_
 refine tR 4 ?_
 refine tR 5 ?_
 refine tR 6 ?_
 refine tR 7 ?_
 refine tR 8 ?_
 refine tR 9 ?_
 refine tR 10 ?_
 refine tR 11 ?_
 refine tR 12 ?_
 refine tW 13 (fun K hK => ?_)
 go_simp
 refine (HLa.out _).mono ?_
 rintro e w5 ⟨rfl, rfl⟩
 go_wp2_with fail
 refine hK.out _ _ hHeld (fun hHeld => ?_)
 clear hK K
 refine tR 14 ?_
 refine wpAnyH_done (by kernel_rfl) ?_ _
 refine NoPanic.normal ?_
 clear hHeld hS0 HLa
 obtain ⟨W1, hW1⟩ : ∃ W, W0.drew = W := ⟨_, rfl⟩
 have L1 : RbL B b A P f v g s sc ys k w w.heap.size x.s W1 := by rw [← hW1]; exact L0.keep (Below.refl _ _).drew
 rw [hW1]
 clear hW1 L0
 by_cases hgp : 0 < gn
 ·obtain rfl : gn = la := by rw [← hla, if_neg (by omega)]
  clear hla
  go_upto_region 3 with fail
  have hgp2 := hidOf (read_lost (v := v) (s := x.s) HGN.out hgp)
  have hw3 : IntKind.i64.wrap (x.s.cu + gn) = x.s.cu + gn := by have h := HNM.out; have h2 := HGN.out; rw [IntKind.wrap_i64]; omega
  have hw4 : IntKind.i64.wrap (x.s.lo + gn) = x.s.lo + gn := by have h := HNM.out; have h2 := HGN.out; rw [IntKind.wrap_i64]; omega
  have s2 : W1.cell? ⟨g, k * 7 + 2, none⟩ = some (.int .i64 x.s.cu) := by have h := L1.cell HK.out.1 2 (by omega); rw [HX.out] at h; exact h
  have sf := fun o => World.ownsRow.frozenAt L1.body.srow.sb o
  obtain ⟨U2, hU2⟩ : ∃ U, W1.setCell ⟨g, k * 7 + 2, none⟩ (.int .i64 (x.s.cu + gn)) = U := ⟨_, rfl⟩
  have LU2 : RbL B b A P f v g s sc ys k w w.heap.size { x.s with cu := x.s.cu + gn } U2 := by rw [← hU2]; exact L1.put HK.out.1 HK.out.2 HNg.out 2 _ (by omega) (by omega)
  go_upto_region 4 with fail
  try rw [hU2]
  clear hU2 s2 sf L1
  have s4 : U2.cell? ⟨g, k * 7 + 4, none⟩ = some (.int .i64 x.s.lo) := by have h := LU2.cell HK.out.1 4 (by omega); rw [HX.out] at h; exact h
  have sf := fun o => World.ownsRow.frozenAt LU2.body.srow.sb o
  obtain ⟨U3, hU3⟩ : ∃ U, U2.setCell ⟨g, k * 7 + 4, none⟩ (.int .i64 (x.s.lo + gn)) = U := ⟨_, rfl⟩
  have LU3 : RbL B b A P f v g s sc ys k w w.heap.size (lostS x.s gn) U3 := by rw [← hU3]; exact LU2.put HK.out.1 HK.out.2 HNg.out 4 _ (by omega) (by omega)
  go_upto_region 5 with fail
  try rw [hU3]
  clear hU3 s4 sf LU2 hw3 hw4
  obtain ⟨u0, u1, u2, u3, u4, u5⟩ := box6 LU3.box
  have uf := LU3.box.fr
  obtain ⟨Zz, hZ⟩ : ∃ Z, ((((((U3.setCell ⟨w.heap.size, 0, none⟩ (.int .i64 2)).setCell ⟨w.heap.size, 1, none⟩ (.int .i64 0)).setCell ⟨w.heap.size, 2, none⟩ (.int .i64 0)).setCell ⟨w.heap.size, 3, none⟩ (.string ⟨#[]⟩)).setCell ⟨w.heap.size, 4, none⟩ (.int .i64 0)).setCell ⟨w.heap.size, 5, none⟩ (.int .i64 gn)) = Z := ⟨_, rfl⟩
  have hZ2 : Zz = setL U3 w.heap.size 0 [.int .i64 2, .int .i64 0, .int .i64 0, .string ⟨#[]⟩, .int .i64 0, .int .i64 gn] := by rw [← hZ]; rfl
  have TZ : BoxL w.heap.size [.int .i64 2, .int .i64 0, .int .i64 0, .string ⟨#[]⟩, .int .i64 0, .int .i64 gn] Zz := by rw [hZ2]; exact LU3.box.setAll rfl
  have bZ : Below w.heap.size U3 Zz := by rw [hZ2]; exact setL_below (Nat.le_refl _) (Below.refl _ _)
  obtain ⟨t0, t1, t2, t3, t4, t5⟩ := box6 TZ
  have HD := hidOf (show RBody B b A P f (rdV v k) (some ⟨g, 0, none⟩) s sc (ysS ys k (readS v x.s)) Zz ∧ w.grownBy Zz (some g) by
   have h := hgp2.out
   have e : rdV v k = { v with sb := v.sb.set k (lostS x.s gn) } := by unfold rdV; rw [HSV.out, h.1]
   rw [e, h.1]
   exact LU3.done bZ HRw.out)
  clear hZ2 TZ bZ LU3
  go_wp2_with fail
  clear hZ
  exact bodyPost_ret (v := .tuple #[.agg #[.int .i64 2, .int .i64 0, .int .i64 0, .string ⟨#[]⟩, .int .i64 0, .int .i64 gn], .int .i64 0]) (by simp [results, Tryz.results157, go_sem, t0, t1, t2, t3, t4, t5]) rfl (show RdD B b A P f v g s sc ys k w _ _ from ⟨by have h := hgp2.out; rw [HSV.out, h.2.1, h.2.2] <;> rfl, by rw [HSV.out]; exact HD.out.1, HD.out.2⟩)
 ·have hla0 : ¬ 0 < la := by rw [← hla]; split <;> omega
  have HNG := hidOf (show ¬ 0 < goneN v x.s by unfold goneN; rw [HGN.out]; exact hgp)
  have HTL := hidOf (show ((tailR v x.s).length : Int) = v.se - x.s.cu by have h := tail_len HOK.out (by rw [HSV.out]; have h := HNG.out; omega); rw [HSV.out] at h; exact h)
  have HOl := hidOf (show oldR v ≤ x.s.cu by have h := old_le_cu HOK.out (by rw [HSV.out]; have h := HNG.out; omega); rw [HSV.out] at h; exact h)
  have HL1 := hidOf L1
  clear L1 hla hgp
  go_wp2_with fail
  clear hla0
  go_loopw [] (fun wr => ∃ j : Nat, j ≤ (tailR v x.s).length ∧ (∀ i, i < j → pasR x.s.fl (qg (tailR v x.s) i) = false) ∧ RbL B b A P f v g s sc ys k w w.heap.size (passS x.s j) wr) (fun wr => (v.se - curAtE g (k * 7 + 2) wr).toNat)
  case atStart => exact ⟨0, Nat.zero_le _, fun i hi => absurd hi (Nat.not_lt_zero _), by rw [pass_zero]; exact HL1.out⟩
  case round =>
   rename_i wr
   obtain ⟨j, hj, hnp, hL⟩ := hrel
   clear HL1
   obtain ⟨nn, hnn⟩ : ∃ n : Nat, x.s.cu + (j : Int) = (n : Int) := ⟨(x.s.cu + (j : Int)).toNat, by have h := HNM.out; omega⟩
   have HNN := hidOf hnn
   have s2 : wr.cell? ⟨g, k * 7 + 2, none⟩ = some (.int .i64 (nn : Int)) := by have h := hL.cell HK.out.1 2 (by omega); rw [HX.out] at h; rw [← hnn]; exact h
   have c55 : wr.cell? ⟨b, 55, none⟩ = some (.int .i64 v.se) := hL.body.s.2.2.2.1
   have c55d : wr.drew.cell? ⟨b, 55, none⟩ = some (.int .i64 v.se) := c55
   have s2d : wr.drew.cell? ⟨g, k * 7 + 2, none⟩ = some (.int .i64 (nn : Int)) := s2
   have HCur := hidOf (show curAtE g (k * 7 + 2) wr = (nn : Int) by unfold curAtE; rw [s2])
   have HJ := hidOf (show x.s.cu + (j : Int) ≤ v.se by have h := HTL.out; omega)
   clear hnn
   by_cases hlt : (nn : Int) < v.se
   ·go_wp2_with fail
    go_region
    have hjl : j < (tailR v x.s).length := by have h := HTL.out; have h2 := HNN.out; omega
    obtain ⟨ix, hix⟩ : ∃ i : Nat, (x.s.cu - (v.se - v.it.length)).toNat + j = i := ⟨_, rfl⟩
    have hixn : nn = f + ix ∧ ix < v.it.length := by have h2 := HOl.out; have h3 := HOK.out.ol; have h4 := HSe.out; have h5 := HNN.out; omega
    have hmq : qg v.it ix = qg (tailR v x.s) j := by have h := tail_at HOK.out (by rw [HSV.out]; have h := HNG.out; omega) (j := j); rw [HSV.out] at h; rw [h, hix]
    have hPm : P (nn % 17) = qg v.it ix := by rw [hixn.1, ← itemsP_get (P := P) (f := f) hixn.2, HIts.out]
    obtain ⟨⟨m1, m2, m3⟩, hmm⟩ : ∃ m, qg v.it ix = m := ⟨_, rfl⟩
    have HMj := hidOf (show qg (tailR v x.s) j = (m1, m2, m3) by rw [← hmq, hmm])
    have hokb : okB m1 m2 m3 = true := by have h := HOK.out.ms (qg v.it ix) (qg_mem hixn.2); rw [hmm] at h; exact h
    have hm3 : m3.size ≤ maxLen := by have h := HSh.out (nn % 17); rw [hPm, hmm] at h; exact h
    obtain ⟨Wd, hWd⟩ : ∃ W, wr.drew = W := ⟨_, rfl⟩
    have Ld : RbL B b A P f v g s sc ys k w w.heap.size (passS x.s j) Wd := by rw [← hWd]; exact hL.keep (Below.refl _ _).drew
    have HAt := hidOf (at_any b 3 P nn Wd Ld.body.rnd (by have h := HFew.out; omega))
    rw [hPm, hmm] at HAt
    have HOk := hidOf (And.intro hokb hm3)
    have n2 : Wd.cell? ⟨g, k * 7 + 2, none⟩ = some (.int .i64 (nn : Int)) := by rw [← hWd]; exact s2
    clear hmq hmm hokb hix hixn hPm hm3
    rw [hWd]
    clear hWd hL
    go_wp2_with fail
    refine (HAt.out).mono ?_
    rintro e w2 ⟨rfl, hb2⟩
    have L2 := Ld.keep hb2
    obtain ⟨V2, hV2⟩ : ∃ V, V = w2.alloc (.cells #[.int .i64 m1, .int .i64 m2, .string m3] 30) := ⟨_, rfl⟩
    have bV2 : Below w2.heap.size w2 V2 := by rw [hV2]; exact bl_alloc (Below.refl _ _) _
    have bM2 : BoxL w2.heap.size [.int .i64 m1, .int .i64 m2, .string m3] V2 := by rw [hV2]; exact BoxL.new w2 [.int .i64 m1, .int .i64 m2, .string m3] _
    have L3 := L2.keep bV2
    have hws : w.heap.size ≤ w2.heap.size := L2.gr.size
    clear n2 s2 c55 c55d s2d Ld L2 hb2 HAt
    go_upto_region 9 with fail
    rw [← hV2]
    clear hV2
    generalize hNM : w2.heap.size = NM at bM2 ⊢
    have HNM2 := hidOf (show g < NM ∧ w.heap.size ≤ NM by have h := HGl.out; omega)
    clear hNM hws bV2
    have s2 : V2.cell? ⟨g, k * 7 + 2, none⟩ = some (.int .i64 (nn : Int)) := by have h := L3.cell HK.out.1 2 (by omega); rw [HX.out] at h; rw [← HNN.out]; exact h
    have sf := fun o => World.ownsRow.frozenAt L3.body.srow.sb o
    have hw3 : IntKind.i64.wrap ((nn : Int) + 1) = (nn : Int) + 1 := by have h := HNM.out; have h2 := HJ.out; have h3 := HNN.out; rw [IntKind.wrap_i64]; omega
    obtain ⟨U3, hU3⟩ : ∃ U, V2.setCell ⟨g, k * 7 + 2, none⟩ (.int .i64 ((nn : Int) + 1)) = U := ⟨_, rfl⟩
    have LU3 : RbL B b A P f v g s sc ys k w w.heap.size { passS x.s j with cu := x.s.cu + (j : Int) + 1 } U3 := by rw [← hU3, ← HNN.out]; exact L3.put HK.out.1 HK.out.2 HNg.out 2 _ (by omega) (by omega)
    have bM3 : BoxL NM [.int .i64 m1, .int .i64 m2, .string m3] U3 := by rw [← hU3]; exact bM2.far _ _ (by have := HNM2.out; omega) _
    go_upto_region 10 with fail
    try rw [hU3]
    clear hU3 s2 sf hw3 L3 bM2
    have LU3d := LU3.keep (Below.refl _ _).drew
    have HLt := hidOf (show g < U3.drew.heap.size ∧ NM < U3.drew.heap.size from ⟨(row_lt (q := g) LU3d.body.srow.sb rfl).2, (bM3.keep (Below.refl _ _).drew).lt⟩)
    have hmem : (⟨{ passS x.s j with cu := x.s.cu + (j : Int) + 1 }, x.a, x.n, x.c⟩ : Sa) ∈ ysS ys k { passS x.s j with cu := x.s.cu + (j : Int) + 1 } := by
     have h := sg_mem (l := ysS ys k { passS x.s j with cu := x.s.cu + (j : Int) + 1 }) (k := k) (by rw [ysS_len]; exact HK.out.1)
     rw [ysS_get HK.out.1, HX.out] at h
     exact h
    have hTm : TmAt U3.drew x.a x.n x.s.fl := by have h := LU3d.body.srow.sub.fil _ hmem; exact h
    have HCl := hidOf (implPasses_any x.a x.n x.c x.s.fl m1 m2 m3 U3.drew hTm (by have h := HYN.out (sg ys k) (sg_mem HK.out.1); rw [HX.out] at h; omega) HOk.out.2 (HG.out.grown LU3d.gr (fun e => by have h := HGg.out; have h2 := HGl.out; injection e with e; omega)))
    rw [passM_eq (by have h := HOK.out.fl; rw [HSV.out] at h; exact h) HOk.out.1] at HCl
    obtain ⟨q, hq⟩ : ∃ q, pasR x.s.fl (m1, m2, m3) = q := ⟨_, rfl⟩
    rw [hq] at HCl
    have HQ := hidOf hq
    have hSm : FmS g k x NM m1 m2 m3 U3 := ⟨by have h := LU3.cell HK.out.1 6 (by omega); rw [HX.out] at h; exact h, bM3.cs 0 (by simp), bM3.cs 1 (by simp), bM3.cs 2 (by simp)⟩
    have bM3d := bM3.keep (Below.refl _ _).drew
    clear hq hmem hTm LU3 bM3
    refine wp_region_noPanic ?_
    refine wp_region_held_drew (S := fun w' => FmS g k x NM m1 m2 m3 w') (by kernel_rfl) hSm (fun hHeld => ?_)
    refine tK 0 ?_ rfl (by kernel_rfl) (by rfl) ?_ (by assumption) (fun _ _ _ h => h) ?_
    case refine_2 => (intro w hSw; (try dsimp only at hSw); go_simp; try with_reducible rfl)
    simp only [Act.put, List.getElem_toArray, List.getElem_cons_zero, List.setIfInBounds_toArray, List.set_cons_zero, List.set_cons_succ]
    refine tR 1 ?_
    refine tR 2 ?_
    refine tR 3 ?_
    refine tR 4 ?_
    refine tW 5 (fun K hK => ?_)
    go_simp
    refine (HCl.out).mono ?_
    rintro e w5 ⟨rfl, hb5⟩
    go_wp2_with fail
    have hS5 : FmS g k x NM m1 m2 m3 w5 := FmS.keep hHeld hb5 HLt.out
    refine hK.out _ _ hS5 (fun hHeld => ?_)
    clear hK K
    refine wpAnyH_done (by kernel_rfl) ?_ _
    refine NoPanic.normal ?_
    have L5 := LU3d.keep hb5
    have bM5 := bM3d.keep hb5
    clear hS5 hHeld hSm LU3d bM3d hb5 HCl
    cases q
    ·have s5 : w5.cell? ⟨g, k * 7 + 5, none⟩ = some (.int .i64 (x.s.pa + (j : Int))) := by have h := L5.cell HK.out.1 5 (by omega); rw [HX.out] at h; exact h
     have sf := fun o => World.ownsRow.frozenAt L5.body.srow.sb o
     have hw6 : IntKind.i64.wrap (x.s.pa + (j : Int) + 1) = x.s.pa + (j : Int) + 1 := by have h := HNM.out; have h2 := HJ.out; rw [IntKind.wrap_i64]; omega
     obtain ⟨U6, hU6⟩ : ∃ U, w5.setCell ⟨g, k * 7 + 5, none⟩ (.int .i64 (x.s.pa + (j : Int) + 1)) = U := ⟨_, rfl⟩
     have LU6 : RbL B b A P f v g s sc ys k w w.heap.size (subPut { passS x.s j with cu := x.s.cu + (j : Int) + 1 } 5 (x.s.pa + (j : Int) + 1)) U6 := by rw [← hU6]; exact L5.put HK.out.1 HK.out.2 HNg.out 5 _ (by omega) (by omega)
     have HL6 := hidOf (show RbL B b A P f v g s sc ys k w w.heap.size (passS x.s ((j + 1 : Nat) : Int)) U6 by
      have e : subPut ({ passS x.s j with cu := x.s.cu + (j : Int) + 1 } : Sb) 5 (x.s.pa + (j : Int) + 1) = passS x.s ((j + 1 : Nat) : Int) := by
       unfold passS subPut
       simp [Int.natCast_add, Int.add_assoc]
      rw [← e]; exact LU6)
     have HC6 := hidOf (show curAtE g (k * 7 + 2) U6 = (nn : Int) + 1 by
      unfold curAtE
      have h := LU6.cell HK.out.1 2 (by omega)
      rw [h, ← HNN.out]
      rfl)
     clear LU6 L5 bM5
     go_wp2_with fail
     try rw [hU6]
     go_roundw
     case rel => exact ⟨j + 1, hjl, fun i hi => by
      rcases Nat.lt_or_eq_of_le (Nat.le_of_lt_succ hi) with h | h
      ·exact hnp i h
      ·rw [h, HMj.out]; exact HQ.out, HL6.out⟩
     case measure => rw [HC6.out, HCur.out]; omega
    ·skip
     have hqq : pasR x.s.fl (m1, m2, m3) = true := HQ.out
     have HGt := hidOf (show readS v x.s = gotS x.s j ∧ readT v x.s = ⟨1, (m1, m2, m3), (nn : Int), 0⟩ ∧ readC v x.s = 0 by have h := read_got (by have h := HNG.out; omega) hjl hnp (by rw [HMj.out]; exact hqq); rw [HMj.out, HNN.out] at h; exact h)
     have s3 : w5.cell? ⟨g, k * 7 + 3, none⟩ = some (.int .i64 x.s.gt) := by have h := L5.cell HK.out.1 3 (by omega); rw [HX.out] at h; exact h
     have sf := fun o => World.ownsRow.frozenAt L5.body.srow.sb o
     have hw6 : IntKind.i64.wrap (x.s.gt + 1) = x.s.gt + 1 := by have h := HNM.out; rw [IntKind.wrap_i64]; omega
     obtain ⟨U6, hU6⟩ : ∃ U, w5.setCell ⟨g, k * 7 + 3, none⟩ (.int .i64 (x.s.gt + 1)) = U := ⟨_, rfl⟩
     have LU6 : RbL B b A P f v g s sc ys k w w.heap.size (subPut { passS x.s j with cu := x.s.cu + (j : Int) + 1 } 3 (x.s.gt + 1)) U6 := by rw [← hU6]; exact L5.put HK.out.1 HK.out.2 HNg.out 3 _ (by omega) (by omega)
     have LU6b : RbL B b A P f v g s sc ys k w w.heap.size (gotS x.s j) U6 := LU6
     have bM6 : BoxL NM [.int .i64 m1, .int .i64 m2, .string m3] U6 := by rw [← hU6]; exact bM5.far _ _ (by have := HNM2.out; omega) _
     go_upto_region 12 with fail
     try rw [hU6]
     clear hU6 s3 sf L5 hw6 bM5 LU6
     have mm0 : U6.cell? ⟨NM, 0, none⟩ = some (.int .i64 m1) := bM6.cs 0 (by simp)
     have mm1 : U6.cell? ⟨NM, 1, none⟩ = some (.int .i64 m2) := bM6.cs 1 (by simp)
     have mm2 : U6.cell? ⟨NM, 2, none⟩ = some (.string m3) := bM6.cs 2 (by simp)
     obtain ⟨u0, u1, u2, u3, u4, u5⟩ := box6 LU6b.box
     have uf := LU6b.box.fr
     obtain ⟨Zz, hZ⟩ : ∃ Z, ((((((U6.setCell ⟨w.heap.size, 0, none⟩ (.int .i64 1)).setCell ⟨w.heap.size, 1, none⟩ (.int .i64 m1)).setCell ⟨w.heap.size, 2, none⟩ (.int .i64 m2)).setCell ⟨w.heap.size, 3, none⟩ (.string m3)).setCell ⟨w.heap.size, 4, none⟩ (.int .i64 (nn : Int))).setCell ⟨w.heap.size, 5, none⟩ (.int .i64 0)) = Z := ⟨_, rfl⟩
     have hZ2 : Zz = setL U6 w.heap.size 0 [.int .i64 1, .int .i64 m1, .int .i64 m2, .string m3, .int .i64 (nn : Int), .int .i64 0] := by rw [← hZ]; rfl
     have TZ : BoxL w.heap.size [.int .i64 1, .int .i64 m1, .int .i64 m2, .string m3, .int .i64 (nn : Int), .int .i64 0] Zz := by rw [hZ2]; exact LU6b.box.setAll rfl
     have bZ : Below w.heap.size U6 Zz := by rw [hZ2]; exact setL_below (Nat.le_refl _) (Below.refl _ _)
     obtain ⟨t0, t1, t2, t3, t4, t5⟩ := box6 TZ
     have HD := hidOf (show RBody B b A P f (rdV v k) (some ⟨g, 0, none⟩) s sc (ysS ys k (readS v x.s)) Zz ∧ w.grownBy Zz (some g) by
      have h := HGt.out
      have e : rdV v k = { v with sb := v.sb.set k (gotS x.s j) } := by unfold rdV; rw [HSV.out, h.1]
      rw [e, h.1]
      exact LU6b.done bZ HRw.out)
     clear hZ2 TZ bZ LU6b
     go_wp2_with fail
     clear hZ
     exact bodyPost_ret (v := .tuple #[.agg #[.int .i64 1, .int .i64 m1, .int .i64 m2, .string m3, .int .i64 (nn : Int), .int .i64 0], .int .i64 0]) (by simp [results, Tryz.results157, go_sem, t0, t1, t2, t3, t4, t5]) rfl (show RdD B b A P f v g s sc ys k w _ _ from ⟨by have h := HGt.out; rw [HSV.out, h.2.1, h.2.2] <;> rfl, by rw [HSV.out]; exact HD.out.1, HD.out.2⟩)
   ·have hje : j = (tailR v x.s).length := by have h := HTL.out; have h2 := HNN.out; omega
    have HNo2 := hidOf (read_none (by have h := HNG.out; omega) hje hnp)
    clear hje hj hnp
    cases hcl : v.cl
    ·have HCL := hidOf hcl
     clear hcl
     go_wp2_with fail
     go_region
     obtain ⟨Wd, hWd⟩ : ∃ W, wr.drew = W := ⟨_, rfl⟩
     have LD : RbL B b A P f v g s sc ys k w w.heap.size (passS x.s j) Wd := by rw [← hWd]; exact hL.keep (Below.refl _ _).drew
     have d58 : Wd.cell? ⟨b, 58, none⟩ = some (.bool false) := by rw [← HCL.out]; exact LD.body.c58
     rw [hWd]
     clear hWd s2 c55 c55d s2d
     obtain ⟨u0, u1, u2, u3, u4, u5⟩ := box6 LD.box
     have uf := LD.box.fr
     obtain ⟨Zz, hZ⟩ : ∃ Z, ((((((Wd.setCell ⟨w.heap.size, 0, none⟩ (.int .i64 0)).setCell ⟨w.heap.size, 1, none⟩ (.int .i64 0)).setCell ⟨w.heap.size, 2, none⟩ (.int .i64 0)).setCell ⟨w.heap.size, 3, none⟩ (.string ⟨#[]⟩)).setCell ⟨w.heap.size, 4, none⟩ (.int .i64 0)).setCell ⟨w.heap.size, 5, none⟩ (.int .i64 0)) = Z := ⟨_, rfl⟩
     have hZ2 : Zz = setL Wd w.heap.size 0 [.int .i64 0, .int .i64 0, .int .i64 0, .string ⟨#[]⟩, .int .i64 0, .int .i64 0] := by rw [← hZ]; rfl
     have TZ : BoxL w.heap.size [.int .i64 0, .int .i64 0, .int .i64 0, .string ⟨#[]⟩, .int .i64 0, .int .i64 0] Zz := by rw [hZ2]; exact LD.box.setAll rfl
     have bZ : Below w.heap.size Wd Zz := by rw [hZ2]; exact setL_below (Nat.le_refl _) (Below.refl _ _)
     obtain ⟨t0, t1, t2, t3, t4, t5⟩ := box6 TZ
     have HD := hidOf (show RBody B b A P f (rdV v k) (some ⟨g, 0, none⟩) s sc (ysS ys k (readS v x.s)) Zz ∧ w.grownBy Zz (some g) by
      have h := (show readS v x.s = passS x.s j ∧ readT v x.s = Td0 ∧ readC v x.s = 4 by have h := HNo2.out; rw [HCL.out] at h; exact h)
      have e : rdV v k = { v with sb := v.sb.set k (passS x.s j) } := by unfold rdV; rw [HSV.out, h.1]
      rw [e, h.1]
      exact LD.done bZ HRw.out)
     clear hZ2 TZ bZ LD
     go_wp2_with fail
     clear hZ
     exact bodyPost_ret (v := .tuple #[.agg #[.int .i64 0, .int .i64 0, .int .i64 0, .string ⟨#[]⟩, .int .i64 0, .int .i64 0], .int .i64 4]) (by simp [results, Tryz.results157, go_sem, t0, t1, t2, t3, t4, t5]) rfl (show RdD B b A P f v g s sc ys k w _ _ from ⟨by have h := (show readS v x.s = passS x.s j ∧ readT v x.s = Td0 ∧ readC v x.s = 4 by have h := HNo2.out; rw [HCL.out] at h; exact h); rw [HSV.out, h.2.1, h.2.2] <;> rfl, by rw [HSV.out]; exact HD.out.1, HD.out.2⟩)
    ·have HCL := hidOf hcl
     clear hcl
     go_wp2_with fail
     go_region
     obtain ⟨Wd, hWd⟩ : ∃ W, wr.drew = W := ⟨_, rfl⟩
     have LD : RbL B b A P f v g s sc ys k w w.heap.size (passS x.s j) Wd := by rw [← hWd]; exact hL.keep (Below.refl _ _).drew
     have d58 : Wd.cell? ⟨b, 58, none⟩ = some (.bool true) := by rw [← HCL.out]; exact LD.body.c58
     rw [hWd]
     clear hWd s2 c55 c55d s2d
     obtain ⟨u0, u1, u2, u3, u4, u5⟩ := box6 LD.box
     have uf := LD.box.fr
     obtain ⟨Zz, hZ⟩ : ∃ Z, ((((((Wd.setCell ⟨w.heap.size, 0, none⟩ (.int .i64 0)).setCell ⟨w.heap.size, 1, none⟩ (.int .i64 0)).setCell ⟨w.heap.size, 2, none⟩ (.int .i64 0)).setCell ⟨w.heap.size, 3, none⟩ (.string ⟨#[]⟩)).setCell ⟨w.heap.size, 4, none⟩ (.int .i64 0)).setCell ⟨w.heap.size, 5, none⟩ (.int .i64 0)) = Z := ⟨_, rfl⟩
     have hZ2 : Zz = setL Wd w.heap.size 0 [.int .i64 0, .int .i64 0, .int .i64 0, .string ⟨#[]⟩, .int .i64 0, .int .i64 0] := by rw [← hZ]; rfl
     have TZ : BoxL w.heap.size [.int .i64 0, .int .i64 0, .int .i64 0, .string ⟨#[]⟩, .int .i64 0, .int .i64 0] Zz := by rw [hZ2]; exact LD.box.setAll rfl
     have bZ : Below w.heap.size Wd Zz := by rw [hZ2]; exact setL_below (Nat.le_refl _) (Below.refl _ _)
     obtain ⟨t0, t1, t2, t3, t4, t5⟩ := box6 TZ
     have HD := hidOf (show RBody B b A P f (rdV v k) (some ⟨g, 0, none⟩) s sc (ysS ys k (readS v x.s)) Zz ∧ w.grownBy Zz (some g) by
      have h := (show readS v x.s = passS x.s j ∧ readT v x.s = Td0 ∧ readC v x.s = 6 by have h := HNo2.out; rw [HCL.out] at h; exact h)
      have e : rdV v k = { v with sb := v.sb.set k (passS x.s j) } := by unfold rdV; rw [HSV.out, h.1]
      rw [e, h.1]
      exact LD.done bZ HRw.out)
     clear hZ2 TZ bZ LD
     go_wp2_with fail
     clear hZ
     exact bodyPost_ret (v := .tuple #[.agg #[.int .i64 0, .int .i64 0, .int .i64 0, .string ⟨#[]⟩, .int .i64 0, .int .i64 0], .int .i64 6]) (by simp [results, Tryz.results157, go_sem, t0, t1, t2, t3, t4, t5]) rfl (show RdD B b A P f v g s sc ys k w _ _ from ⟨by have h := (show readS v x.s = passS x.s j ∧ readT v x.s = Td0 ∧ readC v x.s = 6 by have h := HNo2.out; rw [HCL.out] at h; exact h); rw [HSV.out, h.2.1, h.2.2] <;> rfl, by rw [HSV.out]; exact HD.out.1, HD.out.2⟩)
end Go.Proofs.YtdboaoejlkkoeaaGreat
