/-
  The specification's draws: a ring that may be any one, with short list
-/
import Derived.Test.YtdboaoejlkkoeaaGreatZPo37
namespace Go.Proofs.YtdboaoejlkkoeaaGreat
open Go.RowKit Go.Maps Pl Il Dr
theorem pickIntP_any (P : Int → Prop) (a : Option Addr) (len cap : Nat) (c B n : Nat) (w : World) (hC : Cur c a len cap w) (hB : B < w.heap.size) (hBc : B ≠ c) (h0 : 0 < n) (h1 : n ≤ 256)
    (hcell : ∀ i, i < n → ∃ v : Int, w.cell? ⟨B, i, none⟩ = some (.int .i64 v) ∧ P v) :
    Calls Tryz.prog 100 #[.pointer (some ⟨c, 0, none⟩), .slice (some ⟨B, 0, none⟩) n n] w fun e w' => ∃ x : Int, e = .returned (.int .i64 x) ∧ P x ∧ Drawn c a len cap w w' := by
  go_enter Tryz.func100, Tryz.ntmps100
  go_wp2_with fail
  refine (below_any a len cap c n _ hC (by omega) (by omega)).mono ?_
  rintro e w1 ⟨x, rfl, x0, x1, hd⟩
  obtain ⟨k, rfl⟩ := Int.eq_ofNat_of_zero_le x0
  obtain ⟨v, hv, hp⟩ := hcell k (by omega)
  have hv1 : w1.cell? ⟨B, k, none⟩ = some (.int .i64 v) := by rw [hd.ex.cell hB hBc]; exact hv
  have HP := hidOf hp
  clear hcell hp
  go_wp2
  go_ret
  exact ⟨_, rfl, HP.out, hd⟩
structure Any9 (M : Rm) (v : Rv) : Prop where
  le : RLe M 65
  wf : RWf v
  se : 0 ≤ v.se ∧ v.se ≤ 1000000000
  gt : ∀ s, s ∈ v.sb → 0 ≤ s.gt ∧ s.gt ≤ 1000000000
theorem Any9.ofOk {w : World} {M : Rm} {v : Rv} (h : okR restR v = true) (hI : RIn w M v) : Any9 M v := by
  have h1 := h
  rw [okR_iff] at h1
  refine ⟨(ok_le h hI).mono (by omega), ok_wf h, h1.1.se, fun s hs => ?_⟩
  have p := h1.1.sub s hs
  have := p.gt
  have := p.lo
  have := p.pa
  have := p.su
  have := p.st
  have := p.cu
  have := h1.1.se
  omega
section
variable {c : Nat} {a : Option Addr} {len cap : Nat} {w : World} {N R : Nat} {M M' : Rm} {v v' : Rv} {u u' : World}
theorem RKv.put1 {i : Nat} {x : Value} (h : RKv c a len cap w N R M v u) (hi : i < 8) (hc : rC M' v' = (rC M v).set i x) (hrow : RRow (w.heap.size + 1) u M' v') (hout : some N ∉ blkR M') (hund : ∀ q, some q ∈ blkR M' → q < R) : RKv c a len cap w N R M' v' (u.setCell ⟨N, i, none⟩ x) := by
  have hN := h.hN
  have hgc := h.gc
  have hcl := h.cur.lt
  have hg := grown_setC u N i x
  refine ⟨h.dr.grown h.cur hg (by omega), by rw [hc]; exact h.box.set i (by simpa using hi) x, hrow.grown hg hout, hout, hund, hN, h.cur, by simpa using h.le, h.lt, h.gok.grown hg (by intro e; injection e with e; omega), h.gc, h.res.far N i (by omega) x⟩
theorem RRow.num {B : Nat} (h : RRow B u M v) (cp se nx : Int) (cl : Bool) : RRow B u M ⟨cp, se, v.it, nx, v.sb, v.ln, v.gs, cl⟩ := ⟨h.it, h.its, h.sb, h.fl, h.fls, h.sv, h.ln, h.gs, h.apt⟩
theorem RKv.list (h : RKv c a len cap w N R M v u) {g : Option Nat} (hg : u.grownBy u' g) (hin : ∀ q, g = some q → some q ∈ blkR M) :
    Drawn c a len cap w u' ∧ BoxL N (rC M v) u' ∧ GOk u' ∧ BoxL w.heap.size zR u' ∧ N < u'.heap.size := by
  have hN := h.hN
  have hgc := h.gc
  have hcl := h.cur.lt
  have key : ∀ q, g = some q → w.heap.size + 1 ≤ q ∧ q ≠ N := fun q e => ⟨(h.row.blk q (hin q e)).1, fun e2 => h.out (by rw [← e2]; exact hin q e)⟩
  refine ⟨?_, h.box.grownO hg (fun e => (key N e).2 rfl), h.gok.grown hg (fun e => by have := (key _ e).1; omega), h.res.grownO hg (fun e => by have := (key _ e).1; omega), Nat.lt_of_lt_of_le h.box.lt hg.size⟩
  cases g with
  | none => exact h.dr.grown (g := N) h.cur ⟨hg.os, hg.tape, hg.output, hg.size, fun k hk _ => hg.block k hk (by simp)⟩ (by omega)
  | some q => exact h.dr.grown h.cur hg (by have := (key q rfl).1; omega)
end
def SomeD (c : Nat) (a : Option Addr) (len cap : Nat) (w : World) (e : Ending) (w' : World) : Prop := ∃ (M : Rm) (v : Rv), e = .returned (.agg #[.int .i64 v.cp, .int .i64 v.se, .slice M.ia M.i M.ic, .int .i64 v.nx, .slice M.sa M.s M.sc, .slice M.la M.l M.lc, .slice M.ga M.g M.gc, .bool v.cl]) ∧ RRow w.heap.size w' M v ∧ RLe M 66 ∧ RWf v ∧ Drawn c a len cap w w'
def AnyR (c : Nat) (a : Option Addr) (len cap : Nat) (w : World) (N : Nat) (u : World) : Prop := ∃ (R : Nat) (M : Rm) (v : Rv), RLe M 66 ∧ RWf v ∧ RKv c a len cap w N R M v u
set_option maxRecDepth 100000 in
set_option maxHeartbeats 16000000 in
theorem l9Some_any (a : Option Addr) (len cap : Nat) (c : Nat) (w : World) (hC : Cur c a len cap w) (hG : GOk w) (hgc : 0 < c) :
  Calls Tryz.prog 74 #[.pointer (some ⟨c, 0, none⟩)] w fun e w' => SomeD c a len cap w e w' := by
 have hlt := hC.lt
 obtain ⟨W0, hW0⟩ : ∃ W, W = w.alloc (.cells #[.int .i64 0, .int .i64 0, .slice none 0 0, .int .i64 0, .slice none 0 0, .slice none 0 0, .slice none 0 0, .bool false] 28) := ⟨_, rfl⟩
 have s0 : W0.heap.size = w.heap.size + 1 := by rw [hW0]; simp
 have b0 : Below w.heap.size w W0 := by rw [hW0]; exact bl_alloc (Below.refl _ _) _
 have r0 : BoxL w.heap.size zR W0 := by rw [hW0]; exact BoxL.new w zR _
 have D0 := drawn_keepR (Drawn.start hC) b0
 have G0 := hG.keep b0
 have HC := hidOf hC
 have HS0 := hidOf s0
 clear hC hG b0 s0
 go_enter Tryz.func74, Tryz.ntmps74
 go_wp2_with fail
 rw [← hW0]
 clear hW0
 refine (below_any a len cap c _ _ D0.cur (by omega) (by omega)).mono ?_
 rintro e w1 ⟨x, rfl, x0, x1, hd1⟩
 obtain ⟨xn, rfl⟩ : ∃ xn : Nat, x = xn := ⟨x.toNat, by omega⟩
 have HR1 := hidOf (r0.dr hd1 (by omega))
 have HD1 := hidOf (D0.trans hd1)
 have HG1 := hidOf (G0.dr hd1 hgc)
 have HS1 := hidOf hd1.ex.size
 clear r0 D0 G0 hd1
 go_wp2_with fail
 refine (l9Ring_any a len cap c xn _ HD1.out.cur (by omega) HG1.out hgc).mono ?_
 rintro e w2 ⟨M, v, rfl, hrow, hok, hd2⟩
 have hV0 : RKv c a len cap w w2.heap.size (w2.heap.size + 1) M v (w2.alloc (.cells (rC M v).toArray 28)) := by
  have h0 := HS0.out
  have h1 := HS1.out
  have h2 := hd2.ex.size
  have ba := bl_alloc (Below.refl w2.heap.size w2) (.cells (rC M v).toArray 28)
  exact ⟨drawn_keepR (HD1.out.trans hd2) ba, BoxL.new w2 _ _, (hrow.mono (by omega)).keep ba, hrow.new (Nat.le_refl _), fun q hq => by have := (hrow.blk q hq).2; omega, by omega, HC.out, by simp, by omega, (HG1.out.dr hd2 hgc).keep ba, hgc, (HR1.out.dr hd2 (by omega)).keep ba⟩
 have HV0 := hidOf hV0
 have HA := hidOf (Any9.ofOk hok hrow.own.rin)
 clear hV0 hrow hd2 hok HR1 HD1 HG1 HS1
 go_upto_region 2 with fail
 generalize hW3 : w2.alloc (.cells #[.int .i64 v.cp, .int .i64 v.se, .slice M.ia M.i M.ic, .int .i64 v.nx, .slice M.sa M.s M.sc, .slice M.la M.l M.lc, .slice M.ga M.g M.gc, .bool v.cl] 28) = W3
 rw [show w2.alloc (.cells (rC M v).toArray 28) = W3 from hW3] at HV0
 clear hW3
 have HN := hidOf HV0.out.hN
 generalize w2.heap.size = N at HV0 HN ⊢
 obtain ⟨p0, p1, p2, p3, p4, p5, p6, p7⟩ := box8 HV0.out.box
 have pf := HV0.out.box.fr
 go_cut [15] from 4 (fun s15 wx => ∃ b : Bool, s15 = .bool b ∧ (b = true → M.s = 0) ∧ RKv c a len cap w N (N + 1) M v wx)
 case first =>
  go_wp2_with fail
  refine (once_any a len cap c _ _ HV0.out.dr.cur (by omega) (by omega)).mono ?_
  rintro e w4 ⟨b, rfl, hd4⟩
  have HV4 := hidOf (HV0.out.draw hd4)
  clear hd4 HV0 p0 p1 p2 p3 p4 p5 p6 p7 pf
  obtain ⟨p0, p1, p2, p3, p4, p5, p6, p7⟩ := box8 HV4.out.box
  cases b
  ·go_wp2_with fail
   go_meet
   exact ⟨false, rfl, (fun h => by cases h), HV4.out⟩
  ·by_cases hs : M.s = 0
   ·have hs0 : ((M.s : Int) == 0) = true := by simp [hs]
    have HSs := hidOf hs
    clear hs
    go_wp2_with fail
    go_meet
    exact ⟨true, rfl, fun _ => HSs.out, HV4.out⟩
   ·have hs0 : ((M.s : Int) == 0) = false := by simp; omega
    clear hs
    go_wp2_with fail
    go_meet
    exact ⟨false, rfl, (fun h => by cases h), HV4.out⟩
 case rest =>
  obtain ⟨b, rfl, hbs, hV4⟩ := hcut
  have HV4 := hidOf hV4
  clear hV4 HV0 hbs p0 p1 p2 p3 p4 p5 p6 p7 pf
  obtain ⟨p0, p1, p2, p3, p4, p5, p6, p7⟩ := box8 HV4.out.box
  have pf := HV4.out.box.fr
  go_upto_if 15 with fail
  go_cut [] from 4 (fun wx => ∃ (R : Nat) (v : Rv), Any9 M v ∧ RKv c a len cap w N R M v wx)
  case first =>
   cases b
   ·go_wp2_with fail
    go_meet
    exact ⟨_, v, HA.out, HV4.out⟩
   ·have HX := hidOf (fun w4 (h : RKv c a len cap w N (N + 1) M v w4) => show ∃ (R : Nat) (v : Rv), Any9 M v ∧ RKv c a len cap w N R M v (w4.setCell ⟨N, 1, none⟩ (.int .i64 1000000000)) from ⟨_, ⟨v.cp, 1000000000, v.it, v.nx, v.sb, v.ln, v.gs, v.cl⟩, ⟨HA.out.le, ⟨HA.out.wf.cp, wf_of (x := 1000000000) (by omega) (by omega), HA.out.wf.nx, HA.out.wf.sb, HA.out.wf.ln, HA.out.wf.gs⟩, ⟨by show (0 : Int) ≤ 1000000000; omega, Int.le_refl _⟩, HA.out.gt⟩, h.put1 (i := 1) (by omega) rfl (h.row.num _ _ _ _) h.out h.und⟩)
    go_wp2_with fail
    go_meet
    exact HX.out _ HV4.out
  case rest =>
   obtain ⟨R, v, hA, hV⟩ := hcut
   have HA2 := hidOf hA
   have HV := hidOf hV
   clear hA hV HA HV4 p0 p1 p2 p3 p4 p5 p6 p7 pf
   obtain ⟨p0, p1, p2, p3, p4, p5, p6, p7⟩ := box8 HV.out.box
   have pf := HV.out.box.fr
   go_upto_region 4 with fail
   go_cut [18] from 4 (fun s18 wx => ∃ b : Bool, s18 = .bool b ∧ RKv c a len cap w N R M v wx)
   case first =>
    go_wp2_with fail
    refine (once_any a len cap c _ _ HV.out.dr.cur (by omega) (by omega)).mono ?_
    rintro e w5 ⟨b, rfl, hd5⟩
    have HV5 := hidOf (HV.out.draw hd5)
    clear hd5 HV p0 p1 p2 p3 p4 p5 p6 p7 pf
    go_wp2_with fail
    go_meet
    exact ⟨b, rfl, HV5.out⟩
   case rest =>
    obtain ⟨b, rfl, hV5⟩ := hcut
    have HV5 := hidOf hV5
    clear hV5 HV p0 p1 p2 p3 p4 p5 p6 p7 pf
    go_upto_if 18 with fail
    go_cut [] from 4 (fun wx => AnyR c a len cap w N wx)
    case first =>
     cases b
     ·go_wp2_with fail
      go_meet
      exact ⟨_, M, v, HA2.out.le.mono (by omega), HA2.out.wf, HV5.out⟩
     ·go_wp2_with fail
      refine (below_any a len cap c _ _ HV5.out.dr.cur (by omega) (by omega)).mono ?_
      rintro e w6 ⟨q, rfl, q0, q1, hd6⟩
      have HV6 := hidOf (HV5.out.draw hd6).up
      clear hd6 HV5
      obtain ⟨p0, p1, p2, p3, p4, p5, p6, p7⟩ := box8 HV6.out.box
      have pf := HV6.out.box.fr
      by_cases hq0 : q = 0
      ·subst hq0
       have hse := HA2.out.se
       have hw : IntKind.i64.wrap (v.se + 1) = v.se + 1 := by rw [IntKind.wrap_i64]; omega
       have HX := hidOf (show AnyR c a len cap w N (w6.setCell ⟨N, 1, none⟩ (.int .i64 (v.se + 1))) from ⟨_, M, ⟨v.cp, v.se + 1, v.it, v.nx, v.sb, v.ln, v.gs, v.cl⟩, HA2.out.le.mono (by omega), ⟨HA2.out.wf.cp, wf_of (x := v.se + 1) (by omega) (by omega), HA2.out.wf.nx, HA2.out.wf.sb, HA2.out.wf.ln, HA2.out.wf.gs⟩, HV6.out.put1 (i := 1) (by omega) rfl (HV6.out.row.num _ _ _ _) HV6.out.out HV6.out.und⟩)
       clear HV6 HA2 hse
       go_wp2_with fail
       go_meet
       exact HX.out
      have eq0 : (q == 0) = false := by simp [hq0]
      by_cases hq1 : q = 1
      ·subst hq1
       obtain ⟨V8, hV8⟩ : ∃ V, w6.alloc (.cells #[.int .i64 1, .int .i64 0, .string ⟨#[]⟩] 30) = V := ⟨_, rfl⟩
       have bV8 : Below w6.heap.size w6 V8 := by rw [← hV8]; exact bl_alloc (Below.refl _ _) _
       have hV6' := HV6.out.keep bV8
       obtain ⟨a8, c8, w8, hr8, ho8, hg8, hl8⟩ := append_msgR (w.heap.size + 1) M.i (.slice M.ia M.i M.ic) v.it (some ⟨w6.heap.size, 0, none⟩) 1 1 [(1, 0, ⟨#[]⟩)] V8 hV6'.row.it (by have := hV6'.hN; have := hV6'.box.lt; omega) (by rw [← hV8]; exact one_msg w6 1 0 ⟨#[]⟩ (by exact Nat.zero_le _)) (by have h := HA2.out.le.i; omega)
       have row8 := hV6'.row.growI ho8 (fun p hp => by
        rcases List.mem_append.1 hp with h | h
        ·exact hV6'.row.its p h
        ·rw [List.mem_singleton.1 h]; exact Nat.zero_le _) hg8 hl8
       have hin : ∀ q, (Value.slice M.ia M.i M.ic).ownBlock = some q → some q ∈ blkR M := fun q e => by rw [← e]; simp [blkR]
       obtain ⟨d8, x8, g8, z8, n8⟩ := hV6'.list hg8 hin
       have hout8 : some N ∉ blkR ({ M with ia := a8, i := M.i + 1, ic := c8 } : Rm) := fun hm => by
        unfold blkR at hm
        rw [List.mem_cons] at hm
        rcases hm with e | e
        ·rcases hl8 N e.symm with h | h
         ·exact hV6'.out (by rw [← h]; simp [blkR])
         ·have := hV6'.box.lt; omega
        ·exact hV6'.out (by unfold blkR; rw [List.mem_cons]; exact .inr e)
       have hV9 : RKv c a len cap w N w8.heap.size { M with ia := a8, i := M.i + 1, ic := c8 } ⟨v.cp, v.se, v.it ++ [(1, 0, ⟨#[]⟩)], v.nx, v.sb, v.ln, v.gs, v.cl⟩ (w8.setCell ⟨N, 2, none⟩ (.slice a8 (M.i + 1) c8)) := by
        have hg := grown_setC w8 N 2 (.slice a8 (M.i + 1) c8)
        have hN := HV6.out.hN
        have hgc := HV6.out.gc
        have hcl := HV6.out.cur.lt
        exact ⟨d8.grown HV6.out.cur hg (by omega), x8.set 2 (by simp) _, row8.grown hg hout8, hout8, fun q hq => (row8.blk q hq).2, hN, HV6.out.cur, by simp, n8, g8.grown hg (by intro e; injection e with e; omega), hgc, z8.far N 2 (by omega) _⟩
       have HX := hidOf (show AnyR c a len cap w N (w8.setCell ⟨N, 2, none⟩ (.slice a8 (M.i + 1) c8)) from ⟨_, { M with ia := a8, i := M.i + 1, ic := c8 }, ⟨v.cp, v.se, v.it ++ [(1, 0, ⟨#[]⟩)], v.nx, v.sb, v.ln, v.gs, v.cl⟩, ⟨by have := HA2.out.le.i; show M.i + 1 ≤ 66; omega, by have := HA2.out.le.s; show M.s ≤ 66; omega, fun x hx => by have := HA2.out.le.f x hx; omega, by have := HA2.out.le.l; show M.l ≤ 66; omega, by have := HA2.out.le.g; show M.g ≤ 66; omega⟩, ⟨HA2.out.wf.cp, HA2.out.wf.se, HA2.out.wf.nx, HA2.out.wf.sb, HA2.out.wf.ln, HA2.out.wf.gs⟩, hV9⟩)
       obtain ⟨y0, y1, y2, y3, y4, y5, y6, y7⟩ := box8 x8
       have yf := x8.fr
       have Hr := hidOf hr8
       have E1 : (1 : Int) = (1 : Int) := rfl
       clear hV9 row8 hin d8 x8 g8 z8 n8 hout8 hg8 hl8 ho8 hV6' bV8 hr8 E1 HV6 HA2
       subst hV8
       go_wp2_with (first | (at_builtin; refine wpList_append_run rfl _ _ 24 rfl _ _ _ rfl rfl Hr.out ?_) | fail)
       go_meet
       exact HX.out
      have eq1 : (q == 1) = false := by simp [hq1]
      by_cases hq2 : q = 2
      ·subst hq2
       by_cases hs : M.s = 0
       ·have hsp : ¬ (0 : Int) < (M.s : Int) := by omega
        have HX := hidOf (show AnyR c a len cap w N w6 from ⟨_, M, v, HA2.out.le.mono (by omega), HA2.out.wf, HV6.out⟩)
        clear HV6 HA2
        go_wp2_with fail
        go_meet
        exact HX.out
       have hsp : (0 : Int) < (M.s : Int) := by omega
       have hrow := HV6.out.row
       have hlen : M.xs.length = M.s := hrow.own.sb.sub.len
       have hsv := hrow.sv
       obtain ⟨gb, hga, _, _⟩ := hrow.sub_row (k := 0) (by rw [← hsv]; simp [svs]; omega)
       have hcell : SCell w6 gb 0 (sg M.xs 0) := by
        rcases hrow.own.sb.sub.row with h0 | ⟨b2, o2, e2, _, hc2⟩
        ·exact absurd h0 hs
        ·rw [hga] at e2
         cases e2
         have := hc2 0 (by omega)
         simpa using this
       have hgt : 0 ≤ (sg M.xs 0).s.gt ∧ (sg M.xs 0).s.gt ≤ 1000000000 := HA2.out.gt _ (by rw [← hsv]; exact List.mem_map.2 ⟨_, sg_mem (by omega), rfl⟩)
       have hw : IntKind.i64.wrap ((sg M.xs 0).s.gt + 1) = (sg M.xs 0).s.gt + 1 := by rw [IntKind.wrap_i64]; omega
       have hput := hrow.put (r := 3) hga (by omega) (by omega) (by omega) ((sg M.xs 0).s.gt + 1)
       have hV9 : ∀ n, RKv c a len cap w N w6.heap.size { M with xs := putS M.xs 0 3 ((sg M.xs 0).s.gt + 1) } { v with sb := putV v.sb 0 3 ((sg M.xs 0).s.gt + 1) } ((w6.drewN n).setCell ⟨gb, 3, none⟩ (.int .i64 ((sg M.xs 0).s.gt + 1))) := fun n => by
        have h := HV6.out.keep (bl_drewN (Below.refl _ _) n)
        have hput := h.row.put (r := 3) hga (by omega) (by omega) (by omega) ((sg M.xs 0).s.gt + 1)
        have hg := grown_setC (w6.drewN n) gb 3 (.int .i64 ((sg M.xs 0).s.gt + 1))
        have hin : some gb ∈ blkR M := by unfold blkR; rw [hga]; simp [Value.ownBlock]
        have hbk := h.row.blk gb hin
        have hN := h.hN
        have hgc := h.gc
        have hcl := h.cur.lt
        have hne : gb ≠ N := fun e => h.out (by rw [← e]; exact hin)
        have e : blkR { M with xs := putS M.xs 0 3 ((sg M.xs 0).s.gt + 1) } = blkR M := by
         unfold blkR
         simp only
         rw [putS_map (show 0 < M.xs.length by omega) (fun a n c => (Value.slice a n c).ownBlock)]
        exact ⟨h.dr.grown h.cur hg (by omega), h.box.far gb 3 (fun k => hne k.symm) _, by simpa using hput, by rw [e]; exact h.out, by rw [e]; exact h.und, hN, h.cur, by simp, HV6.out.lt, h.gok.grown hg (by intro e; injection e with e; omega), hgc, h.res.far gb 3 (by omega) _⟩
       have HX := hidOf (fun n => show AnyR c a len cap w N ((w6.drewN n).setCell ⟨gb, 3, none⟩ (.int .i64 ((sg M.xs 0).s.gt + 1))) from ⟨_, { M with xs := putS M.xs 0 3 ((sg M.xs 0).s.gt + 1) }, { v with sb := putV v.sb 0 3 ((sg M.xs 0).s.gt + 1) }, ⟨by have := HA2.out.le.i; show M.i ≤ 66; omega, by have := HA2.out.le.s; show M.s ≤ 66; omega, fun x hx => by
        obtain ⟨y, hy, _, e2, _, _⟩ := putS_mem (show 0 < M.xs.length by omega) x hx
        rw [e2]
        have := HA2.out.le.f y hy
        omega, by have := HA2.out.le.l; show M.l ≤ 66; omega, by have := HA2.out.le.g; show M.g ≤ 66; omega⟩, ⟨HA2.out.wf.cp, HA2.out.wf.se, HA2.out.wf.nx, fun s hs => by
        rcases putV_mem hs with h | h
        ·exact HA2.out.wf.sb s h
        ·have h0 := HA2.out.wf.sb _ (get_sbm (sb := v.sb) (k := 0) (by rw [← hsv]; simp [svs]; omega))
         rw [h]
         exact ⟨h0.id, h0.st, h0.cu, wf_of (x := (sg M.xs 0).s.gt + 1) (by omega) (by omega), h0.lo, h0.pa⟩, HA2.out.wf.ln, HA2.out.wf.gs⟩, hV9 n⟩)
       have c3 := hcell.c3
       have hne' : ¬ gb = N := fun e => HV6.out.out (by rw [← e]; unfold blkR; rw [hga]; simp [Value.ownBlock])
       have hne2 : ¬ N = gb := fun e => hne' e.symm
       have fr6 : w6.frozen? ⟨gb, 3, none⟩ = false := by
        rcases hrow.own.sb.own with h0 | ⟨b2, o2, e2, _, hf2⟩
        ·exact absurd h0 hs
        ·rw [hga] at e2
         cases e2
         exact hf2 _
       rw [hga] at p4
       simp only [Nat.zero_add] at c3
       clear hrow hlen hsv hcell hgt hput hV9 HV6 HA2 hga hs
       go_upto_region 13 with fail
       go_region
       go_wp2_with fail
       go_meet
       exact HX.out _
      have eq2 : (q == 2) = false := by simp [hq2]
      by_cases hq3 : q = 3
      ·subst hq3
       have HB := hidOf (fun (u : World) (hu : Cur c a len cap u) => below_any a len cap c 4 u hu (by omega) (by omega))
       go_upto_region 15 with fail
       refine wp_region_noPanic ?_
       refine wp_region_held_drew (S := fun _ => True) (by kernel_rfl) True.intro (fun hHeld => ?_)
       refine tK 0 ?_ rfl (by kernel_rfl) (by rfl) ?_ (by assumption) (fun _ _ _ h => h) ?_
       case refine_2 => (intro w hSw; (try dsimp only at hSw); go_simp; try with_reducible rfl)
       simp only [Act.put, List.getElem_toArray, List.getElem_cons_zero, List.setIfInBounds_toArray, List.set_cons_zero, List.set_cons_succ]
       refine tR 2 ?_
       refine wpAnyH_ready (rs := [1, 3]) (by kernel_rfl) (by simp) ?_
       refine (AllReadyH.cons rfl (fun K hK => ?_) (AllReadyH.cons rfl (fun K hK => ?_) AllReadyH.nil))
       ·go_simp
        refine hK.out _ _ True.intro (fun hHeld => ?_)
        clear hK K
        refine wpAnyH_ready (rs := [3]) (by kernel_rfl) (by simp) ?_
        refine (AllReadyH.cons rfl (fun K hK => ?_) AllReadyH.nil)
        go_simp
        refine (HB.out _ (HV6.out.dr.cur.drew)).mono ?_
        rintro e w7 ⟨z, rfl, z0, z1, hd7⟩
        go_wp2_with fail
        have hV7 := (HV6.out.keep (Below.refl _ _).drew).draw hd7
        have q5 : w7.cell? ⟨N, 5, none⟩ = some (.slice M.la M.l M.lc) := hV7.box.cs 5 (by simp)
        have q5a : (w7.alloc (.cells #[.int .i64 z] 3)).cell? ⟨N, 5, none⟩ = some (.slice M.la M.l M.lc) := (hV7.keep (bl_alloc (Below.refl _ _) _)).box.cs 5 (by simp)
        obtain ⟨g8, c8, w8, hr8, ho8, hg8, hl8⟩ := append_own1 (w.heap.size + 1) M.l _ v.ln z w7 hV7.row.ln (by have := hV7.hN; have := hV7.box.lt; omega) (by have h := HA2.out.le.l; omega)
        have row8 := hV7.row.growL ho8 hg8 (fun q e => by
         have e' : g8 = q := by simpa [Value.ownBlock] using e
         rw [← e']
         exact hl8)
        have hin : ∀ q, (Value.slice M.la M.l M.lc).ownBlock = some q → some q ∈ blkR M := fun q e => by rw [← e]; simp [blkR]
        obtain ⟨d8, x8, g8k, z8, n8⟩ := hV7.list hg8 hin
        have hout8 : some N ∉ blkR ({ M with la := some ⟨g8, 0, none⟩, l := M.l + 1, lc := c8 } : Rm) := fun hm => by
         rcases blk_line (M := M) hm with k | k
         ·exact hV7.out k
         ·have e' : g8 = N := by simpa [Value.ownBlock] using k
          rcases hl8 with h | h
          ·exact hV7.out (by rw [← e', ← h]; simp [blkR])
          ·have := hV7.box.lt; omega
        have hV9 : RKv c a len cap w N w8.heap.size { M with la := some ⟨g8, 0, none⟩, l := M.l + 1, lc := c8 } ⟨v.cp, v.se, v.it, v.nx, v.sb, v.ln ++ [z], v.gs, v.cl⟩ (w8.setCell ⟨N, 5, none⟩ (.slice (some ⟨g8, 0, none⟩) (M.l + 1) c8)) := by
         have hg := grown_setC w8 N 5 (.slice (some ⟨g8, 0, none⟩) (M.l + 1) c8)
         have hN := HV6.out.hN
         have hgc := HV6.out.gc
         have hcl := HV6.out.cur.lt
         exact ⟨d8.grown HV6.out.cur hg (by omega), x8.set 5 (by simp) _, row8.grown hg hout8, hout8, fun q hq => (row8.blk q hq).2, hN, HV6.out.cur, by simp, n8, g8k.grown hg (by intro e; injection e with e; omega), hgc, z8.far N 5 (by omega) _⟩
        have HX := hidOf (show AnyR c a len cap w N (w8.setCell ⟨N, 5, none⟩ (.slice (some ⟨g8, 0, none⟩) (M.l + 1) c8)) from ⟨_, { M with la := some ⟨g8, 0, none⟩, l := M.l + 1, lc := c8 }, ⟨v.cp, v.se, v.it, v.nx, v.sb, v.ln ++ [z], v.gs, v.cl⟩, ⟨by have := HA2.out.le.i; show M.i ≤ 66; omega, by have := HA2.out.le.s; show M.s ≤ 66; omega, fun x hx => by have := HA2.out.le.f x hx; omega, by have := HA2.out.le.l; show M.l + 1 ≤ 66; omega, by have := HA2.out.le.g; show M.g ≤ 66; omega⟩, ⟨HA2.out.wf.cp, HA2.out.wf.se, HA2.out.wf.nx, HA2.out.wf.sb, fun y hy => by
         rcases List.mem_append.1 hy with h | h
         ·exact HA2.out.wf.ln y h
         ·rw [List.mem_singleton.1 h]; exact wf_of (x := z) (by omega) (by omega), HA2.out.wf.gs⟩, hV9⟩)
        have y5 := x8.cs 5 (by simp)
        simp only [List.getElem_cons_succ, List.getElem_cons_zero] at y5
        have yf := x8.fr
        refine hK.out _ _ True.intro (fun hHeld => ?_)
        clear hK K
        refine wpAnyH_ready (rs := [4]) (by kernel_rfl) (by simp) ?_
        refine (AllReadyH.cons rfl (fun K hK => ?_) AllReadyH.nil)
        go_simp
        refine hK.out _ _ True.intro (fun hHeld => ?_)
        clear hK K
        refine tW 5 (fun K hK => ?_)
        refine nstep_append_runQ (by rfl) _ _ 26 (by rfl) (.slice M.la M.l M.lc) (.slice (some ⟨w7.heap.size, 0, none⟩) 1 1) _ (by rfl) (by rfl) hr8 ?_
        refine hK.out _ _ True.intro (fun hHeld => ?_)
        clear hK K
        simp only [Act.put, zGA, zG0, zGC, zSA, zS0, zSC]
        refine tR 6 ?_
        refine tW 7 (fun K hK => ?_)
        go_simp
        refine hK.out _ _ True.intro (fun hHeld => ?_)
        clear hK K
        refine wpAnyH_done (by kernel_rfl) ?_ _
        refine NoPanic.normal ?_
        go_wp2_with fail
        go_meet
        exact HX.out
       ·go_simp
        refine (HB.out _ (HV6.out.dr.cur.drew)).mono ?_
        rintro e w7 ⟨z, rfl, z0, z1, hd7⟩
        go_wp2_with fail
        have hV7 := (HV6.out.keep (Below.refl _ _).drew).draw hd7
        have q5 : w7.cell? ⟨N, 5, none⟩ = some (.slice M.la M.l M.lc) := hV7.box.cs 5 (by simp)
        have q5a : (w7.alloc (.cells #[.int .i64 z] 3)).cell? ⟨N, 5, none⟩ = some (.slice M.la M.l M.lc) := (hV7.keep (bl_alloc (Below.refl _ _) _)).box.cs 5 (by simp)
        obtain ⟨g8, c8, w8, hr8, ho8, hg8, hl8⟩ := append_own1 (w.heap.size + 1) M.l _ v.ln z w7 hV7.row.ln (by have := hV7.hN; have := hV7.box.lt; omega) (by have h := HA2.out.le.l; omega)
        have row8 := hV7.row.growL ho8 hg8 (fun q e => by
         have e' : g8 = q := by simpa [Value.ownBlock] using e
         rw [← e']
         exact hl8)
        have hin : ∀ q, (Value.slice M.la M.l M.lc).ownBlock = some q → some q ∈ blkR M := fun q e => by rw [← e]; simp [blkR]
        obtain ⟨d8, x8, g8k, z8, n8⟩ := hV7.list hg8 hin
        have hout8 : some N ∉ blkR ({ M with la := some ⟨g8, 0, none⟩, l := M.l + 1, lc := c8 } : Rm) := fun hm => by
         rcases blk_line (M := M) hm with k | k
         ·exact hV7.out k
         ·have e' : g8 = N := by simpa [Value.ownBlock] using k
          rcases hl8 with h | h
          ·exact hV7.out (by rw [← e', ← h]; simp [blkR])
          ·have := hV7.box.lt; omega
        have hV9 : RKv c a len cap w N w8.heap.size { M with la := some ⟨g8, 0, none⟩, l := M.l + 1, lc := c8 } ⟨v.cp, v.se, v.it, v.nx, v.sb, v.ln ++ [z], v.gs, v.cl⟩ (w8.setCell ⟨N, 5, none⟩ (.slice (some ⟨g8, 0, none⟩) (M.l + 1) c8)) := by
         have hg := grown_setC w8 N 5 (.slice (some ⟨g8, 0, none⟩) (M.l + 1) c8)
         have hN := HV6.out.hN
         have hgc := HV6.out.gc
         have hcl := HV6.out.cur.lt
         exact ⟨d8.grown HV6.out.cur hg (by omega), x8.set 5 (by simp) _, row8.grown hg hout8, hout8, fun q hq => (row8.blk q hq).2, hN, HV6.out.cur, by simp, n8, g8k.grown hg (by intro e; injection e with e; omega), hgc, z8.far N 5 (by omega) _⟩
        have HX := hidOf (show AnyR c a len cap w N (w8.setCell ⟨N, 5, none⟩ (.slice (some ⟨g8, 0, none⟩) (M.l + 1) c8)) from ⟨_, { M with la := some ⟨g8, 0, none⟩, l := M.l + 1, lc := c8 }, ⟨v.cp, v.se, v.it, v.nx, v.sb, v.ln ++ [z], v.gs, v.cl⟩, ⟨by have := HA2.out.le.i; show M.i ≤ 66; omega, by have := HA2.out.le.s; show M.s ≤ 66; omega, fun x hx => by have := HA2.out.le.f x hx; omega, by have := HA2.out.le.l; show M.l + 1 ≤ 66; omega, by have := HA2.out.le.g; show M.g ≤ 66; omega⟩, ⟨HA2.out.wf.cp, HA2.out.wf.se, HA2.out.wf.nx, HA2.out.wf.sb, fun y hy => by
         rcases List.mem_append.1 hy with h | h
         ·exact HA2.out.wf.ln y h
         ·rw [List.mem_singleton.1 h]; exact wf_of (x := z) (by omega) (by omega), HA2.out.wf.gs⟩, hV9⟩)
        have y5 := x8.cs 5 (by simp)
        simp only [List.getElem_cons_succ, List.getElem_cons_zero] at y5
        have yf := x8.fr
        refine hK.out _ _ True.intro (fun hHeld => ?_)
        clear hK K
        refine wpAnyH_ready (rs := [1, 4]) (by kernel_rfl) (by simp) ?_
        refine (AllReadyH.cons rfl (fun K hK => ?_) (AllReadyH.cons rfl (fun K hK => ?_) AllReadyH.nil))
        ·go_simp
         refine hK.out _ _ True.intro (fun hHeld => ?_)
         clear hK K
         refine wpAnyH_ready (rs := [4]) (by kernel_rfl) (by simp) ?_
         refine (AllReadyH.cons rfl (fun K hK => ?_) AllReadyH.nil)
         go_simp
         refine hK.out _ _ True.intro (fun hHeld => ?_)
         clear hK K
         refine tW 5 (fun K hK => ?_)
         refine nstep_append_runQ (by rfl) _ _ 26 (by rfl) (.slice M.la M.l M.lc) (.slice (some ⟨w7.heap.size, 0, none⟩) 1 1) _ (by rfl) (by rfl) hr8 ?_
         refine hK.out _ _ True.intro (fun hHeld => ?_)
         clear hK K
         simp only [Act.put, zGA, zG0, zGC, zSA, zS0, zSC]
         refine tR 6 ?_
         refine tW 7 (fun K hK => ?_)
         go_simp
         refine hK.out _ _ True.intro (fun hHeld => ?_)
         clear hK K
         refine wpAnyH_done (by kernel_rfl) ?_ _
         refine NoPanic.normal ?_
         go_wp2_with fail
         go_meet
         exact HX.out
        ·go_simp
         refine hK.out _ _ True.intro (fun hHeld => ?_)
         clear hK K
         refine wpAnyH_ready (rs := [1]) (by kernel_rfl) (by simp) ?_
         refine (AllReadyH.cons rfl (fun K hK => ?_) AllReadyH.nil)
         go_simp
         refine hK.out _ _ True.intro (fun hHeld => ?_)
         clear hK K
         refine tW 5 (fun K hK => ?_)
         refine nstep_append_runQ (by rfl) _ _ 26 (by rfl) (.slice M.la M.l M.lc) (.slice (some ⟨w7.heap.size, 0, none⟩) 1 1) _ (by rfl) (by rfl) hr8 ?_
         refine hK.out _ _ True.intro (fun hHeld => ?_)
         clear hK K
         simp only [Act.put, zGA, zG0, zGC, zSA, zS0, zSC]
         refine tR 6 ?_
         refine tW 7 (fun K hK => ?_)
         go_simp
         refine hK.out _ _ True.intro (fun hHeld => ?_)
         clear hK K
         refine wpAnyH_done (by kernel_rfl) ?_ _
         refine NoPanic.normal ?_
         go_wp2_with fail
         go_meet
         exact HX.out
      have eq3 : (q == 3) = false := by simp [hq3]
      by_cases hq4 : q = 4
      ·subst hq4
       have HX := hidOf (show AnyR c a len cap w N (w6.setCell ⟨N, 7, none⟩ (.bool (!v.cl))) from ⟨_, M, ⟨v.cp, v.se, v.it, v.nx, v.sb, v.ln, v.gs, !v.cl⟩, HA2.out.le.mono (by omega), ⟨HA2.out.wf.cp, HA2.out.wf.se, HA2.out.wf.nx, HA2.out.wf.sb, HA2.out.wf.ln, HA2.out.wf.gs⟩, HV6.out.put1 (i := 7) (by omega) rfl (HV6.out.row.num _ _ _ _) HV6.out.out HV6.out.und⟩)
       clear HV6 HA2
       go_wp2_with fail
       go_meet
       exact HX.out
      have eq4 : (q == 4) = false := by simp [hq4]
      have hcr := HV6.out.dr.cur.lt
      have hb7 := bl_alloc (Below.refl w6.heap.size w6) (.cells #[.int .i64 0, .int .i64 17] 3)
      have HV7 := hidOf (HV6.out.keep hb7)
      have HPk := hidOf (pickIntP_any (fun x => (Lit.int .i64 x).wf = true) a len cap c w6.heap.size 2 _ HV7.out.dr.cur (by simp) (by omega) (by omega) (by omega) (fun i hi => by
       rw [World.cell?_alloc_new]
       obtain rfl | rfl : i = 0 ∨ i = 1 := by omega
       ·exact ⟨0, rfl, by decide⟩
       ·exact ⟨17, rfl, by decide⟩))
      clear HV6 hb7 p0 p1 p2 p3 p4 p5 p6 p7 pf
      go_wp2_with fail
      refine HPk.out.mono ?_
      rintro e w8 ⟨x, rfl, hx, hd8⟩
      have HV8 := hidOf (HV7.out.draw hd8)
      clear hd8 HV7 HPk
      obtain ⟨p0, p1, p2, p3, p4, p5, p6, p7⟩ := box8 HV8.out.box
      have pf := HV8.out.box.fr
      have HX := hidOf (show AnyR c a len cap w N (w8.setCell ⟨N, 0, none⟩ (.int .i64 x)) from ⟨_, M, ⟨x, v.se, v.it, v.nx, v.sb, v.ln, v.gs, v.cl⟩, HA2.out.le.mono (by omega), ⟨hx, HA2.out.wf.se, HA2.out.wf.nx, HA2.out.wf.sb, HA2.out.wf.ln, HA2.out.wf.gs⟩, HV8.out.put1 (i := 0) (by omega) rfl (HV8.out.row.num _ _ _ _) HV8.out.out HV8.out.und⟩)
      clear HV8 HA2 hx
      go_wp2_with fail
      go_meet
      exact HX.out
    case rest =>
     obtain ⟨R3, M3, v3, hle, hwf, hV3⟩ := hcut
     obtain ⟨p0, p1, p2, p3, p4, p5, p6, p7⟩ := box8 hV3.box
     obtain ⟨t0, t1, t2, t3, t4, t5, t6, t7⟩ := box8 hV3.res
     have rf := hV3.res.fr
     have HRow := hidOf (fun wr (hV : RKv c a len cap w N R3 M3 v3 wr) => show RRow w.heap.size (stR wr w.heap.size M3 v3) M3 v3 ∧ Drawn c a len cap w (stR wr w.heap.size M3 v3) from ⟨(hV.row.grown (stR_grown wr w.heap.size M3 v3) (hV.row.out (by omega))).mono (by omega), hV.dr.grown hV.cur (stR_grown wr w.heap.size M3 v3) (Nat.le_refl _)⟩)
     have HV3 := hidOf hV3
     have HLe := hidOf hle
     have HWf := hidOf hwf
     clear hV3 hle hwf HV5 HA2
     go_wp2_with fail
     exact bodyPost_ret (v := .agg #[.int .i64 v3.cp, .int .i64 v3.se, .slice M3.ia M3.i M3.ic, .int .i64 v3.nx, .slice M3.sa M3.s M3.sc, .slice M3.la M3.l M3.lc, .slice M3.ga M3.g M3.gc, .bool v3.cl]) (by simp [results, Tryz.results74, go_sem, t0, t1, t2, t3, t4, t5, t6, t7]) rfl ⟨M3, v3, rfl, (HRow.out _ HV3.out).1, HLe.out, HWf.out, (HRow.out _ HV3.out).2⟩
end Go.Proofs.YtdboaoejlkkoeaaGreat
