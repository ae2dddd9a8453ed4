/-
  The specification's draws: a number, mostly of a ring's subscribers
-/
import Derived.Test.YtihdglmiecifjaaGreatZRk36
namespace Go.Proofs.YtihdglmiecifjaaGreat
open Go.RowKit Go.Maps Pl Il Dr
/-- What the drawing of a number holds on to: the ring's variable, its lists, and both lists behind one another. -/
structure IdS (c : Nat) (a : Option Addr) (len cap : Nat) (w : World) (N B : Nat) (M : Rm) (v : Rv) (ba : Option Addr) (bn bc : Nat) (xs : List Int) (u : World) : Prop where
  dr : Drawn c a len cap w u
  box : BoxL N (rC M v) u
  row : RRow B u M v
  both : u.ownsRow (c + 1) 3 1 (.slice ba bn bc) bn (intsV xs)
  hc : c < B
  hN : N ≠ c
theorem IdS.draw {c : Nat} {a : Option Addr} {len cap : Nat} {w : World} {N B : Nat} {M : Rm} {v : Rv} {ba : Option Addr} {bn bc : Nat} {xs : List Int} {u u' : World} (h : IdS c a len cap w N B M v ba bn bc xs u) (hd : Drawn c a len cap u u') : IdS c a len cap w N B M v ba bn bc xs u' :=
  ⟨h.dr.trans hd, h.box.dr hd h.hN, h.row.dr hd h.hc, rowG h.both hd.ex (fun q e e' => by injection e with e; have := (row_lt h.both e').1; omega), h.hc, h.hN⟩
theorem IdS.drew {c : Nat} {a : Option Addr} {len cap : Nat} {w : World} {N B : Nat} {M : Rm} {v : Rv} {ba : Option Addr} {bn bc : Nat} {xs : List Int} {u : World} (h : IdS c a len cap w N B M v ba bn bc xs u) : IdS c a len cap w N B M v ba bn bc xs u.drew :=
  ⟨h.dr.drew, h.box.keep (Below.refl _ _).drew, h.row.keep (Below.refl _ _).drew, ownsRow_keep h.both (Below.refl _ _).drew, h.hc, h.hN⟩
abbrev IdC (N : Nat) (M : Rm) (w0 u : World) : Prop := u.cell? ⟨N, 5, none⟩ = some (.slice M.la M.l M.lc) ∧ u.cell? ⟨N, 6, none⟩ = some (.slice M.ga M.g M.gc) ∧ Below w0.heap.size w0 u
set_option maxRecDepth 100000 in
set_option maxHeartbeats 8000000 in
theorem l9Id_any (a : Option Addr) (len cap : Nat) (c B : Nat) (M : Rm) (v : Rv) (w : World) (hC : Cur c a len cap w) (hrow : RRow B w M v) (hB : c < B) (hle : RLe M 66) (hwf : RWf v) :
  Calls Tryz.prog 99 #[.pointer (some ⟨c, 0, none⟩), .agg #[.int .i64 v.cp, .int .i64 v.se, .slice M.ia M.i M.ic, .int .i64 v.nx, .slice M.sa M.s M.sc, .slice M.la M.l M.lc, .slice M.ga M.g M.gc, .bool v.cl]] w fun e w' => ∃ z : Int, e = .returned (.int .i64 z) ∧ (Lit.int .i64 z).wf = true ∧ Drawn c a len cap w w' := by
 have hlt := hC.lt
 obtain ⟨W0, hW0⟩ : ∃ W, W = w.alloc (.cells #[.int .i64 v.cp, .int .i64 v.se, .slice M.ia M.i M.ic, .int .i64 v.nx, .slice M.sa M.s M.sc, .slice M.la M.l M.lc, .slice M.ga M.g M.gc, .bool v.cl] 28) := ⟨_, rfl⟩
 have b0 : Below w.heap.size w W0 := by rw [hW0]; exact bl_alloc (Below.refl _ _) _
 have X0 : BoxL w.heap.size (rC M v) W0 := by rw [hW0]; exact BoxL.new w (rC M v) _
 have HX0 := hidOf X0
 have HRow := hidOf (hrow.keep b0)
 have HD := hidOf (drawn_keepR (Drawn.start hC) b0)
 have HIn := hidOf (hrow.own.rin.keep b0)
 have HWf := hidOf hwf
 have hml := hle.l
 have hmg := hle.g
 have hms := hle.s
 have p5 : W0.cell? ⟨w.heap.size, 5, none⟩ = some (.slice M.la M.l M.lc) := X0.cs 5 (by simp)
 have p6 : W0.cell? ⟨w.heap.size, 6, none⟩ = some (.slice M.ga M.g M.gc) := X0.cs 6 (by simp)
 have HZ0 := hidOf (show W0.heap.size = w.heap.size + 1 by rw [hW0]; simp)
 clear hC hrow hle hwf b0 X0
 go_enter Tryz.func99, Tryz.ntmps99
 go_upto_region 1 with fail
 rw [← hW0]
 clear hW0
 have hS0 : IdC w.heap.size M W0 W0 := ⟨p5, p6, Below.refl _ _⟩
 go_cut [5] from 6 (fun s5 wx => ∃ (ba : Option Addr) (bc : Nat), s5 = .slice ba (M.l + M.g) bc ∧ IdS c a len cap w w.heap.size B M v ba (M.l + M.g) bc (v.ln ++ v.gs) wx)
 case first =>
  refine wp_region_noPanic ?_
  refine wp_region_held_drew (S := fun u => IdC w.heap.size M W0 u) (by kernel_rfl) ⟨by simpa using p5, by simpa using p6, (Below.refl _ _).drew⟩ (fun hHeld => ?_)
  refine tK 0 ?_ rfl (by kernel_rfl) (by rfl) ?_ (by assumption) (fun _ _ _ h => h) ?_
  case refine_2 => (intro w hSw; (try dsimp only at hSw); go_simp; try with_reducible rfl)
  simp only [Act.put, List.getElem_toArray, List.getElem_cons_zero, List.setIfInBounds_toArray, List.set_cons_zero, List.set_cons_succ]
  refine tK 1 ?_ rfl (by kernel_rfl) (by rfl) ?_ (by assumption) (fun _ _ _ h => h) ?_
  case refine_2 => (intro w hSw; (try dsimp only at hSw); go_simp; try with_reducible rfl)
  simp only [Act.put, zGA, zG0, zGC, zSA, zS0, zSC]
  refine tK 3 ?_ rfl (by kernel_rfl) (by rfl) ?_ (by assumption) (fun _ _ _ h => h) ?_
  case refine_2 => (intro w hSw; (try dsimp only at hSw); go_simp; try with_reducible rfl)
  simp only [Act.put, zGA, zG0, zGC, zSA, zS0, zSC]
  refine tK 4 ?_ rfl (by kernel_rfl) (by rfl) ?_ (by assumption) (fun _ _ _ h => h) ?_
  case refine_2 => (intro w hSw; (try dsimp only at hSw); go_simp; try with_reducible rfl)
  simp only [Act.put, zGA, zG0, zGC, zSA, zS0, zSC]
  refine wpAnyH_ready (rs := [2]) (by kernel_rfl) (by simp) ?_
  refine AllReadyH.cons rfl (fun K hK => ?_) AllReadyH.nil
  go_simp
  refine (l2Copy_any M.la M.l M.lc v.ln _ (HIn.out.keep (Below.refl _ _).drew).ln (by omega)).mono ?_
  rintro e w2 ⟨g2, c2, rfl, ho2, hb2⟩
  go_wp2_with fail
  have hB2 : Below W0.heap.size W0 w2 := bl_trans (Below.refl _ _).drew hb2
  have hS2 : IdC w.heap.size M W0 w2 := ⟨(HX0.out.keep hB2).cs 5 (by simp), (HX0.out.keep hB2).cs 6 (by simp), hB2⟩
  refine hK.out _ _ hS2 (fun hHeld => ?_)
  clear hK K
  have ho2' : w2.ownsRow W0.heap.size 3 1 (.slice (some ⟨g2, 0, none⟩) M.l c2) M.l (intsV v.ln) := ho2
  have hg2 := (owns_parts ho2).2.1
  have hg2' : W0.heap.size ≤ g2 := hg2
  obtain ⟨a3, c3, w3, hr, ho3, hg3, hl3⟩ := append_ownS W0.heap.size M.l (.slice (some ⟨g2, 0, none⟩) M.l c2) v.ln M.ga M.g M.gc v.gs w2 ho2' hB2.size (HIn.out.keep hB2).gs (by omega)
  have hin : ∀ q, (Value.slice (some ⟨g2, 0, none⟩) M.l c2).ownBlock = some q → q = g2 := fun q e => by simpa [Value.ownBlock] using e.symm
  have hB3 : Below W0.heap.size W0 w3 := hB2.grown hg3 hB2.size (fun q e => by have := hin q e; omega)
  have hS3 : IdC w.heap.size M W0 w3 := ⟨(HX0.out.keep hB3).cs 5 (by simp), (HX0.out.keep hB3).cs 6 (by simp), hB3⟩
  refine wpAnyH_ready (rs := [5]) (by kernel_rfl) (by simp) ?_
  refine AllReadyH.cons rfl (fun K hK => ?_) AllReadyH.nil
  refine nstep_append_runQ (by rfl) _ _ 26 (by rfl) (.slice (some ⟨g2, 0, none⟩) M.l c2) (.slice M.ga M.g M.gc) _ (by rfl) (by rfl) hr ?_
  refine hK.out _ _ hS3 (fun hHeld => ?_)
  clear hK K
  simp only [Act.put, zGA, zG0, zGC, zSA, zS0, zSC]
  refine tK 6 ?_ rfl (by kernel_rfl) (by rfl) ?_ (by assumption) (fun _ _ _ h => h) ?_
  case refine_2 => (intro w hSw; (try dsimp only at hSw); go_simp; try with_reducible rfl)
  simp only [Act.put, zGA, zG0, zGC, zSA, zS0, zSC]
  refine wpAnyH_done (by kernel_rfl) ?_ _
  refine NoPanic.normal ?_
  go_wp2_with fail
  go_meet
  exact ⟨a3, c3, rfl, drawn_keepR HD.out hB3, HX0.out.keep hB3, HRow.out.keep hB3, rowM ho3 (by have := HZ0.out; omega), hB, by omega⟩
 case rest =>
  obtain ⟨ba, bc, rfl, hI⟩ := hcut
  have HI := hidOf hI
  clear hI hS0 p5 p6 HX0 HRow HD HIn HZ0
  generalize w.heap.size = N at HI ⊢
  generalize hn : M.l + M.g = n at HI ⊢
  have hn2 : n ≤ 132 := by omega
  have hxl : (v.ln ++ v.gs).length = n := by have := HI.out.both.1; simpa [intsV] using this
  have hwx : ∀ y, y ∈ v.ln ++ v.gs → (Lit.int .i64 y).wf = true := fun y hy => by
   rcases List.mem_append.1 hy with h | h
   ·exact HWf.out.ln y h
   ·exact HWf.out.gs y h
  generalize v.ln ++ v.gs = xs at HI hxl hwx
  have HXl := hidOf hxl
  have HWx := hidOf hwx
  clear hn hxl hwx hml hmg
  go_upto_region 2 with fail
  go_cut [18] from 6 (fun s18 wx => ∃ b : Bool, s18 = .bool b ∧ (b = true → 0 < n) ∧ IdS c a len cap w N B M v ba n bc xs wx)
  case first =>
   by_cases h0 : n = 0
   ·have h0' : ¬ (0 : Int) < (n : Int) := by omega
    clear h0
    go_wp2_with fail
    go_meet
    exact ⟨false, rfl, (fun h => by cases h), HI.out⟩
   ·have h0' : (0 : Int) < (n : Int) := by omega
    have HH := hidOf (Nat.pos_of_ne_zero h0)
    clear h0
    go_wp2_with fail
    refine (once_any a len cap c _ _ HI.out.dr.cur (by omega) (by omega)).mono ?_
    rintro e w4 ⟨b, rfl, hd4⟩
    have HI4 := hidOf (HI.out.draw hd4)
    clear hd4
    go_wp2_with fail
    go_meet
    exact ⟨b, rfl, fun _ => HH.out, HI4.out⟩
  case rest =>
   obtain ⟨b, rfl, hbn, hI⟩ := hcut
   have HI2 := hidOf hI
   clear hI HI
   cases b
   ·clear hbn
    obtain ⟨p0, p1, p2, p3, p4, p5, p6, p7⟩ := box8 HI2.out.box
    go_upto_region 4 with fail
    go_cut [34] from 6 (fun s34 wx => ∃ b : Bool, s34 = .bool b ∧ (b = true → 0 < M.s) ∧ IdS c a len cap w N B M v ba n bc xs wx)
    case first =>
     by_cases h0 : M.s = 0
     ·have h0' : ¬ (0 : Int) < (M.s : Int) := by omega
      clear h0
      go_wp2_with fail
      go_meet
      exact ⟨false, rfl, (fun h => by cases h), HI2.out⟩
     ·have h0' : (0 : Int) < (M.s : Int) := by omega
      have HH := hidOf (Nat.pos_of_ne_zero h0)
      clear h0
      go_wp2_with fail
      refine (once_any a len cap c _ _ HI2.out.dr.cur (by omega) (by omega)).mono ?_
      rintro e w4 ⟨b, rfl, hd4⟩
      have HI4 := hidOf (HI2.out.draw hd4)
      clear hd4
      go_wp2_with fail
      go_meet
      exact ⟨!b, rfl, fun _ => HH.out, HI4.out⟩
    case rest =>
     obtain ⟨b, rfl, hbs, hI⟩ := hcut
     have HI3 := hidOf hI
     clear hI HI2 p0 p1 p2 p3 p4 p5 p6 p7
     cases b
     ·clear hbs
      go_wp2_with fail
      refine (below_any a len cap c _ _ HI3.out.dr.cur (by omega) (by omega)).mono ?_
      rintro e w4 ⟨z, rfl, z0, z1, hd4⟩
      have hw : IntKind.i64.wrap (z - 1) = z - 1 := by rw [IntKind.wrap_i64]; omega
      have HD4 := hidOf (HI3.out.dr.trans hd4)
      have HWz := hidOf (wf_of (x := z - 1) (by omega) (by omega))
      clear hd4
      go_wp2
      go_ret
      exact ⟨_, rfl, HWz.out, HD4.out⟩
     ·have hs : M.s ≠ 0 := by have := hbs rfl; omega
      have hsp : (0 : Int) < (M.s : Int) := by omega
      clear hbs
      obtain ⟨ia, i, ic, sa, s, sc, xs', la, l, lc, ga, g, gc⟩ := M
      simp only at hs hsp HI3 hms
      have hsrow := HI3.out.row.own.rin.sb.row
      simp only at hsrow
      rcases hsrow with h0 | ⟨gb, go, hga, _, _⟩
      ·exact absurd h0 hs
      subst hga
      have hgc : ∀ u, IdS c a len cap w N B ⟨ia, i, ic, some ⟨gb, go, none⟩, s, sc, xs', la, l, lc, ga, g, gc⟩ v ba n bc xs u → ∀ zn : Nat, zn < s → u.cell? ⟨gb, go + zn * 7, none⟩ = some (.int .i64 (sg xs' zn).s.id) := fun u hu zn hzn => by
       rcases hu.row.own.rin.sb.row with h0 | ⟨b2, o2, e2, _, hc2⟩
       ·exact absurd h0 hs
       ·cases e2; exact (hc2 zn hzn).c0
      have HIw := hidOf (fun (zn : Nat) (hzn : zn < s) => show (Lit.int .i64 (sg xs' zn).s.id).wf = true from by
       have hsv := HI3.out.row.sv
       have hlen := HI3.out.row.own.rin.sb.len
       simp only at hsv hlen
       refine (HWf.out.sb _ ?_).id
       rw [← hsv]
       exact List.mem_map.2 ⟨_, sg_mem (by omega), rfl⟩)
      have HB := hidOf (fun (z : Int) (u : World) (z0 : 0 < z) (z1 : z ≤ 256) (hu : Cur c a len cap u) => below_any a len cap c z u hu z0 z1)
      have hS : (fun u => u.cell? ⟨N, 4, none⟩ = some (.slice (some ⟨gb, go, none⟩) s sc) ∧ IdS c a len cap w N B ⟨ia, i, ic, some ⟨gb, go, none⟩, s, sc, xs', la, l, lc, ga, g, gc⟩ v ba n bc xs u) _ := ⟨HI3.out.drew.box.cs 4 (by simp), HI3.out.drew⟩
      go_upto_region 5 with fail
      refine wp_region_noPanic ?_
      refine wp_region_held_drew (S := fun u => u.cell? ⟨N, 4, none⟩ = some (.slice (some ⟨gb, go, none⟩) s sc) ∧ IdS c a len cap w N B ⟨ia, i, ic, some ⟨gb, go, none⟩, s, sc, xs', la, l, lc, ga, g, gc⟩ v ba n bc xs u) (by kernel_rfl) hS (fun hHeld => ?_)
      refine tK 0 ?_ rfl (by kernel_rfl) (by rfl) ?_ (by assumption) (fun _ _ _ h => h) ?_
      case refine_2 => (intro w hSw; (try dsimp only at hSw); go_simp; try with_reducible rfl)
      simp only [Act.put, List.getElem_toArray, List.getElem_cons_zero, List.setIfInBounds_toArray, List.set_cons_zero, List.set_cons_succ]
      refine tK 1 ?_ rfl (by kernel_rfl) (by rfl) ?_ (by assumption) (fun _ _ _ h => h) ?_
      case refine_2 => (intro w hSw; (try dsimp only at hSw); go_simp; try with_reducible rfl)
      simp only [Act.put, zGA, zG0, zGC, zSA, zS0, zSC]
      refine tK 2 ?_ rfl (by kernel_rfl) (by rfl) ?_ (by assumption) (fun _ _ _ h => h) ?_
      case refine_2 => (intro w hSw; (try dsimp only at hSw); go_simp; try with_reducible rfl)
      simp only [Act.put, zGA, zG0, zGC, zSA, zS0, zSC]
      refine tK 3 ?_ rfl (by kernel_rfl) (by rfl) ?_ (by assumption) (fun _ _ _ h => h) ?_
      case refine_2 => (intro w hSw; (try dsimp only at hSw); go_simp; try with_reducible rfl)
      simp only [Act.put, zGA, zG0, zGC, zSA, zS0, zSC]
      refine tK 4 ?_ rfl (by kernel_rfl) (by rfl) ?_ (by assumption) (fun _ _ _ h => h) ?_
      case refine_2 => (intro w hSw; (try dsimp only at hSw); go_simp; try with_reducible rfl)
      simp only [Act.put, zGA, zG0, zGC, zSA, zS0, zSC]
      refine tK 5 ?_ rfl (by kernel_rfl) (by rfl) ?_ (by assumption) (fun _ _ _ h => h) ?_
      case refine_2 => (intro w hSw; (try dsimp only at hSw); go_simp; try with_reducible rfl)
      simp only [Act.put, zGA, zG0, zGC, zSA, zS0, zSC]
      refine wpAnyH_ready (rs := [6]) (by kernel_rfl) (by simp) ?_
      refine AllReadyH.cons rfl (fun K hK => ?_) AllReadyH.nil
      go_simp
      refine (HB.out _ _ (by omega) (by omega) hHeld.2.dr.cur).mono ?_
      rintro e w5 ⟨z, rfl, z0, z1, hd5⟩
      obtain ⟨zn, rfl⟩ : ∃ zn : Nat, z = zn := ⟨z.toNat, by omega⟩
      go_wp2_with fail
      have hI5 := hHeld.2.draw hd5
      refine hK.out _ _ ⟨hI5.box.cs 4 (by simp), hI5⟩ (fun hHeld => ?_)
      clear hK K
      refine tK 7 ?_ rfl (by kernel_rfl) (by rfl) ?_ (by assumption) (fun _ _ _ h => h) ?_
      case refine_2 => (intro w hSw; (try dsimp only at hSw); go_simp; try with_reducible rfl)
      simp only [Act.put, zGA, zG0, zGC, zSA, zS0, zSC]
      refine tK 8 ?_ rfl (by kernel_rfl) (by rfl) ?_ (by assumption) (fun _ _ _ h => h) ?_
      case refine_2 => (intro w hSw; (try dsimp only at hSw); go_simp; try with_reducible rfl)
      simp only [Act.put, zGA, zG0, zGC, zSA, zS0, zSC]
      refine tK 9 ?_ rfl (by kernel_rfl) (by rfl) ?_ (by assumption) (fun _ _ _ h => h) ?_
      case refine_2 => (intro w hSw; have hcg := hgc w hSw.2 zn (by omega); (try dsimp only at hSw); go_simp; try with_reducible rfl)
      simp only [Act.put, zGA, zG0, zGC, zSA, zS0, zSC]
      refine tK 10 ?_ rfl (by kernel_rfl) (by rfl) ?_ (by assumption) (fun _ _ _ h => h) ?_
      case refine_2 => (intro w hSw; (try dsimp only at hSw); go_simp; try with_reducible rfl)
      simp only [Act.put, zGA, zG0, zGC, zSA, zS0, zSC]
      refine wpAnyH_done (by kernel_rfl) ?_ _
      refine NoPanic.normal ?_
      have HD5 := hidOf hI5.dr
      have HWz := hidOf (HIw.out zn (by omega))
      go_wp2
      go_ret
      exact ⟨_, rfl, HWz.out, HD5.out⟩
   ·have hpos := hbn rfl
    have hp' : (0 : Int) < (n : Int) := by omega
    clear hbn
    go_wp2_with fail
    refine (below_any a len cap c _ _ HI2.out.dr.cur (by omega) (by omega)).mono ?_
    rintro e w4 ⟨z, rfl, z0, z1, hd4⟩
    obtain ⟨k, rfl⟩ : ∃ k : Nat, z = k := ⟨z.toNat, by omega⟩
    have hk : k < n := by omega
    have hI4 := HI2.out.draw hd4
    have HD4 := hidOf hI4.dr
    obtain ⟨_, hr0 | ⟨b2, off2, e2, _, hcell⟩⟩ := ints_row hI4.both
    ·omega
    have hc := hcell k hk
    have HWy := hidOf (HWx.out (xs.getD k 0) (by
     rw [List.getD_eq_getElem?_getD, List.getElem?_eq_getElem (by have := HXl.out; omega)]
     exact List.getElem_mem _))
    subst e2
    clear hI4 hd4 hcell
    go_wp2
    go_ret
    refine ⟨_, rfl, ?_, HD4.out⟩
    first | exact HWy.out | exact HWx.out _ (List.getElem_mem _)
end Go.Proofs.YtihdglmiecifjaaGreat
