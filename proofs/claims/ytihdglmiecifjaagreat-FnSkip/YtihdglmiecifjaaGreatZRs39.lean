/-
  The specification's draws: a ring, a number of a subscriber, and one t
  The program's ring: skip
  Peek of the specification and of the program
-/
import Derived.Test.YtihdglmiecifjaaGreatZRs38
import Derived.Test.YtihdglmiecifjaaGreatZRs43
namespace Go.Proofs.YtihdglmiecifjaaGreat
open Go.RowKit Go.Maps Pl Il Dr
theorem below_gen (a : Option Addr) (len cap : Nat) (c : Nat) (n : Int) (w : World) (hC : Cur c a len cap w) (h1 : n ≤ 256) :
    Calls Tryz.prog 110 #[.pointer (some ⟨c, 0, none⟩), .int .i64 n] w fun e w' => ∃ x : Int, e = .returned (.int .i64 x) ∧ 0 ≤ x ∧ x ≤ 255 ∧ Drawn c a len cap w w' := by
  by_cases h0 : 0 < n
  · exact (below_any a len cap c n w hC h0 h1).mono fun e w' ⟨x, he, hx0, hx1, hd⟩ => ⟨x, he, hx0, by omega, hd⟩
  · have h0' : n ≤ 0 := by omega
    go_enter Tryz.func110, Tryz.ntmps110
    go_wp2
    go_ret
    exact ⟨0, rfl, by omega, by omega, Drawn.start hC⟩
def RidnP (w : World) (e : Ending) (w' : World) : Prop := ∃ (M : Rm) (v : Rv) (z n : Int), e = .returned (.tuple #[.agg #[.int .i64 v.cp, .int .i64 v.se, .slice M.ia M.i M.ic, .int .i64 v.nx, .slice M.sa M.s M.sc, .slice M.la M.l M.lc, .slice M.ga M.g M.gc, .bool v.cl], .int .i64 z, .int .i64 n]) ∧ RRow w.heap.size w' M v ∧ RLe M 66 ∧ RWf v ∧ (Lit.int .i64 z).wf = true ∧ (Lit.int .i64 n).wf = true ∧ Below w.heap.size w w'
set_option maxRecDepth 100000 in
set_option maxHeartbeats 8000000 in
theorem drawSkip_any (a : Option Addr) (len cap : Nat) (w : World) (hB : Bytes w.heap.size w a len cap) (hG : GOk w) :
  Calls Tryz.prog 42 #[.slice a len cap] w fun e w' => RidnP w e w' := by
 have bA : Below w.heap.size w (w.alloc (.cells #[.int .i64 0, .int .i64 0, .slice none 0 0, .int .i64 0, .slice none 0 0, .slice none 0 0, .slice none 0 0, .bool false] 28)) := bl_alloc (Below.refl _ _) _
 have hgl := hG.lt
 have HBy := hidOf (show len = 0 ∨ ∀ b off, a = some ⟨b, off, none⟩ → b ≠ w.heap.size from by
  obtain ⟨_, _, k | ⟨b, off, e, hb, _⟩⟩ := id hB
  ·exact .inl k
  ·exact .inr fun b' off' e' => by rw [e] at e'; cases e'; omega)
 go_enter Tryz.func42, Tryz.ntmps42
 go_wp2_with fail
 refine (new_any a len cap _ (hB.laterR bA _ (by simp))).mono ?_
 rintro e w1 ⟨rfl, hC, hb1⟩
 have r1 := (BoxL.new w zR 28).keep hb1
 have hb := bl_trans bA hb1
 have G1 := hG.keep hb
 clear hb1 bA hB
 simp only [World.size_alloc] at hC r1
 have hlt1 := hC.lt
 go_wp2_with fail
 refine (l9Some_any a len cap _ _ hC G1 (by omega)).mono ?_
 rintro e w2 ⟨M, v, rfl, hrow, hle, hwf, hd2⟩
 have hs2 := hd2.ex.size
 have r2 := r1.dr hd2 (by omega)
 have hB2 : Below w.heap.size w w2 := hb.trans (hd2.ex.below (by omega) hb.size)
 go_upto_region 3 with fail
 have ba := bl_alloc (Below.refl w2.heap.size w2) (.cells (rC M v).toArray 28)
 generalize hW3 : w2.alloc (.cells #[.int .i64 v.cp, .int .i64 v.se, .slice M.ia M.i M.ic, .int .i64 v.nx, .slice M.sa M.s M.sc, .slice M.la M.l M.lc, .slice M.ga M.g M.gc, .bool v.cl] 28) = W3
 rw [show w2.alloc (.cells (rC M v).toArray 28) = W3 from hW3] at ba
 have hx3 : BoxL w2.heap.size (rC M v) W3 := by rw [← hW3]; exact BoxL.new w2 (rC M v) _
 have hD3 : DrS (w.heap.size + 1) a len cap w w2.heap.size w1.heap.size M v W3 := ⟨hd2.cur.keep ba, bl_trans hB2 ba, hx3, hrow.keep ba⟩
 have r3 := r2.keep ba
 have hB3 := bl_trans hB2 ba
 have HId := hidOf (fun (u : World) (hu : DrS (w.heap.size + 1) a len cap w w2.heap.size w1.heap.size M v u) => l9Id_any a len cap (w.heap.size + 1) w1.heap.size M v u hu.cur hu.row (by omega) hle hwf)
 have HLe := hidOf hle
 have HWf := hidOf hwf
 have HBw := hidOf hb
 have HD3 := hidOf hD3
 have HR3 := hidOf r3
 obtain ⟨p0, p1, p2, p3, p4, p5, p6, p7⟩ := box8 hD3.box
 clear hW3 hx3 hb r1 r2 hd2 hrow hC G1 hle hwf hB2 ba hD3 hB3 r3
 go_wp2_with fail
 refine (HId.out _ HD3.out).mono ?_
 rintro e w4 ⟨z, rfl, hz, hd4⟩
 have hD4 := HD3.out.draw hd4 (by omega) (by omega) (by omega)
 have HR4 := hidOf (HR3.out.dr hd4 (by omega))
 have HZ := hidOf hz
 clear hd4 hz p0 p1 p2 p3 p4 p5 p6 p7 HD3 HR3
 have hS := hD4.drew.s
 have HB := hidOf (fun (n : Int) (u : World) (hu : Cur (w.heap.size + 1) a len cap u) (hn : n ≤ 256) => below_gen a len cap (w.heap.size + 1) n u hu hn)
 go_upto_region 4 with fail
 refine wp_region_noPanic ?_
 refine wp_region_held_drew (S := fun u => DrC (w.heap.size + 1) a len cap w w2.heap.size w1.heap.size M v u) (by kernel_rfl) hS (fun hHeld => ?_)
 refine tK 0 ?_ rfl (by kernel_rfl) (by rfl) ?_ (by assumption) (fun _ _ _ h => h) ?_
 case refine_2 => (intro w hSw; (try dsimp only at hSw); go_simp; try with_reducible rfl)
 simp only [Act.put, List.getElem_toArray, List.getElem_cons_zero, List.setIfInBounds_toArray, List.set_cons_zero, List.set_cons_succ]
 refine tR 1 ?_
 refine tR 2 ?_
 refine tR 3 ?_
 refine tR 4 ?_
 refine tR 5 ?_
 refine tR 6 ?_
 refine tW 7 (fun K hK => ?_)
 go_simp
 refine (HB.out _ _ hHeld.2.2.2.2.2.2.2.2.cur ?hn).mono ?_
 case hn =>
  have h1 := Int.tmod_lt_of_pos v.se (show (0 : Int) < 50 by omega)
  have h2 : -50 < Int.tmod v.se 50 := by
   have := Int.neg_emod_two 0
   rcases Int.le_total 0 v.se with h | h
   ·have := Int.tmod_nonneg 50 h; omega
   ·have h3 := Int.neg_tmod (-v.se) 50
    rw [Int.neg_neg] at h3
    have h4 := Int.tmod_lt_of_pos (-v.se) (show (0 : Int) < 50 by omega)
    omega
  first
   | omega
   | (rw [IntKind.wrap_i64]; omega)
   | (simp only [IntKind.wrap_i64]; omega)
 rintro e w5 ⟨q, rfl, q0, q1, hd5⟩
 have hwq : IntKind.i64.wrap (q - 1) = q - 1 := by rw [IntKind.wrap_i64]; omega
 go_wp2_with fail
 have hD5 := hHeld.2.2.2.2.2.2.2.2.draw hd5 (by omega) (by omega) (by omega)
 have r5 := (HR4.out.keep (Below.refl _ _).drew).dr hd5 (by omega)
 refine hK.out _ _ hD5.s (fun hHeld => ?_)
 clear hK K
 refine tR 8 ?_
 obtain ⟨t0, t1, t2, t3, t4, t5, t6, t7⟩ := box8 r5
 have rf := r5.fr
 have hD9 := hD5.res (by omega) (by omega) (by omega) HBy.out M v
 refine tW 9 (fun K hK => ?_)
 go_simp
 refine hK.out _ _ hD9.s (fun hHeld => ?_)
 clear hK K
 refine tR 10 ?_
 refine tR 11 ?_
 refine wpAnyH_done (by kernel_rfl) ?_ _
 refine NoPanic.normal ?_
 have x9 : BoxL w.heap.size (rC M v) (stR w5 w.heap.size M v) := by rw [stR_eq]; exact r5.setAll (us := rC M v) rfl
 have HF := hidOf (show RRow w.heap.size (stR w5 w.heap.size M v) M v ∧ Below w.heap.size w (stR w5 w.heap.size M v) from ⟨hD9.row.mono (by have := HBw.out.size; omega), hD9.bel⟩)
 have HWq := hidOf (wf_of (x := q - 1) (by omega) (by omega))
 obtain ⟨y0, y1, y2, y3, y4, y5, y6, y7⟩ := box8 x9
 clear hD9 hD5 hS
 go_wp2_with fail
 exact bodyPost_ret (v := .tuple #[.agg #[.int .i64 v.cp, .int .i64 v.se, .slice M.ia M.i M.ic, .int .i64 v.nx, .slice M.sa M.s M.sc, .slice M.la M.l M.lc, .slice M.ga M.g M.gc, .bool v.cl], .int .i64 z, .int .i64 (q - 1)]) (by simp [results, Tryz.results42, go_sem, t0, t1, t2, t3, t4, t5, t6, t7]) rfl ⟨M, v, z, q - 1, rfl, HF.out.1, HLe.out, HWf.out, HZ.out, HWq.out, HF.out.2⟩
end Go.Proofs.YtihdglmiecifjaaGreat
namespace Go.Proofs.YtihdglmiecifjaaGreat
open Go.RowKit Go.Maps Pl Il
theorem lostAhead_K (r s c : Int) (w : World) (h1 : IntKind.i64.wrap (s - r) = s - r) (h2 : IntKind.i64.wrap (s - r - c) = s - r - c) :
    Calls Tryz.prog 112 #[.int .i64 r, .int .i64 s, .int .i64 c] w fun e w' => e = .returned (.int .i64 (if s - r - c < 0 then 0 else s - r - c)) ∧ w' = w := by
  by_cases hn : s - r - c < 0
  · rw [if_pos hn]
    go_enter Tryz.func112, Tryz.ntmps112
    go_wp2
    all_goals go_ret
    all_goals exact ⟨rint (by omega), rfl⟩
  · rw [if_neg hn]
    go_enter Tryz.func112, Tryz.ntmps112
    go_wp2
    all_goals go_ret
    all_goals exact ⟨rint (by omega), rfl⟩
abbrev SkS (b : Nat) (v : Rv) (g k : Nat) (cu : Int) (u : World) : Prop := u.cell? ⟨b, 2, none⟩ = some (.int .i64 v.cp) ∧ u.cell? ⟨b, 55, none⟩ = some (.int .i64 v.se) ∧ u.cell? ⟨g, k * 7 + 2, none⟩ = some (.int .i64 cu)
theorem gone_eq {v : Rv} {s : Sb} {num : Int} (h : s.cu ≤ num) : goneS v s num = if (if v.se - v.cp - s.cu < 0 then 0 else v.se - v.cp - s.cu) < num - s.cu then (if v.se - v.cp - s.cu < 0 then 0 else v.se - v.cp - s.cu) else num - s.cu := by
  unfold goneS
  repeat' split
  all_goals omega
set_option maxRecDepth 100000 in
set_option maxHeartbeats 8000000 in
theorem skip_any (B b : Nat) (A : Na) (P : Nat → Tm) (f : Nat) (v : Rv) (g s sc : Nat) (ys : List Sa) (k : Nat) (num : Int) (w : World) (hR : RBody B b A P f v (some ⟨g, 0, none⟩) s sc ys w) (hs : s ≤ 2097152) (hk : k < ys.length)
  (hse : 0 ≤ v.se ∧ v.se ≤ 1000000000) (hcp : 1 ≤ v.cp ∧ v.cp ≤ 16) (hx : 0 ≤ (sg ys k).s.cu ∧ (sg ys k).s.cu ≤ num ∧ num ≤ v.se ∧ 0 ≤ (sg ys k).s.lo ∧ (sg ys k).s.lo ≤ 1000000000 ∧ 0 ≤ (sg ys k).s.pa ∧ (sg ys k).s.pa ≤ 1000000000) (d : Nat) (hd : d ≤ v.it.length) (ho : oldR (skipV v k num) = ((f + d : Nat) : Int)) :
  Calls Tryz.prog 111 #[.pointer (some ⟨b, 0, none⟩), .pointer (some ⟨g, k * 7, none⟩), .int .i64 num] w fun e w' => e = .returned (.tuple #[]) ∧ ∃ P' ys', RBody B b A P' (f + d) { skipV v k num with it := v.it.drop d } (some ⟨g, 0, none⟩) s sc ys' w' ∧ (∀ y, y ∈ ys' → ∃ x, x ∈ ys ∧ y.n = x.n) ∧ Below B w w' := by
 have hH := hR.s
 obtain ⟨x, hxx⟩ : ∃ x, sg ys k = x := ⟨_, rfl⟩
 rw [hxx] at hx
 have hcu : w.cell? ⟨g, k * 7 + 2, none⟩ = some (.int .i64 x.s.cu) := by rw [row_cell hR.srow.sb hk (by omega), hxx]; rfl
 have hS0 : SkS b v g k x.s.cu w := ⟨hH.2.2.1, hH.2.2.2.1, hcu⟩
 have hsv : v.sb.getD k Sb0 = x.s := by rw [← hR.sv, sg_svs2 hk, hxx]
 obtain ⟨la, hla⟩ : ∃ la : Int, (if v.se - v.cp - x.s.cu < 0 then 0 else v.se - v.cp - x.s.cu) = la := ⟨_, rfl⟩
 have HLa := hidOf (fun u => lostAhead_K v.cp v.se x.s.cu u (by rw [IntKind.wrap_i64]; omega) (by rw [IntKind.wrap_i64]; omega))
 rw [hla] at HLa
 have hla2 : 0 ≤ la ∧ la ≤ 1000000000 := by rw [← hla]; split <;> omega
 obtain ⟨go, hgo⟩ : ∃ go : Int, goneS v x.s num = go := ⟨_, rfl⟩
 have hgo2 : go = if la < num - x.s.cu then la else num - x.s.cu := by rw [← hgo, gone_eq hx.2.1, hla]
 have hsk : skipV v k num = { v with sb := putV (putV (putV v.sb k 4 (x.s.lo + go)) k 5 (x.s.pa + (num - x.s.cu - go))) k 2 num } := by unfold skipV; rw [hsv, hgo]
 have HSk := hidOf hsk
 have HX := hidOf hxx
 have HR := hidOf hR
 have HSv := hidOf hsv
 have hw1 : IntKind.i64.wrap (num - x.s.cu) = num - x.s.cu := by rw [IntKind.wrap_i64]; omega
 have HO := hidOf ho
 have HD := hidOf hd
 have HGo := hidOf hgo
 clear hxx hR hsv hla hgo hsk hcu hH ho hd
 go_enter Tryz.func111, Tryz.ntmps111
 go_upto_region 0 with fail
 refine wp_region_noPanic ?_
 refine wp_region_held_drew (S := fun w' => SkS b v g k x.s.cu w') (by kernel_rfl) hS0 (fun hHeld => ?_)
 refine tK 0 ?_ rfl (by kernel_rfl) (by rfl) ?_ (by assumption) (fun _ _ _ h => h) ?_
 case refine_2 => (intro w hSw; (try dsimp only at hSw); go_simp; try with_reducible rfl)
 simp only [Act.put, List.getElem_toArray, List.getElem_cons_zero, List.setIfInBounds_toArray, List.set_cons_zero, List.set_cons_succ]
 refine tR 1 ?_
 refine tR 2 ?_
 refine tR 3 ?_
 refine tR 4 ?_
 refine tR 5 ?_
 refine tR 6 ?_
 refine tR 7 ?_
 refine tR 8 ?_
 refine tR 9 ?_
 refine tR 10 ?_
 refine tR 11 ?_
 refine tR 12 ?_
 refine tR 13 ?_
 refine tR 14 ?_
 refine tR 15 ?_
 refine tR 16 ?_
 refine tR 17 ?_
 refine tR 18 ?_
 refine tW 19 (fun K hK => ?_)
 go_simp
 refine (HLa.out _).mono ?_
 rintro e w5 ⟨rfl, rfl⟩
 go_wp2_with fail
 refine hK.out _ _ hHeld (fun hHeld => ?_)
 clear hK K
 refine tW 20 (fun K hK => ?_)
 go_simp
 refine hK.out _ _ hHeld (fun hHeld => ?_)
 clear hK K
 refine tR 21 ?_
 refine wpAnyH_done (by kernel_rfl) ?_ _
 refine NoPanic.normal ?_
 first | rw [← hgo2] | rw [show min (num - x.s.cu) la = (if la < num - x.s.cu then la else num - x.s.cu) by (split <;> omega), ← hgo2]
 have hgb : 0 ≤ go ∧ go ≤ num - x.s.cu := by rw [hgo2]; split <;> omega
 clear hgo2 hHeld hla2 HLa hS0
 have body0 := HR.out.keep (Below.refl _ _).drew
 have l4 : w.cell? ⟨g, k * 7 + 4, none⟩ = some (.int .i64 x.s.lo) := by rw [row_cell HR.out.srow.sb hk (by omega), HX.out]; rfl
 have fr := fun o => World.ownsRow.frozenAt HR.out.srow.sb o
 have hw2 : IntKind.i64.wrap (x.s.lo + go) = x.s.lo + go := by rw [IntKind.wrap_i64]; omega
 obtain ⟨U1, hU1⟩ : ∃ U, w.drew.setCell ⟨g, k * 7 + 4, none⟩ (.int .i64 (x.s.lo + go)) = U := ⟨_, rfl⟩
 have body1 := body0.put hk (by omega) (by omega) (r := 4) (x.s.lo + go)
 rw [hU1] at body1
 have hb1 : Below B w U1 := by rw [← hU1]; exact ((Below.refl _ _).drew).setCell (p := ⟨g, k * 7 + 4, none⟩) (row_lt HR.out.srow.sb (q := g) rfl).1 _
 have hk1 : k < (putS ys k 4 (x.s.lo + go)).length := by rw [putS_len]; exact hk
 have hg1 : sg (putS ys k 4 (x.s.lo + go)) k = putA x 4 (x.s.lo + go) := by rw [putS_get hk, if_pos rfl, HX.out]
 go_upto_region 2 with fail
 try rw [hU1]
 clear hU1 l4 fr body0 hw2
 have c5 : U1.cell? ⟨g, k * 7 + 5, none⟩ = some (.int .i64 x.s.pa) := by rw [row_cell body1.srow.sb hk1 (by omega), hg1]; rfl
 have c2 : U1.cell? ⟨g, k * 7 + 2, none⟩ = some (.int .i64 x.s.cu) := by rw [row_cell body1.srow.sb hk1 (by omega), hg1]; rfl
 have fr := fun o => World.ownsRow.frozenAt body1.srow.sb o
 have hS1 : U1.cell? ⟨g, k * 7 + 2, none⟩ = some (.int .i64 x.s.cu) ∧ True := ⟨c2, True.intro⟩
 have hw3 : IntKind.i64.wrap (num - x.s.cu - go) = num - x.s.cu - go := by rw [IntKind.wrap_i64]; omega
 have hw4 : IntKind.i64.wrap (x.s.pa + (num - x.s.cu - go)) = x.s.pa + (num - x.s.cu - go) := by rw [IntKind.wrap_i64]; omega
 obtain ⟨U2, hU2⟩ : ∃ U, U1.drew.setCell ⟨g, k * 7 + 5, none⟩ (.int .i64 (x.s.pa + (num - x.s.cu - go))) = U := ⟨_, rfl⟩
 have body2 := (body1.keep (Below.refl _ _).drew).put hk1 (by omega) (by omega) (r := 5) (x.s.pa + (num - x.s.cu - go))
 rw [hU2] at body2
 have hS2 : U2.cell? ⟨g, k * 7 + 2, none⟩ = some (.int .i64 x.s.cu) ∧ True := ⟨by rw [← hU2, World.cell?_setCell_other _ _ _ _ (by intro e; injection e with _ e2; omega)]; exact c2, True.intro⟩
 have hb2 : Below B U1 U2 := by rw [← hU2]; exact ((Below.refl _ _).drew).setCell (p := ⟨g, k * 7 + 5, none⟩) (row_lt body1.srow.sb (q := g) rfl).1 _
 have HB1 := hidOf body1
 have HB2 := hidOf body2
 clear body1 body2 c2
 refine wp_region_noPanic ?_
 refine wp_region_held_drew (S := fun w' => w'.cell? ⟨g, k * 7 + 2, none⟩ = some (.int .i64 x.s.cu) ∧ True) (by kernel_rfl) hS1 (fun hHeld => ?_)
 refine tK 0 ?_ rfl (by kernel_rfl) (by rfl) ?_ (by assumption) (fun _ _ _ h => h) ?_
 case refine_2 => (intro w hSw; (try dsimp only at hSw); go_simp; try with_reducible rfl)
 simp only [Act.put, List.getElem_toArray, List.getElem_cons_zero, List.setIfInBounds_toArray, List.set_cons_zero, List.set_cons_succ]
 refine tR 1 ?_
 refine tR 2 ?_
 refine tR 4 ?_
 refine tR 5 ?_
 refine tR 6 ?_
 refine tR 7 ?_
 refine tR 8 ?_
 refine tR 9 ?_
 refine tR 10 ?_
 refine tR 11 ?_
 refine tW 3 (fun K hK => ?_)
 go_simp
 refine hK.out _ _ hHeld (fun hHeld => ?_)
 clear hK K
 refine tR 12 ?_
 refine tR 13 ?_
 refine tR 14 ?_
 refine tW 15 (fun K hK => ?_)
 go_simp
 refine hK.out _ _ hS2 (fun hHeld => ?_)
 clear hK K
 refine wpAnyH_done (by kernel_rfl) ?_ _
 refine NoPanic.normal ?_
 clear hU2 hS1 hHeld c5 fr hw3 hw4 HB1
 obtain ⟨y1, hy1⟩ : ∃ y, putS ys k 4 (x.s.lo + go) = y := ⟨_, rfl⟩
 rw [hy1] at HB2 hk1
 obtain ⟨y2, hy2⟩ : ∃ y, putS y1 k 5 (x.s.pa + (num - x.s.cu - go)) = y := ⟨_, rfl⟩
 rw [hy2] at HB2
 have hk2 : k < y2.length := by rw [← hy2, putS_len]; exact hk1
 have e2 := hS2.1
 have fr2 := fun o => World.ownsRow.frozenAt HB2.out.srow.sb o
 obtain ⟨U3, hU3⟩ : ∃ U, U2.setCell ⟨g, k * 7 + 2, none⟩ (.int .i64 num) = U := ⟨_, rfl⟩
 have body3 := HB2.out.put hk2 (by omega) (by omega) (r := 2) num
 rw [hU3] at body3
 have hb3 : Below B U2 U3 := by rw [← hU3]; exact (Below.refl _ _).setCell (p := ⟨g, k * 7 + 2, none⟩) (row_lt HB2.out.srow.sb (q := g) rfl).1 _
 have hv3 : ({ v with sb := putV (putV (putV v.sb k 4 (x.s.lo + go)) k 5 (x.s.pa + (num - x.s.cu - go))) k 2 num } : Rv) = skipV v k num := HSk.out.symm
 have body3' : RBody B b A P f (skipV v k num) (some ⟨g, 0, none⟩) s sc (putS y2 k 2 num) U3 := by rw [← hv3]; exact body3
 have HDr := hidOf (dropOld_any B b A P f (skipV v k num) (some ⟨g, 0, none⟩) s sc (putS y2 k 2 num) U3 body3' hs hse hcp d HD.out HO.out)
 have HYs := hidOf (show ∀ y, y ∈ putS y2 k 2 num → ∃ x, x ∈ ys ∧ y.n = x.n from fun y hy => by
  obtain ⟨a1, h1, _, n1, _⟩ := putS_mem hk2 y hy
  rw [← hy2] at h1
  obtain ⟨a2, h2, _, n2, _⟩ := putS_mem hk1 a1 h1
  rw [← hy1] at h2
  obtain ⟨a3, h3, _, n3, _⟩ := putS_mem hk a2 h2
  exact ⟨a3, h3, by rw [n1, n2, n3]⟩)
 have HBl := hidOf (show Below B w U3 from (hb1.trans hb2).trans hb3)
 have hBge := HR.out.wst.ge
 clear hy1 hy2 body3 body3' hv3 hb1 hb2 hb3 hS2
 go_wp2_with fail
 refine (HDr.out).mono ?_
 rintro e w6 ⟨rfl, P', body6, gr6⟩
 go_wp2_with fail
 go_end0
 exact ⟨rfl, P', _, body6, HYs.out, HBl.out.grown gr6 (by have h1 := HBl.out.size; have h2 := HR.out.wst.lt; omega) (fun j hj => by injection hj with hj; rw [← hj]; exact hBge)⟩
open Go.RowKit Go.Maps Pl Il
def PekDone (F : Nat) : Prop := ∀ (M : Rm) (v : Rv) (id : Int) (w : World), RIn w M v → RLe M 1048576 → RCap M → RWf v → (Lit.int .i64 id).wf = true → GOk w →
  Calls Tryz.prog F #[.agg #[.int .i64 v.cp, .int .i64 v.se, .slice M.ia M.i M.ic, .int .i64 v.nx, .slice M.sa M.s M.sc, .slice M.la M.l M.lc, .slice M.ga M.g M.gc, .bool v.cl], .int .i64 id] w fun e w' => e = .returned (.tuple #[.agg #[.int .i64 (recT v id).kd, .int .i64 (recT v id).ms.1, .int .i64 (recT v id).ms.2.1, .string (recT v id).ms.2.2, .int .i64 (recT v id).ix, .int .i64 (recT v id).n], .int .i64 (recC v id)]) ∧ Below w.heap.size w w'
set_option maxRecDepth 100000 in
set_option maxHeartbeats 4000000 in
theorem implPeek_any : PekDone 36 := by
 intro M v id w hI hm hcap hw hid hG
 obtain ⟨U0, hU0⟩ : ∃ W, W = (w.alloc (.cells #[.int .i64 v.cp, .int .i64 v.se, .slice M.ia M.i M.ic, .int .i64 v.nx, .slice M.sa M.s M.sc, .slice M.la M.l M.lc, .slice M.ga M.g M.gc, .bool v.cl] 28)).alloc (.cells #[.int .i64 0, .int .i64 0, .int .i64 0, .string ⟨#[]⟩, .int .i64 0, .int .i64 0] 53) := ⟨_, rfl⟩
 have B0 : Below w.heap.size w U0 := by rw [hU0]; exact bl_alloc (bl_alloc (Below.refl _ _) _) _
 have A0 : BoxL w.heap.size (rC M v) U0 := by rw [hU0]; exact (BoxL.new w (rC M v) _).alloc _
 have T0 : BoxL (w.heap.size + 1) [.int .i64 0, .int .i64 0, .int .i64 0, .string ⟨#[]⟩, .int .i64 0, .int .i64 0] U0 := by rw [hU0]; exact boxT1 w _ [.int .i64 0, .int .i64 0, .int .i64 0, .string ⟨#[]⟩, .int .i64 0, .int .i64 0] _
 have HC := hidOf (implReceive_any M v id U0 (hI.keep B0) hm hcap hw hid (hG.keep B0))
 obtain ⟨v5, hv5⟩ : ∃ v5, recG v id = v5 := ⟨_, rfl⟩
 obtain ⟨td, htd⟩ : ∃ td, recT v id = td := ⟨_, rfl⟩
 obtain ⟨cd, hcd⟩ : ∃ cd, recC v id = cd := ⟨_, rfl⟩
 rw [hv5, htd, hcd] at HC
 rw [htd, hcd]
 obtain ⟨p0, p1, p2, p3, p4, p5, p6, p7⟩ := box8 A0
 clear hI hm hcap hw hid hG hv5 htd hcd
 go_enter Tryz.func36, Tryz.ntmps36
 go_upto_region 1 with fail
 rw [← hU0]
 clear hU0
 generalize hN1 : w.heap.size + 1 = N1 at T0 ⊢
 have HN1 := hidOf (show w.heap.size ≤ N1 by omega)
 clear hN1
 go_wp2_with fail
 refine (HC.out).mono ?_
 rintro e w1 ⟨M5, rfl, _, _, b1⟩
 obtain ⟨V2, hV2⟩ : ∃ V, V = (w1.alloc (.cells #[.int .i64 v5.cp, .int .i64 v5.se, .slice M5.ia M5.i M5.ic, .int .i64 v5.nx, .slice M5.sa M5.s M5.sc, .slice M5.la M5.l M5.lc, .slice M5.ga M5.g M5.gc, .bool v5.cl] 28)).alloc (.cells #[.int .i64 td.kd, .int .i64 td.ms.1, .int .i64 td.ms.2.1, .string td.ms.2.2, .int .i64 td.ix, .int .i64 td.n] 53) := ⟨_, rfl⟩
 have bV2 : Below w1.heap.size w1 V2 := by rw [hV2]; exact bl_alloc (bl_alloc (Below.refl _ _) _) _
 have K2 : BoxL (w1.heap.size + 1) [.int .i64 td.kd, .int .i64 td.ms.1, .int .i64 td.ms.2.1, .string td.ms.2.2, .int .i64 td.ix, .int .i64 td.n] V2 := by rw [hV2]; exact boxT1 w1 _ [.int .i64 td.kd, .int .i64 td.ms.1, .int .i64 td.ms.2.1, .string td.ms.2.2, .int .i64 td.ix, .int .i64 td.n] _
 have T2 := (T0.keep b1).keep bV2
 have B2 := bl_trans (bl_trans B0 b1) bV2
 clear p0 p1 p2 p3 p4 p5 p6 p7 A0 T0 B0 b1 bV2 HC
 go_upto_region 2 with fail
 rw [← hV2]
 clear hV2
 generalize hNT : w1.heap.size + 1 = NT at K2 ⊢
 clear hNT
 obtain ⟨u0, u1, u2, u3, u4, u5⟩ := box6 T2
 have uf := T2.fr
 obtain ⟨k0, k1, k2, k3, k4, k5⟩ := box6 K2
 obtain ⟨Zz, hZ⟩ : ∃ Z, ((((((V2.setCell ⟨N1, 0, none⟩ (.int .i64 td.kd)).setCell ⟨N1, 1, none⟩ (.int .i64 td.ms.1)).setCell ⟨N1, 2, none⟩ (.int .i64 td.ms.2.1)).setCell ⟨N1, 3, none⟩ (.string td.ms.2.2)).setCell ⟨N1, 4, none⟩ (.int .i64 td.ix)).setCell ⟨N1, 5, none⟩ (.int .i64 td.n)) = Z := ⟨_, rfl⟩
 have hZ2 : Zz = setL V2 N1 0 [.int .i64 td.kd, .int .i64 td.ms.1, .int .i64 td.ms.2.1, .string td.ms.2.2, .int .i64 td.ix, .int .i64 td.n] := by rw [← hZ]; rfl
 have TZ : BoxL N1 [.int .i64 td.kd, .int .i64 td.ms.1, .int .i64 td.ms.2.1, .string td.ms.2.2, .int .i64 td.ix, .int .i64 td.n] Zz := by rw [hZ2]; exact T2.setAll (us := [.int .i64 td.kd, .int .i64 td.ms.1, .int .i64 td.ms.2.1, .string td.ms.2.2, .int .i64 td.ix, .int .i64 td.n]) rfl
 have HBZ := hidOf (show Below w.heap.size w Zz by rw [hZ2]; exact setL_below HN1.out B2)
 obtain ⟨t0, t1, t2, t3, t4, t5⟩ := box6 TZ
 clear hZ2 TZ T2 K2 B2
 go_wp2_with fail
 clear hZ
 exact bodyPost_ret (v := .tuple #[.agg #[.int .i64 td.kd, .int .i64 td.ms.1, .int .i64 td.ms.2.1, .string td.ms.2.2, .int .i64 td.ix, .int .i64 td.n], .int .i64 cd]) (by simp [results, Tryz.results36, go_sem, t0, t1, t2, t3, t4, t5]) rfl ⟨rfl, HBZ.out⟩
end Go.Proofs.YtihdglmiecifjaaGreat
