/-
  The specification's l9Trim: what is ahead of the oldest goes
-/
import Derived.Test.YtdboaoejlkkoeaaGreatZPu20
namespace Go.Proofs.YtdboaoejlkkoeaaGreat
open Go.RowKit Pl Il
def trimR (v : Rv) : Rv := if v.se - oldR v < (v.it.length : Int) then { v with it := v.it.drop (v.it.length - (v.se - oldR v).toNat) } else v
theorem RRow.items {B : Nat} {w' : World} {M : Rm} {v : Rv} {ia : Option Addr} {i ic : Nat} {ts : List Tm} (h : RRow B w' M v) (ho : w'.ownsRow B 30 3 (.slice ia i ic) i (qflat ts)) (hts : ∀ p, p ∈ ts → p.2.2.size ≤ maxLen) (hn : ∀ q, (Value.slice ia i ic).ownBlock = some q → some q ∉ blkR M) : RRow B w' { M with ia := ia, i := i, ic := ic } { v with it := ts } := by
  have hA : AptP _ _ _ _ _ := apt_iff.1 h.apt
  have inX : ∀ y, y ∈ M.xs.map (fun x => (Value.slice x.a x.n x.c).ownBlock) → y ∈ blkR M := fun y hy => by
    unfold blkR
    exact List.mem_cons_of_mem _ (List.mem_cons_of_mem _ (List.mem_cons_of_mem _ (List.mem_cons_of_mem _ hy)))
  refine ⟨ho, hts, h.sb, h.fl, h.fls, h.sv, h.ln, h.gs, apt_iff.2 ⟨fun b e e' => ?_, fun b e e' => ?_, fun b e e' => ?_, fun x hx b e e' => ?_, hA.sl, hA.sg, hA.sx, hA.lg, hA.lx, hA.gx, hA.xx⟩⟩
  · exact hn b e (by rw [← e']; simp [blkR])
  · exact hn b e (by rw [← e']; simp [blkR])
  · exact hn b e (by rw [← e']; simp [blkR])
  · exact hn b e (by rw [← e']; exact inX x hx)
abbrev TrS (N : Nat) (M : Rm) (v : Rv) (u : World) : Prop := u.cell? ⟨N, 0, none⟩ = some (.int .i64 v.cp) ∧ u.cell? ⟨N, 1, none⟩ = some (.int .i64 v.se) ∧ u.cell? ⟨N, 2, none⟩ = some (.slice M.ia M.i M.ic) ∧ u.cell? ⟨N, 3, none⟩ = some (.int .i64 v.nx) ∧ u.cell? ⟨N, 4, none⟩ = some (.slice M.sa M.s M.sc) ∧ u.cell? ⟨N, 5, none⟩ = some (.slice M.la M.l M.lc) ∧ u.cell? ⟨N, 6, none⟩ = some (.slice M.ga M.g M.gc) ∧ u.cell? ⟨N, 7, none⟩ = some (.bool v.cl)
theorem cellT {u u' : World} {b o : Nat} {x : Value} (h : u.cell? ⟨b, o, none⟩ = some x) (hb : Below u.heap.size u u') : u'.cell? ⟨b, o, none⟩ = some x := by rw [hb.cell (p := ⟨b, o, none⟩) (World.block_lt_of_cell? _ _ h)]; exact h
theorem TrS.keep {N : Nat} {M : Rm} {v : Rv} {u u' : World} (h : TrS N M v u) (hb : Below u.heap.size u u') : TrS N M v u' := by
  obtain ⟨h0, h1, h2, h3, h4, h5, h6, h7⟩ := h
  exact ⟨cellT h0 hb, cellT h1 hb, cellT h2 hb, cellT h3 hb, cellT h4 hb, cellT h5 hb, cellT h6 hb, cellT h7 hb⟩
theorem BoxL.trS {N : Nat} {M : Rm} {v : Rv} {u : World} (h : BoxL N (rC M v) u) : TrS N M v u := by
  have p0 := h.cs 0 (by simp)
  have p1 := h.cs 1 (by simp)
  have p2 := h.cs 2 (by simp)
  have p3 := h.cs 3 (by simp)
  have p4 := h.cs 4 (by simp)
  have p5 := h.cs 5 (by simp)
  have p6 := h.cs 6 (by simp)
  have p7 := h.cs 7 (by simp)
  simp at p0 p1 p2 p3 p4 p5 p6 p7
  exact ⟨p0, p1, p2, p3, p4, p5, p6, p7⟩
theorem blk_items {M : Rm} {ia : Option Addr} {i ic N : Nat} (h : some N ∉ blkR M) (hq : ∀ q, (Value.slice ia i ic).ownBlock = some q → q ≠ N) : some N ∉ blkR { M with ia := ia, i := i, ic := ic } := fun hm => by
  unfold blkR at hm h
  simp only [List.mem_cons] at hm h
  rcases hm with e | hm
  · exact hq N e.symm rfl
  · exact h (.inr hm)
def TrimQ (B : Nat) (w : World) (M : Rm) (v : Rv) (e : Ending) (w' : World) : Prop := ∃ (ia : Option Addr) (i ic : Nat), e = .returned (.agg #[.int .i64 v.cp, .int .i64 v.se, .slice ia i ic, .int .i64 v.nx, .slice M.sa M.s M.sc, .slice M.la M.l M.lc, .slice M.ga M.g M.gc, .bool v.cl]) ∧ RRow B w' { M with ia := ia, i := i, ic := ic } (trimR v) ∧ i ≤ M.i ∧ Below w.heap.size w w' ∧ ((Value.slice ia i ic).ownBlock = (Value.slice M.ia M.i M.ic).ownBlock ∨ ∀ q, (Value.slice ia i ic).ownBlock = some q → w.heap.size ≤ q)
set_option maxRecDepth 100000 in
set_option maxHeartbeats 8000000 in
theorem l9Trim_any2 (B : Nat) (M : Rm) (v : Rv) (w : World) (hrow : RRow B w M v) (hB : B ≤ w.heap.size) (hm : RLe M 2097152) (hse : 0 ≤ v.se ∧ v.se ≤ 1000000000) (hcp : 1 ≤ v.cp ∧ v.cp ≤ 16) (hold : oldR v ≤ v.se) (h0 : 0 ≤ oldR v) :
  Calls Tryz.prog 86 #[.agg #[.int .i64 v.cp, .int .i64 v.se, .slice M.ia M.i M.ic, .int .i64 v.nx, .slice M.sa M.s M.sc, .slice M.la M.l M.lc, .slice M.ga M.g M.gc, .bool v.cl]] w fun e w' => TrimQ B w M v e w' := by
 obtain ⟨U0, hU0⟩ : ∃ W, W = (w.alloc (.cells #[.int .i64 v.cp, .int .i64 v.se, .slice M.ia M.i M.ic, .int .i64 v.nx, .slice M.sa M.s M.sc, .slice M.la M.l M.lc, .slice M.ga M.g M.gc, .bool v.cl] 28)).alloc (.cells #[.int .i64 0, .int .i64 0, .slice none 0 0, .int .i64 0, .slice none 0 0, .slice none 0 0, .slice none 0 0, .bool false] 28) := ⟨_, rfl⟩
 have B0 : Below w.heap.size w U0 := by rw [hU0]; exact bl_alloc (bl_alloc (Below.refl _ _) _) _
 have z0 : U0.heap.size = w.heap.size + 2 := by rw [hU0]; simp
 have A0 : BoxL w.heap.size (rC M v) U0 := by rw [hU0]; exact (BoxL.new w (rC M v) _).alloc _
 have R0 : BoxL (w.heap.size + 1) [.int .i64 0, .int .i64 0, .slice none 0 0, .int .i64 0, .slice none 0 0, .slice none 0 0, .slice none 0 0, .bool false] U0 := by
  rw [hU0]
  have h := BoxL.new (w.alloc (.cells (rC M v).toArray 28)) [.int .i64 0, .int .i64 0, .slice none 0 0, .int .i64 0, .slice none 0 0, .slice none 0 0, .slice none 0 0, .bool false] 28
  simpa using h
 have hH := A0.trS
 have HO := hidOf (l9Oldest_any M v U0.drew ((hrow.keep (bl_trans B0 (Below.refl _ _).drew)).own.rin) hm hse hcp)
 have HMr := hidOf hrow
 have hit : M.i = v.it.length := by have := hrow.own.it.tm.len; omega
 have HIt := hidOf hit
 obtain ⟨nn, hnn⟩ : ∃ n : Nat, v.se - oldR v = (n : Int) := ⟨(v.se - oldR v).toNat, by omega⟩
 have HNN := hidOf hnn
 have hsz0 : w.heap.size + 1 < U0.heap.size := by omega
 have ow : ∀ x, oldR v = x → v.se - x = (nn : Int) := fun x h => by rw [← h]; exact hnn
 generalize hov : oldR v = ov at *
 have hsub : v.se - ov = (nn : Int) := ow _ rfl
 have HOv := hidOf hov
 have hnw : nn ≤ 1000000000 := by omega
 have hwr : IntKind.i64.wrap (nn : Int) = (nn : Int) := by rw [IntKind.wrap_i64]; omega
 clear hov ow hold h0 hnn hit hrow
 go_enter Tryz.func86, Tryz.ntmps86
 go_upto_region 1 with fail
 rw [← hU0]
 clear hU0
 refine wp_region_noPanic ?_
 refine wp_region_held_drew (S := fun w' => TrS w.heap.size M v w') (by kernel_rfl) (TrS.keep hH (Below.refl _ _).drew) (fun hHeld => ?_)
 refine tK 0 ?_ rfl (by kernel_rfl) (by rfl) ?_ (by assumption) (fun _ _ _ h => h) ?_
 case refine_2 => (intro w hSw; (try dsimp only at hSw); go_simp; try with_reducible rfl)
 simp only [Act.put, List.getElem_toArray, List.getElem_cons_zero, List.setIfInBounds_toArray, List.set_cons_zero, List.set_cons_succ]
 refine tR 1 ?_
 refine tR 2 ?_
 refine tW 3 (fun K hK => ?_)
 go_simp
 refine (HO.out).mono ?_
 rintro e w1 ⟨rfl, b1⟩
 go_wp2_with fail
 refine hK.out _ _ (TrS.keep hHeld b1) (fun hHeld => ?_)
 clear hK K
 refine tR 4 ?_
 refine tR 5 ?_
 refine wpAnyH_done (by kernel_rfl) ?_ _
 refine NoPanic.normal ?_
 have A1 := A0.keep (bl_trans (Below.refl _ _).drew b1)
 have R1 := R0.keep (bl_trans (Below.refl _ _).drew b1)
 have B1 : Below w.heap.size w w1 := bl_trans B0 (bl_trans (Below.refl _ _).drew b1)
 have hs1 : w.heap.size + 2 ≤ w1.heap.size := by have h := b1.size; have e : U0.drew.heap.size = U0.heap.size := rfl; omega
 have HRow1 := hidOf (HMr.out.keep B1)
 clear A0 R0 B0 b1 HO z0 hsz0 hHeld hH
 have p0 := A1.cs 0 (by simp)
 have p1 := A1.cs 1 (by simp)
 have p2 := A1.cs 2 (by simp)
 have p3 := A1.cs 3 (by simp)
 have p4 := A1.cs 4 (by simp)
 have p5 := A1.cs 5 (by simp)
 have p6 := A1.cs 6 (by simp)
 have p7 := A1.cs 7 (by simp)
 simp at p0 p1 p2 p3 p4 p5 p6 p7
 by_cases hgt : nn < M.i
 ·have hgt' : ((nn : Int) < (M.i : Int)) := by omega
  obtain ⟨mm, hmm⟩ : ∃ mm : Nat, M.i = mm + nn := ⟨M.i - nn, by omega⟩
  have hcap : M.i ≤ M.ic := HMr.out.cap.1
  obtain ⟨bi, hia⟩ : ∃ bi, M.ia = some ⟨bi, 0, none⟩ := by
   obtain ⟨_, ⟨e, e0⟩ | ⟨g, cp, cur, e, _⟩⟩ := HMr.out.it
   ·omega
   ·injection e with e1; exact ⟨g, e1⟩
  have hTm : TmAt w1 (some ⟨bi, 0, none⟩) M.i v.it := by have h := HRow1.out.own.it.tm; rw [hia] at h; exact h
  have hmi : M.i ≤ 2097152 := hm.i
  have hsm : (M.i : Int) - (nn : Int) = (mm : Int) := by omega
  have hwm : IntKind.i64.wrap (mm : Int) = (mm : Int) := by rw [IntKind.wrap_i64]; omega
  have hle1 : (mm : Int) ≤ (M.i : Int) := by omega
  have HT := hidOf (show trimR v = { v with it := v.it.drop mm } by
   unfold trimR
   rw [HOv.out, if_pos (by have := HIt.out; omega), hsub, Int.toNat_natCast, show v.it.length - nn = mm by have := HIt.out; omega])
  obtain ⟨W3, hW3⟩ : ∃ W, W = w1.alloc (.cells #[] 30) := ⟨_, rfl⟩
  have b3 : Below w1.heap.size w1 W3 := by rw [hW3]; exact bl_alloc (Below.refl _ _) _
  have z3 : W3.heap.size = w1.heap.size + 1 := by rw [hW3]; simp
  have ho3 : W3.ownsRow w1.heap.size 30 3 (.slice (some ⟨w1.heap.size, 0, none⟩) 0 0) 0 (qflat []) := ⟨rfl, .inr ⟨w1.heap.size, 0, #[], rfl, Nat.le_refl _, by rw [hW3]; exact heap_alloc_new w1 _, Nat.le_refl _, Nat.zero_le _, rfl, rfl⟩⟩
  rw [hia] at p2
  have HSM := hidOf hsm
  have p2a : (w1.alloc (.cells #[] 30)).cell? ⟨w.heap.size, 2, none⟩ = some (.slice (some ⟨bi, 0, none⟩) M.i M.ic) := by rw [← hW3]; exact cellT p2 b3
  have hlenm : M.i - mm = nn := by omega
  have HMM := hidOf hmm
  have HIA := hidOf hia
  clear hsm hmm
  by_cases hic : M.ic = mm
  ·obtain ⟨a5, c5, w5, hr5, ho5, hg5, hl5⟩ := append_msgR w1.heap.size 0 _ [] (some ⟨bi, 0, none⟩) nn 0 (v.it.drop mm) W3 ho3 (by omega) ⟨by have := HMM.out; have := HIt.out; rw [List.length_drop]; omega, fun p hp => hTm.short p (List.mem_of_mem_drop hp), .inl (by have := HMM.out; omega)⟩ (by omega)
   rw [Nat.zero_add, List.nil_append] at ho5
   rw [Nat.zero_add] at hr5 hl5
   have hq5 : ∀ q, (Value.slice a5 nn c5).ownBlock = some q → w1.heap.size ≤ q := fun q e => (row_lt ho5 e).1
   have b5 : Below w1.heap.size w1 w5 := b3.grown hg5 (by omega) (fun j hj => (World.ownsRow.lt ho3 j hj).1)
   have A5 := A1.keep b5
   have R5 := R1.keep b5
   have B5 := bl_trans B1 b5
   have Hr5 := hidOf hr5
   clear hr5
   have HO5 := hidOf ho5
   have HQ5 := hidOf (show ∀ q, (Value.slice a5 nn c5).ownBlock = some q → w.heap.size ≤ q from fun q e => Nat.le_trans B1.size (hq5 q e))
   have HQ6 := hidOf hq5
   clear hq5 hl5 hg5 ho3 ho5
   have q0 := A5.cs 2 (by simp)
   have qf := A5.fr 2
   simp at q0
   rw [hia] at q0
   have hsm := HSM.out
   clear hia
   subst hW3
   clear z3
   obtain ⟨Y, hY⟩ : ∃ Y, w5.setCell ⟨w.heap.size, 2, none⟩ (.slice a5 nn c5) = Y := ⟨_, rfl⟩
   have XY := A5.set 2 (by simp) (.slice a5 nn c5)
   rw [hY] at XY
   have RY : BoxL (w.heap.size + 1) [.int .i64 0, .int .i64 0, .slice none 0 0, .int .i64 0, .slice none 0 0, .slice none 0 0, .slice none 0 0, .bool false] Y := by rw [← hY]; exact R5.far _ _ (by omega) _
   have gY : w5.grownBy Y (some w.heap.size) := by rw [← hY]; exact grown_setC _ _ _ _
   have BY : Below w.heap.size w Y := by rw [← hY]; exact B5.setCell (p := ⟨w.heap.size, 2, none⟩) (Nat.le_refl _) _
   have rowY := (HRow1.out.keep b5).grown gY (HMr.out.new (Nat.le_refl _))
   have itY : Y.ownsRow w1.heap.size 30 3 (.slice a5 nn c5) nn (qflat (v.it.drop mm)) := rowG HO5.out gY (fun q e e' => by injection e with e; have := HQ6.out q e'; omega)
   have HRow := hidOf (rowY.items (rowM itY (by omega)) (fun p hp => HMr.out.its p (List.mem_of_mem_drop hp)) (fun q e => HRow1.out.new (HQ6.out q e)))
   have HOut := hidOf (show some (w.heap.size + 1) ∉ blkR { M with ia := a5, i := nn, ic := c5 } from blk_items (HMr.out.new (by omega)) (fun q e => by have := HQ6.out q e; omega))
   have HBU := hidOf BY
   clear rowY itY gY BY A5 R5 b5 b3 hTm HO5
   have XY2 := XY
   clear XY
   have y0 := XY2.cs 0 (by simp)
   have y1 := XY2.cs 1 (by simp)
   have y2 := XY2.cs 2 (by simp)
   have y3 := XY2.cs 3 (by simp)
   have y4 := XY2.cs 4 (by simp)
   have y5 := XY2.cs 5 (by simp)
   have y6 := XY2.cs 6 (by simp)
   have y7 := XY2.cs 7 (by simp)
   simp at y0 y1 y2 y3 y4 y5 y6 y7
   have r0 := RY.cs 0 (by simp)
   have r1 := RY.cs 1 (by simp)
   have r2 := RY.cs 2 (by simp)
   have r3 := RY.cs 3 (by simp)
   have r4 := RY.cs 4 (by simp)
   have r5 := RY.cs 5 (by simp)
   have r6 := RY.cs 6 (by simp)
   have r7 := RY.cs 7 (by simp)
   have rf := RY.fr
   simp at r0 r1 r2 r3 r4 r5 r6 r7
   obtain ⟨Z, hZ⟩ : ∃ Z, ((((((((Y.setCell ⟨w.heap.size + 1, 0, none⟩ (.int .i64 v.cp)).setCell ⟨w.heap.size + 1, 1, none⟩ (.int .i64 v.se)).setCell ⟨w.heap.size + 1, 2, none⟩ (.slice a5 nn c5)).setCell ⟨w.heap.size + 1, 3, none⟩ (.int .i64 v.nx)).setCell ⟨w.heap.size + 1, 4, none⟩ (.slice M.sa M.s M.sc)).setCell ⟨w.heap.size + 1, 5, none⟩ (.slice M.la M.l M.lc)).setCell ⟨w.heap.size + 1, 6, none⟩ (.slice M.ga M.g M.gc)).setCell ⟨w.heap.size + 1, 7, none⟩ (.bool v.cl)) = Z := ⟨_, rfl⟩
   have hZ2 : Z = setL Y (w.heap.size + 1) 0 [.int .i64 v.cp, .int .i64 v.se, .slice a5 nn c5, .int .i64 v.nx, .slice M.sa M.s M.sc, .slice M.la M.l M.lc, .slice M.ga M.g M.gc, .bool v.cl] := by rw [← hZ]; rfl
   have XZ : BoxL (w.heap.size + 1) [.int .i64 v.cp, .int .i64 v.se, .slice a5 nn c5, .int .i64 v.nx, .slice M.sa M.s M.sc, .slice M.la M.l M.lc, .slice M.ga M.g M.gc, .bool v.cl] Z := by
    rw [← hZ]
    exact ((((((((RY.set 0 (by simp) _).set 1 (by simp) _).set 2 (by simp) _).set 3 (by simp) _).set 4 (by simp) _).set 5 (by simp) _).set 6 (by simp) _).set 7 (by simp) _)
   have gZ : (Y).grownBy Z (some (w.heap.size + 1)) := by rw [hZ2]; exact setL_grown ⟨rfl, rfl, rfl, Nat.le_refl _, fun _ _ _ => rfl⟩
   have hBZ : Below w.heap.size w Z := by rw [hZ2]; exact setL_below (by omega) HBU.out
   have t0 := XZ.cs 0 (by simp)
   have t1 := XZ.cs 1 (by simp)
   have t2 := XZ.cs 2 (by simp)
   have t3 := XZ.cs 3 (by simp)
   have t4 := XZ.cs 4 (by simp)
   have t5 := XZ.cs 5 (by simp)
   have t6 := XZ.cs 6 (by simp)
   have t7 := XZ.cs 7 (by simp)
   simp at t0 t1 t2 t3 t4 t5 t6 t7
   have HRZ := hidOf (HRow.out.grown gZ HOut.out)
   have HBZ := hidOf hBZ
   clear hZ2 XZ RY gZ hBZ
   go_wp2_with (first | (at_builtin; refine wpList_append_run rfl _ _ 24 rfl _ _ _ rfl rfl Hr5.out ?_) | fail)
   clear hZ
   exact bodyPost_ret (v := .agg #[.int .i64 v.cp, .int .i64 v.se, .slice a5 nn c5, .int .i64 v.nx, .slice M.sa M.s M.sc, .slice M.la M.l M.lc, .slice M.ga M.g M.gc, .bool v.cl]) (by simp [results, Tryz.results86, go_sem, t0, t1, t2, t3, t4, t5, t6, t7]) rfl (show TrimQ B w M v _ _ from ⟨a5, nn, c5, rfl, by rw [HT.out]; exact HRZ.out, by have := HMM.out; omega, HBZ.out, .inr HQ5.out⟩)
  ·obtain ⟨a5, c5, w5, hr5, ho5, hg5, hl5⟩ := append_msgR w1.heap.size 0 _ [] (some ⟨bi, mm * 3, none⟩) nn (M.ic - mm) (v.it.drop mm) W3 ho3 (by omega) (by have h := (hTm.keep b3).drop (k := mm) (by have := HMM.out; omega); rw [Nat.zero_add, show M.i - mm = nn by have := HMM.out; omega] at h; exact h) (by omega)
   rw [Nat.zero_add, List.nil_append] at ho5
   rw [Nat.zero_add] at hr5 hl5
   have hq5 : ∀ q, (Value.slice a5 nn c5).ownBlock = some q → w1.heap.size ≤ q := fun q e => (row_lt ho5 e).1
   have b5 : Below w1.heap.size w1 w5 := b3.grown hg5 (by omega) (fun j hj => (World.ownsRow.lt ho3 j hj).1)
   have A5 := A1.keep b5
   have R5 := R1.keep b5
   have B5 := bl_trans B1 b5
   have Hr5 := hidOf hr5
   clear hr5
   have HO5 := hidOf ho5
   have HQ5 := hidOf (show ∀ q, (Value.slice a5 nn c5).ownBlock = some q → w.heap.size ≤ q from fun q e => Nat.le_trans B1.size (hq5 q e))
   have HQ6 := hidOf hq5
   clear hq5 hl5 hg5 ho3 ho5
   have q0 := A5.cs 2 (by simp)
   have qf := A5.fr 2
   simp at q0
   rw [hia] at q0
   have hsm := HSM.out
   clear hia
   subst hW3
   clear z3
   obtain ⟨Y, hY⟩ : ∃ Y, w5.setCell ⟨w.heap.size, 2, none⟩ (.slice a5 nn c5) = Y := ⟨_, rfl⟩
   have XY := A5.set 2 (by simp) (.slice a5 nn c5)
   rw [hY] at XY
   have RY : BoxL (w.heap.size + 1) [.int .i64 0, .int .i64 0, .slice none 0 0, .int .i64 0, .slice none 0 0, .slice none 0 0, .slice none 0 0, .bool false] Y := by rw [← hY]; exact R5.far _ _ (by omega) _
   have gY : w5.grownBy Y (some w.heap.size) := by rw [← hY]; exact grown_setC _ _ _ _
   have BY : Below w.heap.size w Y := by rw [← hY]; exact B5.setCell (p := ⟨w.heap.size, 2, none⟩) (Nat.le_refl _) _
   have rowY := (HRow1.out.keep b5).grown gY (HMr.out.new (Nat.le_refl _))
   have itY : Y.ownsRow w1.heap.size 30 3 (.slice a5 nn c5) nn (qflat (v.it.drop mm)) := rowG HO5.out gY (fun q e e' => by injection e with e; have := HQ6.out q e'; omega)
   have HRow := hidOf (rowY.items (rowM itY (by omega)) (fun p hp => HMr.out.its p (List.mem_of_mem_drop hp)) (fun q e => HRow1.out.new (HQ6.out q e)))
   have HOut := hidOf (show some (w.heap.size + 1) ∉ blkR { M with ia := a5, i := nn, ic := c5 } from blk_items (HMr.out.new (by omega)) (fun q e => by have := HQ6.out q e; omega))
   have HBU := hidOf BY
   clear rowY itY gY BY A5 R5 b5 b3 hTm HO5
   have XY2 := XY
   clear XY
   have y0 := XY2.cs 0 (by simp)
   have y1 := XY2.cs 1 (by simp)
   have y2 := XY2.cs 2 (by simp)
   have y3 := XY2.cs 3 (by simp)
   have y4 := XY2.cs 4 (by simp)
   have y5 := XY2.cs 5 (by simp)
   have y6 := XY2.cs 6 (by simp)
   have y7 := XY2.cs 7 (by simp)
   simp at y0 y1 y2 y3 y4 y5 y6 y7
   have r0 := RY.cs 0 (by simp)
   have r1 := RY.cs 1 (by simp)
   have r2 := RY.cs 2 (by simp)
   have r3 := RY.cs 3 (by simp)
   have r4 := RY.cs 4 (by simp)
   have r5 := RY.cs 5 (by simp)
   have r6 := RY.cs 6 (by simp)
   have r7 := RY.cs 7 (by simp)
   have rf := RY.fr
   simp at r0 r1 r2 r3 r4 r5 r6 r7
   obtain ⟨Z, hZ⟩ : ∃ Z, ((((((((Y.setCell ⟨w.heap.size + 1, 0, none⟩ (.int .i64 v.cp)).setCell ⟨w.heap.size + 1, 1, none⟩ (.int .i64 v.se)).setCell ⟨w.heap.size + 1, 2, none⟩ (.slice a5 nn c5)).setCell ⟨w.heap.size + 1, 3, none⟩ (.int .i64 v.nx)).setCell ⟨w.heap.size + 1, 4, none⟩ (.slice M.sa M.s M.sc)).setCell ⟨w.heap.size + 1, 5, none⟩ (.slice M.la M.l M.lc)).setCell ⟨w.heap.size + 1, 6, none⟩ (.slice M.ga M.g M.gc)).setCell ⟨w.heap.size + 1, 7, none⟩ (.bool v.cl)) = Z := ⟨_, rfl⟩
   have hZ2 : Z = setL Y (w.heap.size + 1) 0 [.int .i64 v.cp, .int .i64 v.se, .slice a5 nn c5, .int .i64 v.nx, .slice M.sa M.s M.sc, .slice M.la M.l M.lc, .slice M.ga M.g M.gc, .bool v.cl] := by rw [← hZ]; rfl
   have XZ : BoxL (w.heap.size + 1) [.int .i64 v.cp, .int .i64 v.se, .slice a5 nn c5, .int .i64 v.nx, .slice M.sa M.s M.sc, .slice M.la M.l M.lc, .slice M.ga M.g M.gc, .bool v.cl] Z := by
    rw [← hZ]
    exact ((((((((RY.set 0 (by simp) _).set 1 (by simp) _).set 2 (by simp) _).set 3 (by simp) _).set 4 (by simp) _).set 5 (by simp) _).set 6 (by simp) _).set 7 (by simp) _)
   have gZ : (Y).grownBy Z (some (w.heap.size + 1)) := by rw [hZ2]; exact setL_grown ⟨rfl, rfl, rfl, Nat.le_refl _, fun _ _ _ => rfl⟩
   have hBZ : Below w.heap.size w Z := by rw [hZ2]; exact setL_below (by omega) HBU.out
   have t0 := XZ.cs 0 (by simp)
   have t1 := XZ.cs 1 (by simp)
   have t2 := XZ.cs 2 (by simp)
   have t3 := XZ.cs 3 (by simp)
   have t4 := XZ.cs 4 (by simp)
   have t5 := XZ.cs 5 (by simp)
   have t6 := XZ.cs 6 (by simp)
   have t7 := XZ.cs 7 (by simp)
   simp at t0 t1 t2 t3 t4 t5 t6 t7
   have HRZ := hidOf (HRow.out.grown gZ HOut.out)
   have HBZ := hidOf hBZ
   clear hZ2 XZ RY gZ hBZ
   go_wp2_with (first | (at_builtin; refine wpList_append_run rfl _ _ 24 rfl _ _ _ rfl rfl Hr5.out ?_) | fail)
   clear hZ
   exact bodyPost_ret (v := .agg #[.int .i64 v.cp, .int .i64 v.se, .slice a5 nn c5, .int .i64 v.nx, .slice M.sa M.s M.sc, .slice M.la M.l M.lc, .slice M.ga M.g M.gc, .bool v.cl]) (by simp [results, Tryz.results86, go_sem, t0, t1, t2, t3, t4, t5, t6, t7]) rfl (show TrimQ B w M v _ _ from ⟨a5, nn, c5, rfl, by rw [HT.out]; exact HRZ.out, by have := HMM.out; omega, HBZ.out, .inr HQ5.out⟩)
 ·have hgt' : ¬ ((nn : Int) < (M.i : Int)) := by omega
  have HT := hidOf (show trimR v = v by unfold trimR; rw [HOv.out, if_neg (by have := HIt.out; omega)])
  have HRow := HRow1
  have HOut := hidOf (show some (w.heap.size + 1) ∉ blkR M from HMr.out.new (by omega))
  have HBU := hidOf B1
  have r0 := R1.cs 0 (by simp)
  have r1 := R1.cs 1 (by simp)
  have r2 := R1.cs 2 (by simp)
  have r3 := R1.cs 3 (by simp)
  have r4 := R1.cs 4 (by simp)
  have r5 := R1.cs 5 (by simp)
  have r6 := R1.cs 6 (by simp)
  have r7 := R1.cs 7 (by simp)
  have rf := R1.fr
  simp at r0 r1 r2 r3 r4 r5 r6 r7
  obtain ⟨Z, hZ⟩ : ∃ Z, ((((((((w1.setCell ⟨w.heap.size + 1, 0, none⟩ (.int .i64 v.cp)).setCell ⟨w.heap.size + 1, 1, none⟩ (.int .i64 v.se)).setCell ⟨w.heap.size + 1, 2, none⟩ (.slice M.ia M.i M.ic)).setCell ⟨w.heap.size + 1, 3, none⟩ (.int .i64 v.nx)).setCell ⟨w.heap.size + 1, 4, none⟩ (.slice M.sa M.s M.sc)).setCell ⟨w.heap.size + 1, 5, none⟩ (.slice M.la M.l M.lc)).setCell ⟨w.heap.size + 1, 6, none⟩ (.slice M.ga M.g M.gc)).setCell ⟨w.heap.size + 1, 7, none⟩ (.bool v.cl)) = Z := ⟨_, rfl⟩
  have hZ2 : Z = setL w1 (w.heap.size + 1) 0 [.int .i64 v.cp, .int .i64 v.se, .slice M.ia M.i M.ic, .int .i64 v.nx, .slice M.sa M.s M.sc, .slice M.la M.l M.lc, .slice M.ga M.g M.gc, .bool v.cl] := by rw [← hZ]; rfl
  have XZ : BoxL (w.heap.size + 1) [.int .i64 v.cp, .int .i64 v.se, .slice M.ia M.i M.ic, .int .i64 v.nx, .slice M.sa M.s M.sc, .slice M.la M.l M.lc, .slice M.ga M.g M.gc, .bool v.cl] Z := by
   rw [← hZ]
   exact ((((((((R1.set 0 (by simp) _).set 1 (by simp) _).set 2 (by simp) _).set 3 (by simp) _).set 4 (by simp) _).set 5 (by simp) _).set 6 (by simp) _).set 7 (by simp) _)
  have gZ : (w1).grownBy Z (some (w.heap.size + 1)) := by rw [hZ2]; exact setL_grown ⟨rfl, rfl, rfl, Nat.le_refl _, fun _ _ _ => rfl⟩
  have hBZ : Below w.heap.size w Z := by rw [hZ2]; exact setL_below (by omega) HBU.out
  have t0 := XZ.cs 0 (by simp)
  have t1 := XZ.cs 1 (by simp)
  have t2 := XZ.cs 2 (by simp)
  have t3 := XZ.cs 3 (by simp)
  have t4 := XZ.cs 4 (by simp)
  have t5 := XZ.cs 5 (by simp)
  have t6 := XZ.cs 6 (by simp)
  have t7 := XZ.cs 7 (by simp)
  simp at t0 t1 t2 t3 t4 t5 t6 t7
  have HRZ := hidOf (HRow.out.grown gZ HOut.out)
  have HBZ := hidOf hBZ
  clear hZ2 XZ R1 gZ hBZ
  go_wp2_with fail
  clear hZ
  exact bodyPost_ret (v := .agg #[.int .i64 v.cp, .int .i64 v.se, .slice M.ia M.i M.ic, .int .i64 v.nx, .slice M.sa M.s M.sc, .slice M.la M.l M.lc, .slice M.ga M.g M.gc, .bool v.cl]) (by simp [results, Tryz.results86, go_sem, t0, t1, t2, t3, t4, t5, t6, t7]) rfl (show TrimQ B w M v _ _ from ⟨M.ia, M.i, M.ic, rfl, by rw [HT.out]; exact HRZ.out, Nat.le_refl _, HBZ.out, .inl rfl⟩)
end Go.Proofs.YtdboaoejlkkoeaaGreat
