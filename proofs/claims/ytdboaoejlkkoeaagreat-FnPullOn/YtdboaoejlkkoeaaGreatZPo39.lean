/-
  The specification's draws: a ring, a number of a subscriber, and how m
  A ring's subscriber by its Id, as the laws look it up
  The program's pulling: its states; what the reader does
  The program's pulling: what the reader does, whatever a round does
-/
import Derived.Test.YtdboaoejlkkoeaaGreatZPo38
namespace Go.Proofs.YtdboaoejlkkoeaaGreat
open Go.RowKit Go.Maps Pl Il Dr
def RidqP (w : World) (e : Ending) (w' : World) : Prop := ∃ (M : Rm) (v : Rv) (z n : Int), e = .returned (.tuple #[.agg #[.int .i64 v.cp, .int .i64 v.se, .slice M.ia M.i M.ic, .int .i64 v.nx, .slice M.sa M.s M.sc, .slice M.la M.l M.lc, .slice M.ga M.g M.gc, .bool v.cl], .int .i64 z, .int .i64 n]) ∧ RRow w.heap.size w' M v ∧ RLe M 66 ∧ RWf v ∧ (Lit.int .i64 z).wf = true ∧ (-2 ≤ n ∧ n ≤ 60) ∧ Below w.heap.size w w'
set_option maxRecDepth 100000 in
set_option maxHeartbeats 8000000 in
theorem drawPull_any (a : Option Addr) (len cap : Nat) (w : World) (hB : Bytes w.heap.size w a len cap) (hG : GOk w) :
  Calls Tryz.prog 30 #[.slice a len cap] w fun e w' => RidqP w e w' := by
 have bA : Below w.heap.size w (w.alloc (.cells #[.int .i64 0, .int .i64 0, .slice none 0 0, .int .i64 0, .slice none 0 0, .slice none 0 0, .slice none 0 0, .bool false] 28)) := bl_alloc (Below.refl _ _) _
 have hgl := hG.lt
 have HBy := hidOf (show len = 0 ∨ ∀ b off, a = some ⟨b, off, none⟩ → b ≠ w.heap.size from by
  obtain ⟨_, _, k | ⟨b, off, e, hb, _⟩⟩ := id hB
  ·exact .inl k
  ·exact .inr fun b' off' e' => by rw [e] at e'; cases e'; omega)
 go_enter Tryz.func30, Tryz.ntmps30
 go_wp2_with fail
 refine (new_any a len cap _ (hB.laterR bA _ (by simp))).mono ?_
 rintro e w1 ⟨rfl, hC, hb1⟩
 have r1 := (BoxL.new w zR 28).keep hb1
 have hb := bl_trans bA hb1
 have G1 := hG.keep hb
 clear hb1 bA hB
 simp only [World.size_alloc] at hC r1
 have hlt1 := hC.lt
 go_wp2_with fail
 refine (l9Some_any a len cap _ _ hC G1 (by omega)).mono ?_
 rintro e w2 ⟨M, v, rfl, hrow, hle, hwf, hd2⟩
 have hs2 := hd2.ex.size
 have r2 := r1.dr hd2 (by omega)
 have hB2 : Below w.heap.size w w2 := hb.trans (hd2.ex.below (by omega) hb.size)
 go_upto_region 3 with fail
 have ba := bl_alloc (Below.refl w2.heap.size w2) (.cells (rC M v).toArray 28)
 generalize hW3 : w2.alloc (.cells #[.int .i64 v.cp, .int .i64 v.se, .slice M.ia M.i M.ic, .int .i64 v.nx, .slice M.sa M.s M.sc, .slice M.la M.l M.lc, .slice M.ga M.g M.gc, .bool v.cl] 28) = W3
 rw [show w2.alloc (.cells (rC M v).toArray 28) = W3 from hW3] at ba
 have hx3 : BoxL w2.heap.size (rC M v) W3 := by rw [← hW3]; exact BoxL.new w2 (rC M v) _
 have hD3 : DrS (w.heap.size + 1) a len cap w w2.heap.size w1.heap.size M v W3 := ⟨hd2.cur.keep ba, bl_trans hB2 ba, hx3, hrow.keep ba⟩
 have r3 := r2.keep ba
 have hB3 := bl_trans hB2 ba
 have HId := hidOf (fun (u : World) (hu : DrS (w.heap.size + 1) a len cap w w2.heap.size w1.heap.size M v u) => l9Id_any a len cap (w.heap.size + 1) w1.heap.size M v u hu.cur hu.row (by omega) hle hwf)
 have HLe := hidOf hle
 have HWf := hidOf hwf
 have HBw := hidOf hb
 have HD3 := hidOf hD3
 have HR3 := hidOf r3
 obtain ⟨p0, p1, p2, p3, p4, p5, p6, p7⟩ := box8 hD3.box
 clear hW3 hx3 hb r1 r2 hd2 hrow hC G1 hle hwf hB2 ba hD3 hB3 r3
 go_wp2_with fail
 refine (HId.out _ HD3.out).mono ?_
 rintro e w4 ⟨z, rfl, hz, hd4⟩
 have hD4 := HD3.out.draw hd4 (by omega) (by omega) (by omega)
 have HR4 := hidOf (HR3.out.dr hd4 (by omega))
 have HZ := hidOf hz
 clear hd4 hz p0 p1 p2 p3 p4 p5 p6 p7 HD3 HR3
 have hS := hD4.drew.s
 have HPk := hidOf (fun (u : World) (b : Nat) (hu : Cur (w.heap.size + 1) a len cap u) (hb : b < u.heap.size) (hbc : b ≠ w.heap.size + 1) (hc : ∀ i, i < 10 → ∃ v : Int, u.cell? ⟨b, i, none⟩ = some (.int .i64 v) ∧ (-2 ≤ v ∧ v ≤ 60)) => pickIntP_any (fun x => -2 ≤ x ∧ x ≤ 60) a len cap (w.heap.size + 1) b 10 u hu hb hbc (by omega) (by omega) hc)
 go_upto_region 4 with fail
 refine wp_region_noPanic ?_
 refine wp_region_held_drew (S := fun u => DrC (w.heap.size + 1) a len cap w w2.heap.size w1.heap.size M v u) (by kernel_rfl) hS (fun hHeld => ?_)
 refine tK 0 ?_ rfl (by kernel_rfl) (by rfl) ?_ (by assumption) (fun _ _ _ h => h) ?_
 case refine_2 => (intro w hSw; (try dsimp only at hSw); go_simp; try with_reducible rfl)
 simp only [Act.put, List.getElem_toArray, List.getElem_cons_zero, List.setIfInBounds_toArray, List.set_cons_zero, List.set_cons_succ]
 refine tR 1 ?_
 refine tR 2 ?_
 refine tW 3 (fun K hK => ?_)
 go_simp
 have hHe := hHeld.2.2.2.2.2.2.2.2
 have hba := bl_alloc (Below.refl w4.drew.heap.size w4.drew) (.cells #[.int .i64 0, .int .i64 1, .int .i64 2, .int .i64 3, .int .i64 7, .int .i64 50, .int .i64 51, .int .i64 (-1), .int .i64 4, .int .i64 5] 3)
 have hD5 := hHe.keep hba
 refine hK.out _ _ hD5.s (fun hHeld => ?_)
 clear hK K
 refine tW 4 (fun K hK => ?_)
 go_simp
 refine (HPk.out _ w4.drew.heap.size hD5.cur (by simp) (by have := hHe.cur.lt; omega) (fun i hi => by
  rw [World.cell?_alloc_new]
  have h10 : i = 0 ∨ i = 1 ∨ i = 2 ∨ i = 3 ∨ i = 4 ∨ i = 5 ∨ i = 6 ∨ i = 7 ∨ i = 8 ∨ i = 9 := by omega
  rcases h10 with rfl | rfl | rfl | rfl | rfl | rfl | rfl | rfl | rfl | rfl
  ·exact ⟨0, rfl, by omega⟩
  ·exact ⟨1, rfl, by omega⟩
  ·exact ⟨2, rfl, by omega⟩
  ·exact ⟨3, rfl, by omega⟩
  ·exact ⟨7, rfl, by omega⟩
  ·exact ⟨50, rfl, by omega⟩
  ·exact ⟨51, rfl, by omega⟩
  ·exact ⟨-1, rfl, by omega⟩
  ·exact ⟨4, rfl, by omega⟩
  ·exact ⟨5, rfl, by omega⟩)).mono ?_
 rintro e w5 ⟨q, rfl, hq0, hd5⟩
 go_wp2_with fail
 have hD6 := hD5.draw hd5 (by omega) (by omega) (by omega)
 have r5 := ((HR4.out.keep (Below.refl _ _).drew).keep hba).dr hd5 (by omega)
 refine hK.out _ _ hD6.s (fun hHeld => ?_)
 clear hK K
 obtain ⟨t0, t1, t2, t3, t4, t5, t6, t7⟩ := box8 r5
 have rf := r5.fr
 have hD9 := hD6.res (by omega) (by omega) (by omega) HBy.out M v
 refine tW 5 (fun K hK => ?_)
 go_simp
 refine hK.out _ _ hD9.s (fun hHeld => ?_)
 clear hK K
 refine tR 6 ?_
 refine tR 7 ?_
 refine wpAnyH_done (by kernel_rfl) ?_ _
 refine NoPanic.normal ?_
 have x9 : BoxL w.heap.size (rC M v) (stR w5 w.heap.size M v) := by rw [stR_eq]; exact r5.setAll (us := rC M v) rfl
 have HF := hidOf (show RRow w.heap.size (stR w5 w.heap.size M v) M v ∧ Below w.heap.size w (stR w5 w.heap.size M v) from ⟨hD9.row.mono (by have := HBw.out.size; omega), hD9.bel⟩)
 have HQ := hidOf hq0
 obtain ⟨y0, y1, y2, y3, y4, y5, y6, y7⟩ := box8 x9
 clear hD9 hD5 hD6 hS hq0
 go_wp2_with fail
 exact bodyPost_ret (v := .tuple #[.agg #[.int .i64 v.cp, .int .i64 v.se, .slice M.ia M.i M.ic, .int .i64 v.nx, .slice M.sa M.s M.sc, .slice M.la M.l M.lc, .slice M.ga M.g M.gc, .bool v.cl], .int .i64 z, .int .i64 q]) (by simp [results, Tryz.results30, go_sem, t0, t1, t2, t3, t4, t5, t6, t7]) rfl ⟨M, v, z, q, rfl, HF.out.1, HLe.out, HWf.out, HZ.out, HQ.out, HF.out.2⟩
end Go.Proofs.YtdboaoejlkkoeaaGreat
namespace Go.Proofs.YtdboaoejlkkoeaaGreat
open Go.RowKit Go.Maps Pl Il
abbrev zS : List Value := [.int .i64 0, .int .i64 0, .int .i64 0, .int .i64 0, .int .i64 0, .int .i64 0, .slice none 0 0]
def SubOfP (M : Rm) (v : Rv) (id : Int) (e : Ending) : Prop :=
  (0 ≤ atR v.sb id → e = .returned (.tuple #[.agg #[.int .i64 (sg M.xs (atR v.sb id).toNat).s.id, .int .i64 (sg M.xs (atR v.sb id).toNat).s.st, .int .i64 (sg M.xs (atR v.sb id).toNat).s.cu, .int .i64 (sg M.xs (atR v.sb id).toNat).s.gt, .int .i64 (sg M.xs (atR v.sb id).toNat).s.lo, .int .i64 (sg M.xs (atR v.sb id).toNat).s.pa, .slice (sg M.xs (atR v.sb id).toNat).a (sg M.xs (atR v.sb id).toNat).n (sg M.xs (atR v.sb id).toNat).c], .bool true])) ∧
  (atR v.sb id < 0 → e = .returned (.tuple #[.agg #[.int .i64 0, .int .i64 0, .int .i64 0, .int .i64 0, .int .i64 0, .int .i64 0, .slice none 0 0], .bool false]))
set_option maxRecDepth 100000 in
set_option maxHeartbeats 4000000 in
theorem subOf_any (M : Rm) (v : Rv) (id : Int) (w : World) (hI : RIn w M v) (hm : RLe M 2097152) :
  Calls Tryz.prog 26 #[.agg #[.int .i64 v.cp, .int .i64 v.se, .slice M.ia M.i M.ic, .int .i64 v.nx, .slice M.sa M.s M.sc, .slice M.la M.l M.lc, .slice M.ga M.g M.gc, .bool v.cl], .int .i64 id] w fun e w' => SubOfP M v id e ∧ Below w.heap.size w w' := by
 obtain ⟨W0, hW0⟩ : ∃ W, W = (w.alloc (.cells #[.int .i64 v.cp, .int .i64 v.se, .slice M.ia M.i M.ic, .int .i64 v.nx, .slice M.sa M.s M.sc, .slice M.la M.l M.lc, .slice M.ga M.g M.gc, .bool v.cl] 28)).alloc (.cells #[.int .i64 0, .int .i64 0, .int .i64 0, .int .i64 0, .int .i64 0, .int .i64 0, .slice none 0 0] 41) := ⟨_, rfl⟩
 have b0 : Below w.heap.size w W0 := by rw [hW0]; exact bl_alloc (bl_alloc (Below.refl _ _) _) _
 have X0 : BoxL w.heap.size (rC M v) W0 := by rw [hW0]; exact (BoxL.new w (rC M v) _).alloc _
 have R0 : BoxL (w.heap.size + 1) zS W0 := by
  rw [hW0]
  have h := BoxL.new (w.alloc (.cells #[.int .i64 v.cp, .int .i64 v.se, .slice M.ia M.i M.ic, .int .i64 v.nx, .slice M.sa M.s M.sc, .slice M.la M.l M.lc, .slice M.ga M.g M.gc, .bool v.cl] 28)) zS 41
  simpa using h
 have HX0 := hidOf X0
 have HR0 := hidOf R0
 have HI := hidOf (hI.keep b0)
 have HB0 := hidOf b0
 have hms := hm.s
 have hsl : v.sb.length = M.s := by have h1 := hI.sb.len; rw [← hI.sv]; simp [svs, h1]
 have HSl := hidOf hsl
 have HSv := hidOf hI.sv
 have HXl := hidOf hI.sb.len
 have p4 := X0.cs 4 (by simp)
 simp only [List.getElem_cons_succ, List.getElem_cons_zero] at p4
 obtain ⟨r0, r1, r2, r3, r4, r5, r6⟩ : W0.cell? ⟨w.heap.size + 1, 0, none⟩ = some (.int .i64 0) ∧ W0.cell? ⟨w.heap.size + 1, 1, none⟩ = some (.int .i64 0) ∧ W0.cell? ⟨w.heap.size + 1, 2, none⟩ = some (.int .i64 0) ∧ W0.cell? ⟨w.heap.size + 1, 3, none⟩ = some (.int .i64 0) ∧ W0.cell? ⟨w.heap.size + 1, 4, none⟩ = some (.int .i64 0) ∧ W0.cell? ⟨w.heap.size + 1, 5, none⟩ = some (.int .i64 0) ∧ W0.cell? ⟨w.heap.size + 1, 6, none⟩ = some (.slice none 0 0) := ⟨R0.cs 0 (by simp), R0.cs 1 (by simp), R0.cs 2 (by simp), R0.cs 3 (by simp), R0.cs 4 (by simp), R0.cs 5 (by simp), R0.cs 6 (by simp)⟩
 have rf := R0.fr
 clear hI hm b0 X0 R0 hsl
 go_enter Tryz.func26, Tryz.ntmps26
 go_wp2_with fail
 rw [← hW0]
 clear hW0
 go_loopw [6] (fun i wr => wr = W0 ∧ ∃ k : Nat, k ≤ M.s ∧ i = .int .i64 (k : Int) ∧ ∀ j (hj : j < k), (v.sb.getD j Sb0).id ≠ id) (fun i _ => M.s - (intOf i).toNat)
 case atStart => exact ⟨rfl, 0, Nat.zero_le _, rfl, fun j hj => by omega⟩
 case round =>
  obtain ⟨hwr, k, hk, rfl, hno⟩ := hrel
  obtain rfl : W0 = wr := hwr.symm
  have HNo := hidOf hno
  clear hno
  by_cases hlt : k < M.s
  ·have hki : (k : Int) < (M.s : Int) := by omega
   obtain hr | ⟨b, off, e1, hb, hcell⟩ := HI.out.sb.row
   ·omega
   have hc := hcell k hlt
   have hxk : v.sb.getD k Sb0 = (sg M.xs k).s := by rw [← HSv.out]; exact sg_svs2 (by have := HXl.out; omega)
   have HXk := hidOf hxk
   obtain ⟨c0, c1, c2, c3, c4, c5, c6⟩ := hc
   rw [e1] at p4
   have HE1 := hidOf e1
   clear hcell hb e1 hxk
   by_cases he : (sg M.xs k).s.id = id
   ·have hat : atR v.sb id = (k : Int) := by
     have h1 := HSl.out
     refine atR_at (by omega) (fun j hj e => HNo.out j hj (by rw [get_sb (by omega)]; exact e)) ?_
     rw [← get_sb (by omega), HXk.out]
     exact he
    have he' : ((sg M.xs k).s.id == id) = true := by simp [he]
    obtain ⟨Z, hZ⟩ : ∃ Z, setL W0 (w.heap.size + 1) 0 (sC (sg M.xs k)) = Z := ⟨_, rfl⟩
    have hZx : BoxL (w.heap.size + 1) (sC (sg M.xs k)) Z := by rw [← hZ]; exact HR0.out.setAll (us := sC (sg M.xs k)) rfl
    have HBZ := hidOf (show Below w.heap.size w Z by rw [← hZ]; exact setL_below (by omega) HB0.out)
    have HAt := hidOf hat
    have z0 := hZx.cs 0 (by simp)
    have z1 := hZx.cs 1 (by simp)
    have z2 := hZx.cs 2 (by simp)
    have z3 := hZx.cs 3 (by simp)
    have z4 := hZx.cs 4 (by simp)
    have z5 := hZx.cs 5 (by simp)
    have z6 := hZx.cs 6 (by simp)
    simp only [List.getElem_cons_succ, List.getElem_cons_zero] at z0 z1 z2 z3 z4 z5 z6
    clear hat he hZx
    go_wp2_with fail
    change bodyPost _ _ _ _ _ (setL W0 (w.heap.size + 1) 0 (sC (sg M.xs k)))
    rw [hZ]
    exact bodyPost_ret (v := .tuple #[.agg #[.int .i64 (sg M.xs k).s.id, .int .i64 (sg M.xs k).s.st, .int .i64 (sg M.xs k).s.cu, .int .i64 (sg M.xs k).s.gt, .int .i64 (sg M.xs k).s.lo, .int .i64 (sg M.xs k).s.pa, .slice (sg M.xs k).a (sg M.xs k).n (sg M.xs k).c], .bool true]) (by simp [results, Tryz.results26, go_sem, z0, z1, z2, z3, z4, z5, z6]) rfl ⟨⟨fun _ => by rw [HAt.out]; rfl, fun h => by rw [HAt.out] at h; omega⟩, HBZ.out⟩
   ·have he' : ((sg M.xs k).s.id == id) = false := by simp [he]
    have HNe := hidOf he
    clear he
    go_wp2_with fail
    go_roundw
    case rel => exact ⟨by trivial, k + 1, hlt, by go_num, fun j hj => by
     rcases Nat.lt_succ_iff_lt_or_eq.1 hj with h | h
     ·exact HNo.out j h
     ·subst h; rw [HXk.out]; exact HNe.out⟩
    case measure => simp [intOf]; omega
  ·have hki : ¬ (k : Int) < (M.s : Int) := by omega
   have HAt := hidOf (show atR v.sb id = -1 from atR_none (fun j hj e => HNo.out j (by have := HSl.out; omega) (by rw [get_sb hj]; exact e)))
   have HBZ := hidOf (show Below w.heap.size w (setL W0 (w.heap.size + 1) 0 zS) from setL_below (by omega) HB0.out)
   obtain ⟨Z, hZ⟩ : ∃ Z, setL W0 (w.heap.size + 1) 0 zS = Z := ⟨_, rfl⟩
   have hZx : BoxL (w.heap.size + 1) zS Z := by rw [← hZ]; exact HR0.out.setAll (us := zS) rfl
   rw [hZ] at HBZ
   have z0 := hZx.cs 0 (by simp)
   have z1 := hZx.cs 1 (by simp)
   have z2 := hZx.cs 2 (by simp)
   have z3 := hZx.cs 3 (by simp)
   have z4 := hZx.cs 4 (by simp)
   have z5 := hZx.cs 5 (by simp)
   have z6 := hZx.cs 6 (by simp)
   simp only [List.getElem_cons_succ, List.getElem_cons_zero] at z0 z1 z2 z3 z4 z5 z6
   clear hZx
   go_wp2_with fail
   change bodyPost _ _ _ _ _ (setL W0 (w.heap.size + 1) 0 zS)
   rw [hZ]
   exact bodyPost_ret (v := .tuple #[.agg #[.int .i64 0, .int .i64 0, .int .i64 0, .int .i64 0, .int .i64 0, .int .i64 0, .slice none 0 0], .bool false]) (by simp [results, Tryz.results26, go_sem, z0, z1, z2, z3, z4, z5, z6]) rfl ⟨⟨fun h => by rw [HAt.out] at h; omega, fun _ => rfl⟩, HBZ.out⟩
end Go.Proofs.YtdboaoejlkkoeaaGreat
namespace Go.Proofs.YtdboaoejlkkoeaaGreat
open Go.RowKit Go.Maps Pl Il Go.Shelf
attribute [local go_sem] Oper.semAt_some
structure PSt where
  j : Nat
  u : Rv
  l : List Td
  c : Int
structure PCn where
  w : World
  B : Nat
  b : Nat
  A : Na
  g : Nat
  sz : Nat
  sc : Nat
  k : Nat
  most : Nat
  v : Rv
def PgB (C : PCn) (u : Rv) (W : World) : Prop := ∃ (P : Nat → Tm) (f : Nat) (ys : List Sa), RBody C.B C.b C.A P f u (some ⟨C.g, 0, none⟩) C.sz C.sc ys W ∧ (∀ y, y ∈ ys → y.n ≤ 2097152) ∧ C.k < ys.length ∧ (∀ y, y ∈ ys → ∀ q, (Value.slice y.a y.n y.c).ownBlock = some q → q < C.w.heap.size)
structure PgF (C : PCn) (l : List Td) (c : Int) (W : World) : Prop where
  mo : BoxL C.w.heap.size [.int .i64 (C.most : Int)] W
  li : ∃ (la : Option Addr) (lc : Nat), BoxL (C.w.heap.size + 1) [.slice la l.length lc] W ∧ W.ownsRow (C.w.heap.size + 5) 53 6 (.slice la l.length lc) l.length (dflat l)
  la : BoxL (C.w.heap.size + 2) [.int .i64 c] W
  rb : BoxL (C.w.heap.size + 3) [.pointer (some ⟨C.b, 0, none⟩)] W
  rs : BoxL (C.w.heap.size + 4) [.pointer (some ⟨C.g, C.k * 7, none⟩)] W
  bel : Below C.B C.w W
structure PCk (C : PCn) : Prop where
  bB : C.B ≤ C.b ∧ C.b < C.w.heap.size
  gB : C.B ≤ C.g ∧ C.g < C.w.heap.size
  Al : (∀ q, (Value.slice C.A.a C.A.n C.A.c).ownBlock = some q → q < C.w.heap.size) ∧ (∀ q, (Value.slice C.A.a' C.A.n' C.A.c').ownBlock = some q → q < C.w.heap.size)
  sz : C.sz ≤ 2097152
  gl : GOk C.w ∧ 0 < C.B
  mo : C.most ≤ 50
def PgI (C : PCn) (s : PSt) (W : World) : Prop := PulI C.most C.v C.k s.j s.u s.l s.c ∧ RdOk s.u C.k ∧ PgB C s.u W ∧ PgF C s.l s.c W ∧ (s.c = 0 → s.l.length < C.most)
def PgM (C : PCn) (s : PSt) (args : Array Value) (W : World) : Prop := PulI C.most C.v C.k s.j s.u s.l s.c ∧ RdOk s.u C.k ∧ PgB C s.u W ∧ ∃ (l0 : List Td) (t : Td), args = #[.agg #[.int .i64 t.kd, .int .i64 t.ms.1, .int .i64 t.ms.2.1, .string t.ms.2.2, .int .i64 t.ix, .int .i64 t.n], .int .i64 s.c] ∧ s.l = (if s.c = 0 then l0 ++ [t] else l0) ∧ l0.length < C.most ∧ PgF C l0 0 W
def PgX (C : PCn) (c : Code) (s : PSt) (W : World) : Prop := c = .exit 0 ∧ PulI C.most C.v C.k s.j s.u s.l s.c ∧ RdOk s.u C.k ∧ PgB C s.u W ∧ PgF C s.l s.c W ∧ s.c = 0 ∧ s.l.length = C.most
theorem GOk.belowB {w w' : World} {B : Nat} (h : GOk w) (hb : Below B w w') (hg : 0 < B) : GOk w' := by
  obtain ⟨m, hm⟩ := h
  exact ⟨m, by rw [hb.cell (p := ⟨0, 0, none⟩) hg]; exact hm⟩
theorem PgF.grown {C : PCn} {l : List Td} {c : Int} {W W' : World} (h : PgF C l c W) (hC : PCk C) {q : Option Nat} (hg : W.grownBy W' q) (hq : ∀ r, q = some r → C.B ≤ r ∧ (r < C.w.heap.size ∨ C.w.heap.size + 5 ≤ r)) (hl : ∀ r, q = some r → ∀ la lc, W.ownsRow (C.w.heap.size + 5) 53 6 (.slice la l.length lc) l.length (dflat l) → (Value.slice la l.length lc).ownBlock ≠ some r) : PgF C l c W' := by
  have ne : ∀ i, i < 5 → q ≠ some (C.w.heap.size + i) := fun i hi e => by have := hq _ e; omega
  obtain ⟨la, lc, h1, h2⟩ := h.li
  exact ⟨h.mo.grown hg (ne 0 (by omega)), ⟨la, lc, h1.grown hg (ne 1 (by omega)), rowG h2 hg fun r e => hl r e la lc h2⟩, h.la.grown hg (ne 2 (by omega)), h.rb.grown hg (ne 3 (by omega)), h.rs.grown hg (ne 4 (by omega)), h.bel.grown hg (by have := h.bel.size; have := hC.bB; omega) fun r e => (hq r e).1⟩
theorem PgF.low {C : PCn} {l : List Td} {c : Int} {W W' : World} (h : PgF C l c W) (hC : PCk C) {r : Nat} (hg : W.grownBy W' (some r)) (h1 : C.B ≤ r) (h2 : r < C.w.heap.size) : PgF C l c W' :=
  h.grown hC hg (fun q e => by injection e with e; subst e; exact ⟨h1, .inl h2⟩) (fun q e la lc ho e2 => by injection e with e; subst e; have := (row_lt ho e2).1; omega)
theorem PgF.keep {C : PCn} {l : List Td} {c : Int} {W W' : World} (h : PgF C l c W) (hC : PCk C) (hb : Below W.heap.size W W') : PgF C l c W' := by
  obtain ⟨la, lc, h1, h2⟩ := h.li
  exact ⟨h.mo.keep hb, ⟨la, lc, h1.keep hb, ownsRow_keep h2 hb⟩, h.la.keep hb, h.rb.keep hb, h.rs.keep hb, h.bel.trans (hb.mono (by have := h.bel.size; have := hC.bB; omega))⟩
theorem PgB.keep {C : PCn} {u : Rv} {W W' : World} (h : PgB C u W) (hb : Below W.heap.size W W') : PgB C u W' := by
  obtain ⟨P, f, ys, h1, h2⟩ := h
  exact ⟨P, f, ys, h1.keep hb, h2⟩
open Go.RowKit Go.Maps Pl Il Go.Shelf
attribute [local go_sem] Oper.semAt_some
def lenAt (N : Nat) (w : World) : Nat := match w.cell? ⟨N, 0, none⟩ with | some (.slice _ n _) => n | _ => 0
theorem PgF.lenAt {C : PCn} {l : List Td} {c : Int} {W : World} (h : PgF C l c W) : lenAt (C.w.heap.size + 1) W = l.length := by
  obtain ⟨la, lc, h1, _⟩ := h.li
  have := h1.cs 0 (by simp)
  simp at this
  unfold Go.Proofs.YtdboaoejlkkoeaaGreat.lenAt
  rw [this]
set_option maxRecDepth 100000 in
set_option maxHeartbeats 8000000 in
theorem reader1_any (C : PCn) (hC : PCk C) (n : Nat) (s0 : PSt) (hs0 : s0.c = 0) :
  SeqSt Fence.wide n Tryz.prog 180 #[.pointer (some ⟨C.w.heap.size + 3, 0, none⟩), .pointer (some ⟨C.w.heap.size + 4, 0, none⟩)] (C.w.heap.size + 5) (PgI C) (PgM C) (fun s => s.c ≠ 0) s0 := by
 intro l J K Z W hJI hK hJJ hY h0
 obtain ⟨N3, hN3⟩ : ∃ N, C.w.heap.size + 3 = N := ⟨_, rfl⟩
 obtain ⟨N4, hN4⟩ : ∃ N, C.w.heap.size + 4 = N := ⟨_, rfl⟩
 rw [hN3, hN4]
 have HN := hidOf (And.intro hN3 hN4)
 have HC := hidOf hC
 have HJI := hidOf hJI
 have HK := hidOf hK
 have HJJ := hidOf hJJ
 have HY := hidOf hY
 clear hC hJI hK hJJ hY hN3 hN4
 refine callsIn_of_wp Tryz.func180 rfl trivial ?_ rfl
 simp only [Tryz.ntmps180, List.size_toArray, List.length_cons, List.length_nil, Nat.reduceAdd, Nat.reduceSub, Array.replicate_succ, Array.replicate_zero, List.push_toArray, List.append_toArray, List.nil_append, List.cons_append]
 gi_wp2_with fail
 gi_loopw [] (fun wr => ∃ s, J s wr ∧ s.c = 0) (fun wr => C.most - lenAt (C.w.heap.size + 1) wr)
 case atStart => exact ⟨s0, h0, hs0⟩
 case round =>
  rename_i wr
  clear h0 hs0
  obtain ⟨s, hJ, hc⟩ := hrel
  obtain ⟨hin, hrd, ⟨P, f, ys, hR, hyn, hky, hlow⟩, hF, hnf⟩ := HJI.out s wr hJ
  have hC := HC.out
  have p3 : wr.cell? ⟨N3, 0, none⟩ = some (.pointer (some ⟨C.b, 0, none⟩)) := by rw [← HN.out.1]; simpa using hF.rb.cs 0 (by simp)
  have p4 : wr.cell? ⟨N4, 0, none⟩ = some (.pointer (some ⟨C.g, C.k * 7, none⟩)) := by rw [← HN.out.2]; simpa using hF.rs.cs 0 (by simp)
  have HRd := hidOf (read_any C.B C.b C.A P f s.u C.g C.sz C.sc ys C.k wr hR hrd hky hyn (hC.gl.1.belowB hF.bel hC.gl.2) hC.gl.2)
  obtain ⟨d, hd, ho, htr⟩ := rd_first hrd hR.se
  have HD := hidOf (And.intro hd (And.intro ho htr))
  have HS := hidOf (And.intro hin (And.intro hrd (And.intro hyn (And.intro hky (And.intro hlow (And.intro hF (And.intro (hnf hc) (And.intro hc hJ))))))))
  clear hin hrd hyn hky hlow hF hnf hC hd ho htr hR hc hJ
  gi_wp2_with fail
  refine ⟨trivial, (fun h => by cases h), (callsIn_wide.2 HRd.out).mono ?_⟩
  rintro e w2 ⟨rfl, R2, gr2⟩
  have hC := HC.out
  have HS' := HS.out
  have F2 := HS'.2.2.2.2.2.1.low hC gr2 hC.gB.1 hC.gB.2
  clear HS'
  obtain ⟨td, htd⟩ : ∃ td, readT s.u (s.u.sb.getD C.k Sb0) = td := ⟨_, rfl⟩
  obtain ⟨cd, hcd⟩ : ∃ cd, readC s.u (s.u.sb.getD C.k Sb0) = cd := ⟨_, rfl⟩
  rw [htd, hcd]
  have HT := hidOf (And.intro htd hcd)
  clear htd hcd HRd p3 p4
  obtain ⟨V2, hV2⟩ : ∃ V, V = w2.alloc (.cells #[.int .i64 td.kd, .int .i64 td.ms.1, .int .i64 td.ms.2.1, .string td.ms.2.2, .int .i64 td.ix, .int .i64 td.n] 53) := ⟨_, rfl⟩
  have b2 : Below w2.heap.size w2 V2 := by rw [hV2]; exact bl_alloc (Below.refl _ _) _
  have T2 : BoxL w2.heap.size [.int .i64 td.kd, .int .i64 td.ms.1, .int .i64 td.ms.2.1, .string td.ms.2.2, .int .i64 td.ix, .int .i64 td.n] V2 := by rw [hV2]; exact BoxL.new w2 [.int .i64 td.kd, .int .i64 td.ms.1, .int .i64 td.ms.2.1, .string td.ms.2.2, .int .i64 td.ix, .int .i64 td.n] _
  have F3 := F2.keep hC b2
  have q3 : V2.cell? ⟨N3, 0, none⟩ = some (.pointer (some ⟨C.b, 0, none⟩)) := by rw [← HN.out.1]; simpa using F3.rb.cs 0 (by simp)
  have R3 := R2.keep b2
  have HDr := hidOf (dropOld_any C.B C.b C.A P f (rdV s.u C.k) (some ⟨C.g, 0, none⟩) C.sz C.sc (ysS ys C.k (readS s.u (s.u.sb.getD C.k Sb0))) V2 R3 hC.sz HS.out.2.1.se HS.out.2.1.cp d HD.out.1 HD.out.2.1)
  rw [hV2] at q3
  have hsz : wr.heap.size ≤ w2.heap.size := gr2.size
  have HV := hidOf hV2
  have HF3 := hidOf F3
  have HT2 := hidOf T2
  have HG2 := hidOf (And.intro gr2 b2)
  have HWs := hidOf (show C.w.heap.size + 5 ≤ w2.heap.size by have := HS.out.2.2.2.2.2.1.rs.lt; omega)
  clear F2 R2 gr2 hC b2 T2 F3 R3 hsz
  gi_wp2_with fail
  rw [← HV.out]
  refine ⟨trivial, (fun h => by cases h), (callsIn_wide.2 HDr.out).mono ?_⟩
  rintro e w5 ⟨rfl, P', R5, gr5⟩
  have hC := HC.out
  have hbw : C.b < w2.heap.size := by have := HWs.out; have := hC.bB; omega
  have T5 := HT2.out.grown gr5 (fun e => by injection e with e; omega)
  have F5 := HF3.out.low hC gr5 hC.bB.1 hC.bB.2
  obtain ⟨u0, u1, u2, u3, u4, u5⟩ := box6 T5
  have hstp : StpF (C.w.heap.size + 5) wr w5 := by
   refine ⟨Nat.le_trans HG2.out.1.size (Nat.le_trans HG2.out.2.size gr5.size), fun i hi hl => ?_⟩
   have e1 := HG2.out.1.block i hl (fun e => by injection e with e; have := hC.gB; omega)
   have e2 := HG2.out.2.block i (Nat.lt_of_lt_of_le hl HG2.out.1.size)
   have e3 := gr5.block i (Nat.lt_of_lt_of_le hl (Nat.le_trans HG2.out.1.size HG2.out.2.size)) (fun e => by injection e with e; have := hC.bB; omega)
   rw [e3, e2, e1]
  obtain ⟨hin, hrd, hyn, hky, hlow, hF, hlt, hc, hJ⟩ := HS.out
  obtain ⟨s', hs'⟩ : ∃ s' : PSt, s' = ⟨s.j + 1, trimR (rdV s.u C.k), if cd = 0 then s.l ++ [td] else s.l, cd⟩ := ⟨_, rfl⟩
  have hM : PgM C s' #[.agg #[.int .i64 td.kd, .int .i64 td.ms.1, .int .i64 td.ms.2.1, .string td.ms.2.2, .int .i64 td.ix, .int .i64 td.n], .int .i64 cd] w5 := by
   rw [hs']
   refine ⟨?_, rd_again hrd, ⟨P', f + d, ysS ys C.k (readS s.u (s.u.sb.getD C.k Sb0)), ?_, ?_, ?_, ?_⟩, s.l, td, rfl, rfl, hlt, ?_⟩
   ·have h := (show PulI C.most C.v C.k s.j s.u s.l 0 by rw [hc] at hin; exact hin).next (by have := hin.len; have := (hin.go hc).1; omega)
    rw [HT.out.1, HT.out.2] at h
    exact h
   ·rw [HD.out.2.2]; exact R5
   ·intro y hy; obtain ⟨x, hx, e⟩ := ysS_mem hky y hy; rw [e]; exact hyn x hx
   ·rw [ysS_len]; exact hky
   ·intro y hy q e
    rcases List.mem_or_eq_of_mem_set hy with h' | h'
    ·exact hlow y h' q e
    ·rw [h'] at e; exact hlow (sg ys C.k) (sg_mem hky) q e
   ·rw [hc] at F5; exact F5
  obtain ⟨fn, tmps, assign, body, hy, hRd⟩ := HY.out s' _ w5 (HK.out s wr s' _ w5 hJ hM hstp)
  have HM2 := hidOf (And.intro hM (And.intro hstp (And.intro hs' hlt)))
  have HLen := hidOf hF.lenAt
  clear hM hstp hs' hin hrd hyn hky hlow hF hlt hc hJ F5 T5 gr5 R5 hC hbw HDr q3
  gi_wp2_with fail
  refine ⟨fun h => (by cases h), hRd.mono ?_⟩
  clear hRd hy
  rintro e W3 (⟨rfl, hJ3⟩ | ⟨rfl, hZ3⟩)
  ·by_cases hcd : cd = 0
   ·subst hcd
    gi_wp2_with fail
    go_roundw
    case rel => exact ⟨s', hJ3, by rw [HM2.out.2.2.1]⟩
    case measure =>
     have h3 := (HJI.out s' W3 hJ3).2.2.2.1.lenAt
     have h1 := HLen.out
     have h4 := HM2.out.2.2.2
     rw [h3, h1, HM2.out.2.2.1]
     simp
     omega
   ·gi_wp2_with fail
    refine bodyPost_ret (results_none rfl _ _ _) rfl ?_
    exact ⟨⟨_, rfl⟩, .inl ⟨s', by rw [HM2.out.2.2.1]; exact hcd, hJ3⟩⟩
  ·gi_wp2_with fail
   refine bodyPost_ret (results_none rfl _ _ _) rfl ?_
   exact ⟨⟨_, rfl⟩, .inr ⟨s', hZ3⟩⟩
end Go.Proofs.YtdboaoejlkkoeaaGreat
namespace Go.Proofs.YtdboaoejlkkoeaaGreat
open Go.RowKit Pl Il
set_option maxHeartbeats 1000000 in
theorem specPasses_any (a : Option Addr) (m cap : Nat) (ts : List Tm) (k n : Int) (s : ByteArray) (w : World) (hI : TmAt w a m ts) (hm : m ≤ 9223372036854775807) (hs : s.size ≤ maxLen) :
    Calls Tryz.prog 27 #[.slice a m cap, .agg #[.int .i64 k, .int .i64 n, .string s]] w fun e w' => e = .returned (.bool (passM ts k n s)) ∧ Below w.heap.size w w' := by
  obtain ⟨W0, hW0⟩ : ∃ W, W = w.alloc (.cells #[.int .i64 k, .int .i64 n, .string s] 30) := ⟨_, rfl⟩
  have b0 : Below w.heap.size w W0 := by rw [hW0]; exact bl_alloc (Below.refl _ _) _
  have x0 : Box3 w.heap.size (.int .i64 k) (.int .i64 n) (.string s) W0 := by rw [hW0]; exact Box3.new w _ _ _ _
  have HF := hidOf (specFilterOk_any a m cap ts W0 (hI.keep b0) hm)
  have HX := hidOf x0
  have HB0 := hidOf b0
  have HI := hidOf (hI.keep b0)
  clear hI b0 x0
  cases hok : okF ts
  · have HQ := hidOf (show passM ts k n s = false by simp [passM, hok])
    rw [hok] at HF
    clear hok
    go_enter Tryz.func27, Tryz.ntmps27
    go_wp2_with fail
    rw [← hW0]
    clear hW0
    refine (HF.out).mono ?_
    rintro e w1 ⟨rfl, hb1⟩
    have HB1 := hidOf (bl_trans HB0.out hb1)
    clear hb1 HF HB0
    go_wp2
    go_ret
    exact ⟨rbool HQ.out.symm, HB1.out⟩
  rw [hok] at HF
  have HOK := hidOf hok
  clear hok
  go_enter Tryz.func27, Tryz.ntmps27
  go_wp2_with fail
  rw [← hW0]
  clear hW0
  refine (HF.out).mono ?_
  rintro e w1 ⟨rfl, hb1⟩
  have HX1 := hidOf (HX.out.keep hb1)
  have HI1 := hidOf (HI.out.keep hb1)
  have HB1 := hidOf (bl_trans HB0.out hb1)
  clear hb1 HF HB0 HX HI
  obtain ⟨_, p0, p1, p2, pf⟩ := id HX1.out
  go_wp2_with fail
  refine (specMsgOk_any k n s _ hs).mono ?_
  rintro e w2 ⟨rfl, hb2⟩
  have HX2 := hidOf (HX1.out.keep hb2)
  have HI2 := hidOf (HI1.out.keep hb2)
  have HB2 := hidOf (bl_trans HB1.out hb2)
  clear hb2 HB1 HX1 HI1 p0 p1 p2 pf
  cases ho : okB k n s
  · have HQ := hidOf (show passM ts k n s = false by simp [passM, ho])
    clear ho
    go_wp2
    go_ret
    exact ⟨rbool HQ.out.symm, HB2.out⟩
  · have HQ := hidOf (show passM ts k n s = passP ts (bdOf k n s) by simp [passM, HOK.out, ho])
    have HC := hidOf (l8Left_any a m cap ts k n s w2 HI2.out HOK.out ho)
    obtain ⟨_, p0, p1, p2, pf⟩ := id HX2.out
    clear ho
    go_wp2_with fail
    refine (HC.out).mono ?_
    rintro e w3 ⟨rfl, hb3⟩
    have HB3 := hidOf (bl_trans HB2.out hb3)
    clear hb3 HC HB2 p0 p1 p2 pf
    go_wp2
    go_ret
    exact ⟨rbool HQ.out.symm, HB3.out⟩
end Go.Proofs.YtdboaoejlkkoeaaGreat
