/-
  The specification's draws: a ring and a message
  A ring's subscriber by its Id, as the laws look it up
  The plain mathematics of a ring: who waits still behind a sending has 
  The specification's Passes, and the walk of the law on Passes
-/
import Derived.Test.YtihdglmiecifjaaGreatZRn38
namespace Go.Proofs.YtihdglmiecifjaaGreat
open Go.RowKit Go.Maps Pl Il Dr
def RmP (w : World) (e : Ending) (w' : World) : Prop := ∃ (M : Rm) (v : Rv) (k n : Int) (s : ByteArray), e = .returned (.tuple #[.agg #[.int .i64 v.cp, .int .i64 v.se, .slice M.ia M.i M.ic, .int .i64 v.nx, .slice M.sa M.s M.sc, .slice M.la M.l M.lc, .slice M.ga M.g M.gc, .bool v.cl], .agg #[.int .i64 k, .int .i64 n, .string s]]) ∧ RRow w.heap.size w' M v ∧ RLe M 66 ∧ RWf v ∧ s.size ≤ 41 ∧ Below w.heap.size w w'
section
variable {c : Nat} {a : Option Addr} {len cap : Nat} {w : World} {N B : Nat} {M : Rm} {v : Rv} {u u' : World}
theorem DrS.setG (h : DrS c a len cap w N B M v u) (g : Nat) (hg : w.heap.size ≤ g) (hN : g ≠ N) (hc : g ≠ c) (hB : g < B) (hgb : len = 0 ∨ ∀ b off, a = some ⟨b, off, none⟩ → b ≠ g) (xs : List Value) : DrS c a len cap w N B M v (setL u g 0 xs) := by
  have hg2 : u.grownBy (setL u g 0 xs) (some g) := setL_grown ⟨rfl, rfl, rfl, Nat.le_refl _, fun _ _ _ => rfl⟩
  exact ⟨h.cur.grownQ hg2 hc hgb, setL_below hg h.bel, h.box.grown hg2 (by intro e; injection e with e; exact hN e), h.row.grown hg2 (h.row.out hB)⟩
end
set_option maxRecDepth 100000 in
set_option maxHeartbeats 16000000 in
theorem drawSend_any (a : Option Addr) (len cap : Nat) (w : World) (hB : Bytes w.heap.size w a len cap) (hG : GOk w) :
  Calls Tryz.prog 19 #[.slice a len cap] w fun e w' => RmP w e w' := by
 obtain ⟨A2, hA2⟩ : ∃ W, W = (w.alloc (.cells #[.int .i64 0, .int .i64 0, .slice none 0 0, .int .i64 0, .slice none 0 0, .slice none 0 0, .slice none 0 0, .bool false] 28)).alloc (.cells #[.int .i64 0, .int .i64 0, .string ⟨#[]⟩] 30) := ⟨_, rfl⟩
 have bA : Below w.heap.size w A2 := by rw [hA2]; exact bl_alloc (bl_alloc (Below.refl _ _) _) _
 have r0 : BoxL w.heap.size zR A2 := by rw [hA2]; exact (BoxL.new w zR 28).keep (bl_alloc (Below.refl _ _) _)
 have m0 : BoxL (w.heap.size + 1) [.int .i64 0, .int .i64 0, .string ⟨#[]⟩] A2 := by rw [hA2]; have h := BoxL.new (w.alloc (.cells #[.int .i64 0, .int .i64 0, .slice none 0 0, .int .i64 0, .slice none 0 0, .slice none 0 0, .slice none 0 0, .bool false] 28)) [.int .i64 0, .int .i64 0, .string ⟨#[]⟩] 30; rw [World.size_alloc] at h; exact h
 have sA : A2.heap.size = w.heap.size + 2 := by rw [hA2]; simp
 have hgl := hG.lt
 have HBy := hidOf (show (len = 0 ∨ ∀ b off, a = some ⟨b, off, none⟩ → b ≠ w.heap.size) ∧ (len = 0 ∨ ∀ b off, a = some ⟨b, off, none⟩ → b ≠ w.heap.size + 1) from by
  obtain ⟨_, _, k | ⟨b, off, e, hb, _⟩⟩ := id hB
  ·exact ⟨.inl k, .inl k⟩
  ·exact ⟨.inr fun b' off' e' => by rw [e] at e'; cases e'; omega, .inr fun b' off' e' => by rw [e] at e'; cases e'; omega⟩)
 have HB := hidOf hB
 have HG := hidOf hG
 have HbA := hidOf bA
 have HR0 := hidOf r0
 have HM0 := hidOf m0
 clear hB hG bA r0 m0
 go_enter Tryz.func19, Tryz.ntmps19
 go_upto_region 1 with fail
 try rw [← hA2]
 clear hA2
 go_wp2_with fail
 refine (new_any a len cap _ (HB.out.laterR HbA.out _ (by omega))).mono ?_
 rintro e w1 ⟨rfl, hC, hb1⟩
 have r1 := HR0.out.keep hb1
 have m1 := HM0.out.keep hb1
 have hb := bl_trans HbA.out (hb1.mono (by omega))
 have G1 := HG.out.keep hb
 rw [sA] at hC hb1 ⊢
 have hlt1 := hC.lt
 go_wp2_with fail
 refine (l9Some_any a len cap _ _ hC G1 (by omega)).mono ?_
 rintro e w2 ⟨M, v, rfl, hrow, hle, hwf, hd2⟩
 have hs2 := hd2.ex.size
 have r2 := r1.dr hd2 (by omega)
 have m2 := m1.dr hd2 (by omega)
 have hB2 : Below w.heap.size w w2 := hb.trans (hd2.ex.below (by omega) hb.size)
 go_upto_region 3 with fail
 have ba := bl_alloc (Below.refl w2.heap.size w2) (.cells (rC M v).toArray 28)
 generalize hW3 : w2.alloc (.cells #[.int .i64 v.cp, .int .i64 v.se, .slice M.ia M.i M.ic, .int .i64 v.nx, .slice M.sa M.s M.sc, .slice M.la M.l M.lc, .slice M.ga M.g M.gc, .bool v.cl] 28) = W3
 rw [show w2.alloc (.cells (rC M v).toArray 28) = W3 from hW3] at ba
 have hx3 : BoxL w2.heap.size (rC M v) W3 := by rw [← hW3]; exact BoxL.new w2 (rC M v) _
 have hD3 : DrS (w.heap.size + 2) a len cap w w2.heap.size w1.heap.size M v W3 := ⟨hd2.cur.keep ba, bl_trans hB2 ba, hx3, hrow.keep ba⟩
 have r3 := r2.keep ba
 have m3 := m2.keep ba
 have HLe := hidOf hle
 have HWf := hidOf hwf
 have HBw := hidOf hb
 clear hW3 hx3 hb r1 r2 m1 m2 hd2 hrow hC G1 hle hwf hB2 ba HG HB HR0 HM0 HbA hb1
 go_wp2_with fail
 refine (once_any a len cap _ _ _ hD3.cur (by omega) (by omega)).mono ?_
 rintro e w4 ⟨x, rfl, hd4⟩
 have hD4 := hD3.draw hd4 (by omega) (by omega) (by omega)
 have r4 := r3.dr hd4 (by omega)
 have m4 := m3.dr hd4 (by omega)
 clear hD3 r3 m3 hd4
 cases x
 ·go_upto_region 5 with fail
  have hS := hD4.drew.s
  refine wp_region_noPanic ?_
  refine wp_region_held_drew (S := fun u => DrC (w.heap.size + 2) a len cap w w2.heap.size w1.heap.size M v u) (by kernel_rfl) hS (fun hHeld => ?_)
  refine tK 0 ?_ rfl (by kernel_rfl) (by rfl) ?_ (by assumption) (fun _ _ _ h => h) ?_
  case refine_2 => (intro w hSw; (try dsimp only at hSw); go_simp; try with_reducible rfl)
  simp only [Act.put, List.getElem_toArray, List.getElem_cons_zero, List.setIfInBounds_toArray, List.set_cons_zero, List.set_cons_succ]
  refine tR 1 ?_
  refine tW 2 (fun K hK => ?_)
  go_simp
  refine (msg_any a len cap _ _ hD4.drew.cur).mono ?_
  rintro e w5 ⟨k, n, s, rfl, hsz, hd5⟩
  go_wp2_with fail
  have hD5 := hD4.drew.draw hd5 (by omega) (by omega) (by omega)
  have r5 := (r4.keep (Below.refl _ _).drew).dr hd5 (by omega)
  have m5 := (m4.keep (Below.refl _ _).drew).dr hd5 (by omega)
  refine hK.out _ _ hD5.s (fun hHeld => ?_)
  clear hK K hd5 r4 m4 hS hD4
  obtain ⟨t0, t1, t2, t3, t4, t5, t6, t7⟩ := box8 r5
  have rf := r5.fr
  have p0 := m5.cs 0 (by simp)
  have p1 := m5.cs 1 (by simp)
  have p2 := m5.cs 2 (by simp)
  have pf := m5.fr
  refine tW 3 (fun K hK => ?_)
  go_simp
  have hD9 := hD5.setG w.heap.size (Nat.le_refl _) (by omega) (by omega) (by omega) HBy.out.1 (rC M v)
  refine hK.out _ _ (by exact hD9.s) (fun hHeld => ?_)
  clear hK K
  refine tW 4 (fun K hK => ?_)
  go_simp
  have hD10 := hD9.setG (w.heap.size + 1) (by omega) (by omega) (by omega) (by omega) HBy.out.2 [.int .i64 k, .int .i64 n, .string s]
  refine hK.out _ _ (by exact hD10.s) (fun hHeld => ?_)
  clear hK K
  refine wpAnyH_done (by kernel_rfl) ?_ _
  refine NoPanic.normal ?_
  have x9 : BoxL w.heap.size (rC M v) (setL (stR w5 w.heap.size M v) (w.heap.size + 1) 0 [.int .i64 k, .int .i64 n, .string s]) := by exact ((by rw [stR_eq]; exact r5.setAll (us := rC M v) rfl : BoxL w.heap.size (rC M v) (stR w5 w.heap.size M v))).setFar (by omega)
  have y9 : BoxL (w.heap.size + 1) [.int .i64 k, .int .i64 n, .string s] (setL (stR w5 w.heap.size M v) (w.heap.size + 1) 0 [.int .i64 k, .int .i64 n, .string s]) := by rw [stR_eq]; exact (m5.setFar (by omega)).setAll (us := [.int .i64 k, .int .i64 n, .string s]) rfl
  have HF := hidOf (show RRow w.heap.size (setL (stR w5 w.heap.size M v) (w.heap.size + 1) 0 [.int .i64 k, .int .i64 n, .string s]) M v ∧ Below w.heap.size w (setL (stR w5 w.heap.size M v) (w.heap.size + 1) 0 [.int .i64 k, .int .i64 n, .string s]) from ⟨hD10.row.mono (by have := HBw.out.size; omega), hD10.bel⟩)
  obtain ⟨y0, y1, y2, y3, y4, y5, y6, y7⟩ := box8 x9
  have z0 := y9.cs 0 (by simp)
  have z1 := y9.cs 1 (by simp)
  have z2 := y9.cs 2 (by simp)
  clear hD10 hD9 hD5 x9 y9
  go_wp2_with fail
  exact bodyPost_ret (v := .tuple #[.agg #[.int .i64 v.cp, .int .i64 v.se, .slice M.ia M.i M.ic, .int .i64 v.nx, .slice M.sa M.s M.sc, .slice M.la M.l M.lc, .slice M.ga M.g M.gc, .bool v.cl], .agg #[.int .i64 k, .int .i64 n, .string s]]) (by simp [results, Tryz.results19, go_sem, t0, t1, t2, t3, t4, t5, t6, t7, p0, p1, p2]) rfl ⟨M, v, k, n, s, rfl, HF.out.1, HLe.out, HWf.out, by omega, HF.out.2⟩
 ·go_upto_region 4 with fail
  have hS := hD4.drew.s
  refine wp_region_noPanic ?_
  refine wp_region_held_drew (S := fun u => DrC (w.heap.size + 2) a len cap w w2.heap.size w1.heap.size M v u) (by kernel_rfl) hS (fun hHeld => ?_)
  refine tK 0 ?_ rfl (by kernel_rfl) (by rfl) ?_ (by assumption) (fun _ _ _ h => h) ?_
  case refine_2 => (intro w hSw; (try dsimp only at hSw); go_simp; try with_reducible rfl)
  simp only [Act.put, List.getElem_toArray, List.getElem_cons_zero, List.setIfInBounds_toArray, List.set_cons_zero, List.set_cons_succ]
  refine tR 1 ?_
  refine tW 2 (fun K hK => ?_)
  go_simp
  refine (anyMsg_any a len cap _ _ hD4.drew.cur).mono ?_
  rintro e w5 ⟨k, n, s, rfl, hsz, hd5⟩
  go_wp2_with fail
  have hD5 := hD4.drew.draw hd5 (by omega) (by omega) (by omega)
  have r5 := (r4.keep (Below.refl _ _).drew).dr hd5 (by omega)
  have m5 := (m4.keep (Below.refl _ _).drew).dr hd5 (by omega)
  refine hK.out _ _ hD5.s (fun hHeld => ?_)
  clear hK K hd5 r4 m4 hS hD4
  obtain ⟨t0, t1, t2, t3, t4, t5, t6, t7⟩ := box8 r5
  have rf := r5.fr
  have p0 := m5.cs 0 (by simp)
  have p1 := m5.cs 1 (by simp)
  have p2 := m5.cs 2 (by simp)
  have pf := m5.fr
  refine tW 3 (fun K hK => ?_)
  go_simp
  have hD9 := hD5.setG w.heap.size (Nat.le_refl _) (by omega) (by omega) (by omega) HBy.out.1 (rC M v)
  refine hK.out _ _ (by exact hD9.s) (fun hHeld => ?_)
  clear hK K
  refine tW 4 (fun K hK => ?_)
  go_simp
  have hD10 := hD9.setG (w.heap.size + 1) (by omega) (by omega) (by omega) (by omega) HBy.out.2 [.int .i64 k, .int .i64 n, .string s]
  refine hK.out _ _ (by exact hD10.s) (fun hHeld => ?_)
  clear hK K
  refine wpAnyH_done (by kernel_rfl) ?_ _
  refine NoPanic.normal ?_
  have x9 : BoxL w.heap.size (rC M v) (setL (stR w5 w.heap.size M v) (w.heap.size + 1) 0 [.int .i64 k, .int .i64 n, .string s]) := by exact ((by rw [stR_eq]; exact r5.setAll (us := rC M v) rfl : BoxL w.heap.size (rC M v) (stR w5 w.heap.size M v))).setFar (by omega)
  have y9 : BoxL (w.heap.size + 1) [.int .i64 k, .int .i64 n, .string s] (setL (stR w5 w.heap.size M v) (w.heap.size + 1) 0 [.int .i64 k, .int .i64 n, .string s]) := by rw [stR_eq]; exact (m5.setFar (by omega)).setAll (us := [.int .i64 k, .int .i64 n, .string s]) rfl
  have HF := hidOf (show RRow w.heap.size (setL (stR w5 w.heap.size M v) (w.heap.size + 1) 0 [.int .i64 k, .int .i64 n, .string s]) M v ∧ Below w.heap.size w (setL (stR w5 w.heap.size M v) (w.heap.size + 1) 0 [.int .i64 k, .int .i64 n, .string s]) from ⟨hD10.row.mono (by have := HBw.out.size; omega), hD10.bel⟩)
  obtain ⟨y0, y1, y2, y3, y4, y5, y6, y7⟩ := box8 x9
  have z0 := y9.cs 0 (by simp)
  have z1 := y9.cs 1 (by simp)
  have z2 := y9.cs 2 (by simp)
  clear hD10 hD9 hD5 x9 y9
  go_wp2_with fail
  exact bodyPost_ret (v := .tuple #[.agg #[.int .i64 v.cp, .int .i64 v.se, .slice M.ia M.i M.ic, .int .i64 v.nx, .slice M.sa M.s M.sc, .slice M.la M.l M.lc, .slice M.ga M.g M.gc, .bool v.cl], .agg #[.int .i64 k, .int .i64 n, .string s]]) (by simp [results, Tryz.results19, go_sem, t0, t1, t2, t3, t4, t5, t6, t7, p0, p1, p2]) rfl ⟨M, v, k, n, s, rfl, HF.out.1, HLe.out, HWf.out, by omega, HF.out.2⟩
end Go.Proofs.YtihdglmiecifjaaGreat
namespace Go.Proofs.YtihdglmiecifjaaGreat
open Go.RowKit Go.Maps Pl Il
abbrev zS : List Value := [.int .i64 0, .int .i64 0, .int .i64 0, .int .i64 0, .int .i64 0, .int .i64 0, .slice none 0 0]
def SubOfP (M : Rm) (v : Rv) (id : Int) (e : Ending) : Prop :=
  (0 ≤ atR v.sb id → e = .returned (.tuple #[.agg #[.int .i64 (sg M.xs (atR v.sb id).toNat).s.id, .int .i64 (sg M.xs (atR v.sb id).toNat).s.st, .int .i64 (sg M.xs (atR v.sb id).toNat).s.cu, .int .i64 (sg M.xs (atR v.sb id).toNat).s.gt, .int .i64 (sg M.xs (atR v.sb id).toNat).s.lo, .int .i64 (sg M.xs (atR v.sb id).toNat).s.pa, .slice (sg M.xs (atR v.sb id).toNat).a (sg M.xs (atR v.sb id).toNat).n (sg M.xs (atR v.sb id).toNat).c], .bool true])) ∧
  (atR v.sb id < 0 → e = .returned (.tuple #[.agg #[.int .i64 0, .int .i64 0, .int .i64 0, .int .i64 0, .int .i64 0, .int .i64 0, .slice none 0 0], .bool false]))
set_option maxRecDepth 100000 in
set_option maxHeartbeats 4000000 in
theorem subOf_any (M : Rm) (v : Rv) (id : Int) (w : World) (hI : RIn w M v) (hm : RLe M 2097152) :
  Calls Tryz.prog 26 #[.agg #[.int .i64 v.cp, .int .i64 v.se, .slice M.ia M.i M.ic, .int .i64 v.nx, .slice M.sa M.s M.sc, .slice M.la M.l M.lc, .slice M.ga M.g M.gc, .bool v.cl], .int .i64 id] w fun e w' => SubOfP M v id e ∧ Below w.heap.size w w' := by
 obtain ⟨W0, hW0⟩ : ∃ W, W = (w.alloc (.cells #[.int .i64 v.cp, .int .i64 v.se, .slice M.ia M.i M.ic, .int .i64 v.nx, .slice M.sa M.s M.sc, .slice M.la M.l M.lc, .slice M.ga M.g M.gc, .bool v.cl] 28)).alloc (.cells #[.int .i64 0, .int .i64 0, .int .i64 0, .int .i64 0, .int .i64 0, .int .i64 0, .slice none 0 0] 41) := ⟨_, rfl⟩
 have b0 : Below w.heap.size w W0 := by rw [hW0]; exact bl_alloc (bl_alloc (Below.refl _ _) _) _
 have X0 : BoxL w.heap.size (rC M v) W0 := by rw [hW0]; exact (BoxL.new w (rC M v) _).alloc _
 have R0 : BoxL (w.heap.size + 1) zS W0 := by
  rw [hW0]
  have h := BoxL.new (w.alloc (.cells #[.int .i64 v.cp, .int .i64 v.se, .slice M.ia M.i M.ic, .int .i64 v.nx, .slice M.sa M.s M.sc, .slice M.la M.l M.lc, .slice M.ga M.g M.gc, .bool v.cl] 28)) zS 41
  simpa using h
 have HX0 := hidOf X0
 have HR0 := hidOf R0
 have HI := hidOf (hI.keep b0)
 have HB0 := hidOf b0
 have hms := hm.s
 have hsl : v.sb.length = M.s := by have h1 := hI.sb.len; rw [← hI.sv]; simp [svs, h1]
 have HSl := hidOf hsl
 have HSv := hidOf hI.sv
 have HXl := hidOf hI.sb.len
 have p4 := X0.cs 4 (by simp)
 simp only [List.getElem_cons_succ, List.getElem_cons_zero] at p4
 obtain ⟨r0, r1, r2, r3, r4, r5, r6⟩ : W0.cell? ⟨w.heap.size + 1, 0, none⟩ = some (.int .i64 0) ∧ W0.cell? ⟨w.heap.size + 1, 1, none⟩ = some (.int .i64 0) ∧ W0.cell? ⟨w.heap.size + 1, 2, none⟩ = some (.int .i64 0) ∧ W0.cell? ⟨w.heap.size + 1, 3, none⟩ = some (.int .i64 0) ∧ W0.cell? ⟨w.heap.size + 1, 4, none⟩ = some (.int .i64 0) ∧ W0.cell? ⟨w.heap.size + 1, 5, none⟩ = some (.int .i64 0) ∧ W0.cell? ⟨w.heap.size + 1, 6, none⟩ = some (.slice none 0 0) := ⟨R0.cs 0 (by simp), R0.cs 1 (by simp), R0.cs 2 (by simp), R0.cs 3 (by simp), R0.cs 4 (by simp), R0.cs 5 (by simp), R0.cs 6 (by simp)⟩
 have rf := R0.fr
 clear hI hm b0 X0 R0 hsl
 go_enter Tryz.func26, Tryz.ntmps26
 go_wp2_with fail
 rw [← hW0]
 clear hW0
 go_loopw [6] (fun i wr => wr = W0 ∧ ∃ k : Nat, k ≤ M.s ∧ i = .int .i64 (k : Int) ∧ ∀ j (hj : j < k), (v.sb.getD j Sb0).id ≠ id) (fun i _ => M.s - (intOf i).toNat)
 case atStart => exact ⟨rfl, 0, Nat.zero_le _, rfl, fun j hj => by omega⟩
 case round =>
  obtain ⟨hwr, k, hk, rfl, hno⟩ := hrel
  obtain rfl : W0 = wr := hwr.symm
  have HNo := hidOf hno
  clear hno
  by_cases hlt : k < M.s
  ·have hki : (k : Int) < (M.s : Int) := by omega
   obtain hr | ⟨b, off, e1, hb, hcell⟩ := HI.out.sb.row
   ·omega
   have hc := hcell k hlt
   have hxk : v.sb.getD k Sb0 = (sg M.xs k).s := by rw [← HSv.out]; exact sg_svs2 (by have := HXl.out; omega)
   have HXk := hidOf hxk
   obtain ⟨c0, c1, c2, c3, c4, c5, c6⟩ := hc
   rw [e1] at p4
   have HE1 := hidOf e1
   clear hcell hb e1 hxk
   by_cases he : (sg M.xs k).s.id = id
   ·have hat : atR v.sb id = (k : Int) := by
     have h1 := HSl.out
     refine atR_at (by omega) (fun j hj e => HNo.out j hj (by rw [get_sb (by omega)]; exact e)) ?_
     rw [← get_sb (by omega), HXk.out]
     exact he
    have he' : ((sg M.xs k).s.id == id) = true := by simp [he]
    obtain ⟨Z, hZ⟩ : ∃ Z, setL W0 (w.heap.size + 1) 0 (sC (sg M.xs k)) = Z := ⟨_, rfl⟩
    have hZx : BoxL (w.heap.size + 1) (sC (sg M.xs k)) Z := by rw [← hZ]; exact HR0.out.setAll (us := sC (sg M.xs k)) rfl
    have HBZ := hidOf (show Below w.heap.size w Z by rw [← hZ]; exact setL_below (by omega) HB0.out)
    have HAt := hidOf hat
    have z0 := hZx.cs 0 (by simp)
    have z1 := hZx.cs 1 (by simp)
    have z2 := hZx.cs 2 (by simp)
    have z3 := hZx.cs 3 (by simp)
    have z4 := hZx.cs 4 (by simp)
    have z5 := hZx.cs 5 (by simp)
    have z6 := hZx.cs 6 (by simp)
    simp only [List.getElem_cons_succ, List.getElem_cons_zero] at z0 z1 z2 z3 z4 z5 z6
    clear hat he hZx
    go_wp2_with fail
    change bodyPost _ _ _ _ _ (setL W0 (w.heap.size + 1) 0 (sC (sg M.xs k)))
    rw [hZ]
    exact bodyPost_ret (v := .tuple #[.agg #[.int .i64 (sg M.xs k).s.id, .int .i64 (sg M.xs k).s.st, .int .i64 (sg M.xs k).s.cu, .int .i64 (sg M.xs k).s.gt, .int .i64 (sg M.xs k).s.lo, .int .i64 (sg M.xs k).s.pa, .slice (sg M.xs k).a (sg M.xs k).n (sg M.xs k).c], .bool true]) (by simp [results, Tryz.results26, go_sem, z0, z1, z2, z3, z4, z5, z6]) rfl ⟨⟨fun _ => by rw [HAt.out]; rfl, fun h => by rw [HAt.out] at h; omega⟩, HBZ.out⟩
   ·have he' : ((sg M.xs k).s.id == id) = false := by simp [he]
    have HNe := hidOf he
    clear he
    go_wp2_with fail
    go_roundw
    case rel => exact ⟨by trivial, k + 1, hlt, by go_num, fun j hj => by
     rcases Nat.lt_succ_iff_lt_or_eq.1 hj with h | h
     ·exact HNo.out j h
     ·subst h; rw [HXk.out]; exact HNe.out⟩
    case measure => simp [intOf]; omega
  ·have hki : ¬ (k : Int) < (M.s : Int) := by omega
   have HAt := hidOf (show atR v.sb id = -1 from atR_none (fun j hj e => HNo.out j (by have := HSl.out; omega) (by rw [get_sb hj]; exact e)))
   have HBZ := hidOf (show Below w.heap.size w (setL W0 (w.heap.size + 1) 0 zS) from setL_below (by omega) HB0.out)
   obtain ⟨Z, hZ⟩ : ∃ Z, setL W0 (w.heap.size + 1) 0 zS = Z := ⟨_, rfl⟩
   have hZx : BoxL (w.heap.size + 1) zS Z := by rw [← hZ]; exact HR0.out.setAll (us := zS) rfl
   rw [hZ] at HBZ
   have z0 := hZx.cs 0 (by simp)
   have z1 := hZx.cs 1 (by simp)
   have z2 := hZx.cs 2 (by simp)
   have z3 := hZx.cs 3 (by simp)
   have z4 := hZx.cs 4 (by simp)
   have z5 := hZx.cs 5 (by simp)
   have z6 := hZx.cs 6 (by simp)
   simp only [List.getElem_cons_succ, List.getElem_cons_zero] at z0 z1 z2 z3 z4 z5 z6
   clear hZx
   go_wp2_with fail
   change bodyPost _ _ _ _ _ (setL W0 (w.heap.size + 1) 0 zS)
   rw [hZ]
   exact bodyPost_ret (v := .tuple #[.agg #[.int .i64 0, .int .i64 0, .int .i64 0, .int .i64 0, .int .i64 0, .int .i64 0, .slice none 0 0], .bool false]) (by simp [results, Tryz.results26, go_sem, z0, z1, z2, z3, z4, z5, z6]) rfl ⟨⟨fun h => by rw [HAt.out] at h; omega, fun _ => rfl⟩, HBZ.out⟩
end Go.Proofs.YtihdglmiecifjaaGreat
namespace Go.Proofs.YtihdglmiecifjaaGreat
open Go.RowKit Pl Il
theorem trim_sb (v : Rv) : (trimR v).sb = v.sb := by unfold trimR; split <;> rfl
theorem trim_ln2 (v : Rv) : (trimR v).ln = v.ln := by unfold trimR; split <;> rfl
theorem trim_se2 (v : Rv) : (trimR v).se = v.se := by unfold trimR; split <;> rfl
theorem snd_at {v : Rv} {m : Tm} {id : Int} (h : okR restR v = true) (hid : id ∈ v.ln) :
    0 ≤ atR (sndB v.sb m v.ln) id ∧ (atR (sndB v.sb m v.ln) id).toNat < v.sb.length ∧ atR (sndB v.sb m v.ln) id = atR v.sb id ∧
    ((sndB v.sb m v.ln).getD (atR (sndB v.sb m v.ln) id).toNat Sb0) = if pasR (flAt v.sb id) m = false then passS (v.sb.getD (atR v.sb id).toNat Sb0) 1 else v.sb.getD (atR v.sb id).toNat Sb0 := by
  rw [okR_iff] at h
  obtain ⟨h, _⟩ := h
  have hnl : v.ln.Nodup := by have := h.nod; rw [List.nodup_append] at this; exact this.1
  have hml : ∀ y, y ∈ v.ln → y ∈ v.sb.map (·.id) := fun y hy => h.mem y (List.mem_append.2 (.inl hy))
  have he : atR (sndB v.sb m v.ln) id = atR v.sb id := atR_ids (sndB_ids _ _ _) id
  have h0 := at_mem (hml id hid)
  obtain ⟨h3, h4⟩ := at_id2 h0
  rw [he]
  refine ⟨h0, h3, rfl, ?_⟩
  have hg := snd_get h.inc m v.ln v.sb rfl hnl hml (atR v.sb id).toNat h3
  rw [h4] at hg
  refine hg.trans ?_
  have hfl : flAt v.sb id = (v.sb.getD (atR v.sb id).toNat Sb0).fl := rfl
  rw [hfl]
  by_cases k : pasR (v.sb.getD (atR v.sb id).toNat Sb0).fl m = false
  · rw [if_pos ⟨hid, k⟩, if_pos k]
  · rw [if_neg (fun z => k z.2), if_neg k]
theorem nb_line {v : Rv} {m : Tm} {id : Int} (h : okR restR v = true) (hid : id ∈ (trimR (sndV v m)).ln) :
    0 ≤ atR (trimR (sndV v m)).sb id ∧ (atR (trimR (sndV v m)).sb id).toNat < (trimR (sndV v m)).sb.length ∧
    ((trimR (sndV v m)).sb.getD (atR (trimR (sndV v m)).sb id).toNat Sb0).cu = (trimR (sndV v m)).se ∧ pasR ((trimR (sndV v m)).sb.getD (atR (trimR (sndV v m)).sb id).toNat Sb0).fl m = false := by
  rw [trim_ln2] at hid
  rw [trim_sb, trim_se2]
  have hid2 := List.mem_filter.1 (show id ∈ v.ln.filter fun id => !pasR (flAt v.sb id) m from hid)
  have hp : pasR (flAt v.sb id) m = false := by simpa using hid2.2
  obtain ⟨h0, h1, he, hg⟩ := snd_at (m := m) h hid2.1
  rw [if_pos hp] at hg
  have h' := h
  rw [okR_iff] at h'
  obtain ⟨h', _⟩ := h'
  have h3 : (atR v.sb id).toNat < v.sb.length := by rw [← he]; exact h1
  have h4 := (at_id2 (sb := v.sb) (id := id) (by rw [← he]; exact h0)).2
  have ha := h'.att _ (get_sbm h3) (by rw [h4]; exact hid2.1)
  refine ⟨h0, by show _ < (sndB v.sb m v.ln).length; rw [sndB_len]; exact h1, ?_, ?_⟩
  · show ((sndB v.sb m v.ln).getD (atR (sndB v.sb m v.ln) id).toNat Sb0).cu = v.se + 1
    rw [hg]
    show (v.sb.getD (atR v.sb id).toNat Sb0).cu + 1 = _
    rw [ha]
  · show pasR ((sndB v.sb m v.ln).getD (atR (sndB v.sb m v.ln) id).toNat Sb0).fl m = false
    rw [hg]
    exact hp
theorem nb_told {v : Rv} {m : Tm} {id : Int} (h : okR restR v = true) (hid : id ∈ sndT v.sb m v.ln) :
    id ∈ v.ln ∧ 0 ≤ atR (trimR (sndV v m)).sb id ∧ (atR (trimR (sndV v m)).sb id).toNat < (trimR (sndV v m)).sb.length ∧ pasR ((trimR (sndV v m)).sb.getD (atR (trimR (sndV v m)).sb id).toNat Sb0).fl m = true := by
  rw [trim_sb]
  have hid2 := List.mem_filter.1 (show id ∈ v.ln.filter fun id => pasR (flAt v.sb id) m from hid)
  have hp : pasR (flAt v.sb id) m = true := hid2.2
  obtain ⟨h0, h1, he, hg⟩ := snd_at (m := m) h hid2.1
  rw [if_neg (by rw [hp]; simp)] at hg
  refine ⟨hid2.1, h0, by show _ < (sndB v.sb m v.ln).length; rw [sndB_len]; exact h1, ?_⟩
  show pasR ((sndB v.sb m v.ln).getD (atR (sndB v.sb m v.ln) id).toNat Sb0).fl m = true
  rw [hg]
  exact hp
open Go.RowKit Pl Il
set_option maxHeartbeats 1000000 in
theorem specPasses_any (a : Option Addr) (m cap : Nat) (ts : List Tm) (k n : Int) (s : ByteArray) (w : World) (hI : TmAt w a m ts) (hm : m ≤ 9223372036854775807) (hs : s.size ≤ maxLen) :
    Calls Tryz.prog 27 #[.slice a m cap, .agg #[.int .i64 k, .int .i64 n, .string s]] w fun e w' => e = .returned (.bool (passM ts k n s)) ∧ Below w.heap.size w w' := by
  obtain ⟨W0, hW0⟩ : ∃ W, W = w.alloc (.cells #[.int .i64 k, .int .i64 n, .string s] 30) := ⟨_, rfl⟩
  have b0 : Below w.heap.size w W0 := by rw [hW0]; exact bl_alloc (Below.refl _ _) _
  have x0 : Box3 w.heap.size (.int .i64 k) (.int .i64 n) (.string s) W0 := by rw [hW0]; exact Box3.new w _ _ _ _
  have HF := hidOf (specFilterOk_any a m cap ts W0 (hI.keep b0) hm)
  have HX := hidOf x0
  have HB0 := hidOf b0
  have HI := hidOf (hI.keep b0)
  clear hI b0 x0
  cases hok : okF ts
  · have HQ := hidOf (show passM ts k n s = false by simp [passM, hok])
    rw [hok] at HF
    clear hok
    go_enter Tryz.func27, Tryz.ntmps27
    go_wp2_with fail
    rw [← hW0]
    clear hW0
    refine (HF.out).mono ?_
    rintro e w1 ⟨rfl, hb1⟩
    have HB1 := hidOf (bl_trans HB0.out hb1)
    clear hb1 HF HB0
    go_wp2
    go_ret
    exact ⟨rbool HQ.out.symm, HB1.out⟩
  rw [hok] at HF
  have HOK := hidOf hok
  clear hok
  go_enter Tryz.func27, Tryz.ntmps27
  go_wp2_with fail
  rw [← hW0]
  clear hW0
  refine (HF.out).mono ?_
  rintro e w1 ⟨rfl, hb1⟩
  have HX1 := hidOf (HX.out.keep hb1)
  have HI1 := hidOf (HI.out.keep hb1)
  have HB1 := hidOf (bl_trans HB0.out hb1)
  clear hb1 HF HB0 HX HI
  obtain ⟨_, p0, p1, p2, pf⟩ := id HX1.out
  go_wp2_with fail
  refine (specMsgOk_any k n s _ hs).mono ?_
  rintro e w2 ⟨rfl, hb2⟩
  have HX2 := hidOf (HX1.out.keep hb2)
  have HI2 := hidOf (HI1.out.keep hb2)
  have HB2 := hidOf (bl_trans HB1.out hb2)
  clear hb2 HB1 HX1 HI1 p0 p1 p2 pf
  cases ho : okB k n s
  · have HQ := hidOf (show passM ts k n s = false by simp [passM, ho])
    clear ho
    go_wp2
    go_ret
    exact ⟨rbool HQ.out.symm, HB2.out⟩
  · have HQ := hidOf (show passM ts k n s = passP ts (bdOf k n s) by simp [passM, HOK.out, ho])
    have HC := hidOf (l8Left_any a m cap ts k n s w2 HI2.out HOK.out ho)
    obtain ⟨_, p0, p1, p2, pf⟩ := id HX2.out
    clear ho
    go_wp2_with fail
    refine (HC.out).mono ?_
    rintro e w3 ⟨rfl, hb3⟩
    have HB3 := hidOf (bl_trans HB2.out hb3)
    clear hb3 HC HB2 p0 p1 p2 pf
    go_wp2
    go_ret
    exact ⟨rbool HQ.out.symm, HB3.out⟩
end Go.Proofs.YtihdglmiecifjaaGreat
