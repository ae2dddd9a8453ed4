/-
  The specification's ring: a subscriber reads, and waits where nothing 
-/
import Derived.Test.YtdboaoejlkkoeaaGreatZPo24
namespace Go.Proofs.YtdboaoejlkkoeaaGreat
open Go.RowKit Go.Maps Pl Il
theorem RRow.growL {B : Nat} {w w' : World} {M : Rm} {v : Rv} {a' : Option Addr} {n' c' : Nat} {xs : List Int} (h : RRow B w M v) (ho : w'.ownsRow B 3 1 (.slice a' n' c') n' (intsV xs)) (hg : w.grownBy w' (Value.slice M.la M.l M.lc).ownBlock)
    (hl : ∀ q, (Value.slice a' n' c').ownBlock = some q → (Value.slice M.la M.l M.lc).ownBlock = some q ∨ w.heap.size ≤ q) : RRow B w' { M with la := a', l := n', lc := c' } { v with ln := xs } := by
  have hA : AptP _ _ _ _ _ := apt_iff.1 h.apt
  have lt : ∀ {z : Option Nat}, z ∈ blkR M → ∀ q, z = some q → q < w.heap.size := fun hz q e => (h.blk q (by rw [← e]; exact hz)).2
  have inX : ∀ y, y ∈ M.xs.map (fun x => (Value.slice x.a x.n x.c).ownBlock) → y ∈ blkR M := fun y hy => by
    unfold blkR
    exact List.mem_cons_of_mem _ (List.mem_cons_of_mem _ (List.mem_cons_of_mem _ (List.mem_cons_of_mem _ hy)))
  have nw : ∀ {z : Option Nat}, (∀ b, z = some b → (Value.slice M.la M.l M.lc).ownBlock ≠ some b) → z ∈ blkR M → ∀ b, z = some b → (Value.slice a' n' c').ownBlock ≠ some b := fun hz hin b ez e => by
    rcases hl b e with k | k
    · exact hz b ez k
    · have := lt hin b ez; omega
  have swap : ∀ {y z : Option Nat}, (∀ b, y = some b → z ≠ some b) → ∀ b, z = some b → y ≠ some b := fun hyz b e e' => hyz b e' e
  refine ⟨rowG h.it hg (swap hA.il), h.its, rowG h.sb hg (swap hA.sl), fun x hx => rowG (h.fl x hx) hg (hA.lx _ (List.mem_map.2 ⟨x, hx, rfl⟩)), h.fls, h.sv, ho, rowG h.gs hg hA.lg, apt_iff.2 ⟨hA.is, nw hA.il (by simp [blkR]), hA.ig, hA.ix, nw hA.sl (by simp [blkR]), hA.sg, hA.sx, swap (nw (swap hA.lg) (by simp [blkR])), fun x hx => swap (nw (swap (hA.lx x hx)) (inX x hx)), hA.gx, hA.xx⟩⟩
theorem blk_line {M : Rm} {a : Option Addr} {n c : Nat} {q : Nat} (h : some q ∈ blkR { M with la := a, l := n, lc := c }) : some q ∈ blkR M ∨ (Value.slice a n c).ownBlock = some q := by
  unfold blkR at h ⊢
  simp only [List.mem_cons] at h ⊢
  rcases h with h | h | h | h | h
  · exact .inl (.inl h)
  · exact .inl (.inr (.inl h))
  · exact .inr h.symm
  · exact .inl (.inr (.inr (.inr (.inl h))))
  · exact .inl (.inr (.inr (.inr (.inr h))))
theorem trim_same (v : Rv) : (trimR v).cp = v.cp ∧ (trimR v).se = v.se ∧ (trimR v).nx = v.nx ∧ (trimR v).cl = v.cl := by
  unfold trimR
  split <;> exact ⟨rfl, rfl, rfl, rfl⟩
def RdsP (B : Nat) (w : World) (v : Rv) (k : Nat) (id : Int) (e : Ending) (w' : World) : Prop := ∃ M' : Rm, e = .returned (.tuple #[.agg #[.int .i64 (trimR (waitV v k id)).cp, .int .i64 (trimR (waitV v k id)).se, .slice M'.ia M'.i M'.ic, .int .i64 (trimR (waitV v k id)).nx, .slice M'.sa M'.s M'.sc, .slice M'.la M'.l M'.lc, .slice M'.ga M'.g M'.gc, .bool (trimR (waitV v k id)).cl], .agg #[.int .i64 (readT v (v.sb.getD k Sb0)).kd, .int .i64 (readT v (v.sb.getD k Sb0)).ms.1, .int .i64 (readT v (v.sb.getD k Sb0)).ms.2.1, .string (readT v (v.sb.getD k Sb0)).ms.2.2, .int .i64 (readT v (v.sb.getD k Sb0)).ix, .int .i64 (readT v (v.sb.getD k Sb0)).n], .int .i64 (readC v (v.sb.getD k Sb0))]) ∧ RRow B w' M' (trimR (waitV v k id)) ∧ RLe M' 2097152 ∧ Below B w w'
set_option maxRecDepth 100000 in
set_option maxHeartbeats 16000000 in
theorem l9Reads_any (B : Nat) (M : Rm) (v : Rv) (k : Nat) (id : Int) (w : World) (hR : RRow B w M v) (hB : B ≤ w.heap.size) (hid : (v.sb.getD k Sb0).id = id) (hk : RdOk v k) (hm : RLe M 1048576) :
  Calls Tryz.prog 106 #[.agg #[.int .i64 v.cp, .int .i64 v.se, .slice M.ia M.i M.ic, .int .i64 v.nx, .slice M.sa M.s M.sc, .slice M.la M.l M.lc, .slice M.ga M.g M.gc, .bool v.cl], .int .i64 (k : Int)] w fun e w' => RdsP B w v k id e w' := by
 obtain ⟨g, hg, hs, hkx⟩ := hR.sub_row hk.lt
 obtain ⟨x, hx⟩ : ∃ x, sg M.xs k = x := ⟨_, rfl⟩
 have hsv : v.sb.getD k Sb0 = x.s := by rw [← hR.sv, sg_svs2 hkx, hx]
 obtain rfl : x.s.id = id := by rw [← hsv]; exact hid
 obtain ⟨W0, hW0⟩ : ∃ W, W = ((w.alloc (.cells #[.int .i64 v.cp, .int .i64 v.se, .slice M.ia M.i M.ic, .int .i64 v.nx, .slice (some ⟨g, 0, none⟩) M.s M.sc, .slice M.la M.l M.lc, .slice M.ga M.g M.gc, .bool v.cl] 28)).alloc (.cells #[.int .i64 0, .int .i64 0, .slice none 0 0, .int .i64 0, .slice none 0 0, .slice none 0 0, .slice none 0 0, .bool false] 28)).alloc (.cells #[.int .i64 0, .int .i64 0, .int .i64 0, .string ⟨#[]⟩, .int .i64 0, .int .i64 0] 53) := ⟨_, rfl⟩
 have B0 : Below w.heap.size w W0 := by rw [hW0]; exact bl_alloc (bl_alloc (bl_alloc (Below.refl _ _) _) _) _
 have z0 : W0.heap.size = w.heap.size + 3 := by rw [hW0]; simp
 have A0 : BoxL w.heap.size [.int .i64 v.cp, .int .i64 v.se, .slice M.ia M.i M.ic, .int .i64 v.nx, .slice (some ⟨g, 0, none⟩) M.s M.sc, .slice M.la M.l M.lc, .slice M.ga M.g M.gc, .bool v.cl] W0 := by rw [hW0]; exact ((BoxL.new w [.int .i64 v.cp, .int .i64 v.se, .slice M.ia M.i M.ic, .int .i64 v.nx, .slice (some ⟨g, 0, none⟩) M.s M.sc, .slice M.la M.l M.lc, .slice M.ga M.g M.gc, .bool v.cl] _).alloc _).alloc _
 have R0 : BoxL (w.heap.size + 1) [.int .i64 0, .int .i64 0, .slice none 0 0, .int .i64 0, .slice none 0 0, .slice none 0 0, .slice none 0 0, .bool false] W0 := by rw [hW0]; exact (boxT1 w _ [.int .i64 0, .int .i64 0, .slice none 0 0, .int .i64 0, .slice none 0 0, .slice none 0 0, .slice none 0 0, .bool false] _).alloc _
 have T0 : BoxL (w.heap.size + 1 + 1) [.int .i64 0, .int .i64 0, .int .i64 0, .string ⟨#[]⟩, .int .i64 0, .int .i64 0] W0 := by rw [hW0]; exact boxT2 w _ _ [.int .i64 0, .int .i64 0, .int .i64 0, .string ⟨#[]⟩, .int .i64 0, .int .i64 0] _
 have hgl := row_lt (q := g) hR.sb (by rw [hg]; rfl)
 have hsb0 : W0.ownsRow B 41 7 (.slice (some ⟨g, 0, none⟩) M.s M.sc) M.s (sflat M.xs) := by have h := (hR.keep B0).sb; rw [hg] at h; exact h
 have c0 : W0.cell? ⟨g, k * 7, none⟩ = some (.int .i64 x.s.id) := by have h := row_cell hsb0 hkx (r := 0) (by omega); rw [hx] at h; exact h
 have hki : (k : Int) < (M.s : Int) := by omega
 have hkn : k < M.s := by omega
 have HRd := hidOf (l9Read_any B M v k W0 (hR.keep B0) hk (hm.mono (by omega)))
 have HSV := hidOf hsv
 have HK := hidOf hk
 have HGl := hidOf hgl
 have HMm := hidOf hm
 have HB := hidOf (And.intro hB B0)
 have HZ0 := hidOf z0
 have HBk := hidOf (show ∀ q, some q ∈ blkR M → q < w.heap.size from fun q hq => (hR.blk q hq).2)
 have HKX := hidOf hkx
 rw [hg]
 simp only [hg] at HRd
 have HG := hidOf hg
 clear hR hk hm hx hsv hgl hsb0 hB hid hs B0 z0 hkx
 obtain ⟨p0, p1, p2, p3, p4, p5, p6, p7⟩ := box8 A0
 clear hg
 go_enter Tryz.func106, Tryz.ntmps106
 go_upto_region 1 with fail
 rw [← hW0]
 clear hW0
 generalize hN1 : w.heap.size + 1 = N1 at R0 T0 ⊢
 generalize hN2 : N1 + 1 = N2 at T0 ⊢
 have HN12 := hidOf (show N1 ≠ N2 ∧ N2 ≠ N1 by omega)
 have HNge := hidOf (show w.heap.size ≤ N1 ∧ w.heap.size ≤ N2 by omega)
 have HN0 := hidOf (show N1 = w.heap.size + 1 ∧ N2 = w.heap.size + 2 by omega)
 have n12 : ¬ N1 = N2 := HN12.out.1
 have n21 : ¬ N2 = N1 := HN12.out.2
 clear hN1 hN2
 go_wp2_with fail
 refine (HRd.out).mono ?_
 rintro e w1 ⟨xs1, rfl, row1, hn1, gr1, hbk1⟩
 simp only [HG.out]
 have hgb : (Value.slice M.sa M.s M.sc).ownBlock = some g := by rw [HG.out]; rfl
 rw [hgb] at gr1
 have R1 := R0.grown gr1 (fun e => by have h := HGl.out; have h2 := HNge.out; injection e with e; omega)
 have T1 := T0.grown gr1 (fun e => by have h := HGl.out; have h2 := HNge.out; injection e with e; omega)
 have B1 : Below B w w1 := (HB.out.2.mono HB.out.1).grown gr1 (Nat.le_trans HB.out.1 HB.out.2.size) (fun q e => by injection e with e; rw [← e]; exact HGl.out.1)
 obtain ⟨td, htd⟩ : ∃ td, readT v (v.sb.getD k Sb0) = td := ⟨_, rfl⟩
 obtain ⟨cd, hcd⟩ : ∃ cd, readC v (v.sb.getD k Sb0) = cd := ⟨_, rfl⟩
 rw [htd, hcd]
 have HTd := hidOf htd
 have HCd := hidOf hcd
 obtain ⟨V2, hV2⟩ : ∃ V, V = (w1.alloc (.cells #[.int .i64 v.cp, .int .i64 v.se, .slice M.ia M.i M.ic, .int .i64 v.nx, .slice (some ⟨g, 0, none⟩) M.s M.sc, .slice M.la M.l M.lc, .slice M.ga M.g M.gc, .bool v.cl] 28)).alloc (.cells #[.int .i64 td.kd, .int .i64 td.ms.1, .int .i64 td.ms.2.1, .string td.ms.2.2, .int .i64 td.ix, .int .i64 td.n] 53) := ⟨_, rfl⟩
 have bV2 : Below w1.heap.size w1 V2 := by rw [hV2]; exact bl_alloc (bl_alloc (Below.refl _ _) _) _
 have X2 : BoxL w1.heap.size [.int .i64 v.cp, .int .i64 v.se, .slice M.ia M.i M.ic, .int .i64 v.nx, .slice (some ⟨g, 0, none⟩) M.s M.sc, .slice M.la M.l M.lc, .slice M.ga M.g M.gc, .bool v.cl] V2 := by rw [hV2]; exact (BoxL.new w1 [.int .i64 v.cp, .int .i64 v.se, .slice M.ia M.i M.ic, .int .i64 v.nx, .slice (some ⟨g, 0, none⟩) M.s M.sc, .slice M.la M.l M.lc, .slice M.ga M.g M.gc, .bool v.cl] _).alloc _
 have K2 : BoxL (w1.heap.size + 1) [.int .i64 td.kd, .int .i64 td.ms.1, .int .i64 td.ms.2.1, .string td.ms.2.2, .int .i64 td.ix, .int .i64 td.n] V2 := by rw [hV2]; exact boxT1 w1 _ [.int .i64 td.kd, .int .i64 td.ms.1, .int .i64 td.ms.2.1, .string td.ms.2.2, .int .i64 td.ix, .int .i64 td.n] _
 have R2 := R1.keep bV2
 have T2 := T1.keep bV2
 have row2 := row1.keep bV2
 have B2 : Below B w V2 := B1.trans (bV2.mono (Nat.le_trans HB.out.1 B1.size))
 have hws : w.heap.size ≤ w1.heap.size := B1.size
 have hv2 : w1.heap.size ≤ V2.heap.size := bV2.size
 have hlt1 := R1.lt
 have hlt2 := T1.lt
 have hB0 := HB.out.1
 have hm := HMm.out
 have HNXl := hidOf (show ∀ q, some q ∈ blkR ({ M with xs := xs1 } : Rm) → q < w.heap.size from fun q hq => HBk.out q (by rw [← hbk1]; exact hq))
 clear htd hcd R0 T0 A0 R1 T1 gr1 row1 B1 bV2 HRd c0 p0 p1 p2 p3 p4 p5 p6 p7 hgb hbk1
 go_upto_region 3 with fail
 rw [← hV2]
 clear hV2
 generalize hNX : w1.heap.size = NX at X2 K2 ⊢
 generalize hNT : NX + 1 = NT at K2 ⊢
 have HNX0 := hidOf (show NX < NT ∧ NX ≠ NT by omega)
 have HNlt0 := hidOf (show N1 < NX ∧ N2 < NX by omega)
 have HNXg := hidOf (show w.heap.size ≤ NX ∧ w.heap.size ≤ NT by omega)
 have HNX := hidOf (show NX ≠ N1 ∧ NT ≠ N1 ∧ NX ≠ N2 ∧ NT ≠ N2 by omega)
 have HOb := hidOf (oldR_bd (v := rdV v k) HK.out.se.1 HK.out.cp.1)
 clear hNT hNX hlt1 hlt2
 by_cases hc4 : cd = 4
 ·skip
  subst hc4
  obtain ⟨g5, c5, w5, hr5, ho5, hg5, hl5⟩ := append_own1 B M.l _ v.ln x.s.id V2 row2.ln (Nat.le_trans hB0 (Nat.le_trans hws hv2)) (by have h := hm.l; omega)
  have X5 : BoxL NX [.int .i64 v.cp, .int .i64 v.se, .slice M.ia M.i M.ic, .int .i64 v.nx, .slice (some ⟨g, 0, none⟩) M.s M.sc, .slice M.la M.l M.lc, .slice M.ga M.g M.gc, .bool v.cl] w5 := X2.grown hg5 (fun e => by have h2 := HNXl.out _ (by rw [← e]; simp [blkR]); have h3 := HNXg.out; omega)
  have K5 : BoxL NT [.int .i64 td.kd, .int .i64 td.ms.1, .int .i64 td.ms.2.1, .string td.ms.2.2, .int .i64 td.ix, .int .i64 td.n] w5 := K2.grown hg5 (fun e => by have h2 := HNXl.out _ (by rw [← e]; simp [blkR]); have h3 := HNXg.out; omega)
  have R5 : BoxL N1 [.int .i64 0, .int .i64 0, .slice none 0 0, .int .i64 0, .slice none 0 0, .slice none 0 0, .slice none 0 0, .bool false] w5 := R2.grown hg5 (fun e => by have h2 := HNXl.out _ (by rw [← e]; simp [blkR]); have h3 := HNge.out; omega)
  have T5 : BoxL N2 [.int .i64 0, .int .i64 0, .int .i64 0, .string ⟨#[]⟩, .int .i64 0, .int .i64 0] w5 := T2.grown hg5 (fun e => by have h2 := HNXl.out _ (by rw [← e]; simp [blkR]); have h3 := HNge.out; omega)
  obtain ⟨U6, hU6⟩ : ∃ U, w5.setCell ⟨NX, 5, none⟩ (.slice (some ⟨g5, 0, none⟩) (M.l + 1) c5) = U := ⟨_, rfl⟩
  have X6 : BoxL NX [.int .i64 v.cp, .int .i64 v.se, .slice M.ia M.i M.ic, .int .i64 v.nx, .slice (some ⟨g, 0, none⟩) M.s M.sc, .slice (some ⟨g5, 0, none⟩) (M.l + 1) c5, .slice M.ga M.g M.gc, .bool v.cl] U6 := by rw [← hU6]; exact X5.set 5 (by simp) _
  have K6 : BoxL NT [.int .i64 td.kd, .int .i64 td.ms.1, .int .i64 td.ms.2.1, .string td.ms.2.2, .int .i64 td.ix, .int .i64 td.n] U6 := by rw [← hU6]; exact K5.far _ _ (by have h := HNX0.out; omega) _
  have R6 : BoxL N1 [.int .i64 0, .int .i64 0, .slice none 0 0, .int .i64 0, .slice none 0 0, .slice none 0 0, .slice none 0 0, .bool false] U6 := by rw [← hU6]; exact R5.far _ _ (by have h := HNX0.out; have h2 := HNlt0.out; omega) _
  have T6 : BoxL N2 [.int .i64 0, .int .i64 0, .int .i64 0, .string ⟨#[]⟩, .int .i64 0, .int .i64 0] U6 := by rw [← hU6]; exact T5.far _ _ (by have h := HNX0.out; have h2 := HNlt0.out; omega) _
  have row5 := row2.growL ho5 hg5 (fun q e => by
   have e' : g5 = q := by simpa [Value.ownBlock] using e
   rw [← e']
   exact hl5)
  have hnx5 : ∀ n, n < V2.heap.size → w.heap.size ≤ n → some n ∉ blkR { M with xs := xs1, la := some ⟨g5, 0, none⟩, l := M.l + 1, lc := c5 } := fun n hn hn2 hmm => by
   rcases blk_line (M := { M with xs := xs1 }) hmm with h | h
   ·have := HNXl.out n h; omega
   ·have e' : g5 = n := by simpa [Value.ownBlock] using h
    rcases hl5 with k5 | k5
    ·have := HNXl.out g5 (by rw [← k5]; simp [blkR]); omega
    ·omega
  have HRow := hidOf (show RRow B U6 ({ M with xs := xs1, la := some ⟨g5, 0, none⟩, l := M.l + 1, lc := c5 } : Rm) ({ rdV v k with ln := v.ln ++ [x.s.id] } : Rv) by
   rw [← hU6]
   exact row5.grown (grown_setC _ _ _ _) (hnx5 NX (by have h := X2.lt; omega) (by have h := HNX0.out; have h2 := HNlt0.out; have h3 := HNge.out; omega)))
  have HNo := hidOf (show some N1 ∉ blkR ({ M with xs := xs1, la := some ⟨g5, 0, none⟩, l := M.l + 1, lc := c5 } : Rm) ∧ some N2 ∉ blkR ({ M with xs := xs1, la := some ⟨g5, 0, none⟩, l := M.l + 1, lc := c5 } : Rm) from ⟨hnx5 N1 (by have h := R2.lt; omega) HNge.out.1, hnx5 N2 (by have h := T2.lt; omega) HNge.out.2⟩)
  have hu6 : U6.heap.size = w5.heap.size := by rw [← hU6]; simp
  have HLe6 := hidOf (show RLe ({ M with xs := xs1, la := some ⟨g5, 0, none⟩, l := M.l + 1, lc := c5 } : Rm) 2097152 from ⟨by have h := hm.i; show M.i ≤ _; omega, by have h := hm.s; show M.s ≤ _; omega, fun y hy => by obtain ⟨z, hz, e⟩ := hn1 y hy; have h := hm.f z hz; omega, by have h := hm.l; show M.l + 1 ≤ _; omega, by have h := hm.g; show M.g ≤ _; omega⟩)
  have HB6 := hidOf (show Below B w U6 by
   rw [← hU6]
   exact bl_setB (B2.grown hg5 (by have h := B2.size; omega) (fun q e => (row2.blk q (by rw [← e]; simp [blkR])).1)) _ _ (by have h := HNX0.out; have h2 := HNlt0.out; have h3 := HNge.out; omega) _)
  have HBs := hidOf (show B ≤ U6.drew.heap.size by have h := HB6.out.size; show B ≤ U6.heap.size; omega)
  have HNlt := hidOf (show N1 < U6.drew.heap.size ∧ N2 < U6.drew.heap.size from ⟨R6.lt, T6.lt⟩)
  have Hr5 := hidOf hr5
  have x5 : ∀ o, (V2.alloc o).cell? ⟨NX, 5, none⟩ = some (.slice M.la M.l M.lc) := fun o => (X2.alloc o).cs 5 (by simp)
  have x5a := X2.cs 5 (by simp)
  have x5b : w5.cell? ⟨NX, 5, none⟩ = some (.slice M.la M.l M.lc) := X5.cs 5 (by simp)
  have x5f := X5.fr
  simp only [List.getElem_cons_zero, List.getElem_cons_succ] at x5a
  clear hr5 ho5 hg5 hl5 X5 K5 R5 T5 row5 hnx5 hu6 X2 K2 R2 T2 row2 B2 hws hv2 hm hn1 hB0
  go_upto_region 5 with (at_builtin; refine wpList_append_run rfl _ _ 26 rfl _ _ _ rfl rfl Hr5.out ?_)
  try rw [hU6]
  clear hU6 x5 x5a x5b x5f
  have hS6 : (fun u : World => u.cell? ⟨NX, 0, none⟩ = some (.int .i64 v.cp) ∧ u.cell? ⟨NX, 1, none⟩ = some (.int .i64 v.se) ∧ u.cell? ⟨NX, 2, none⟩ = some (.slice M.ia M.i M.ic) ∧ u.cell? ⟨NX, 3, none⟩ = some (.int .i64 v.nx) ∧ u.cell? ⟨NX, 4, none⟩ = some (.slice (some ⟨g, 0, none⟩) M.s M.sc) ∧ u.cell? ⟨NX, 5, none⟩ = some (.slice (some ⟨g5, 0, none⟩) (M.l + 1) c5) ∧ u.cell? ⟨NX, 6, none⟩ = some (.slice M.ga M.g M.gc) ∧ u.cell? ⟨NX, 7, none⟩ = some (.bool v.cl) ∧ u.cell? ⟨NT, 0, none⟩ = some (.int .i64 td.kd) ∧ u.cell? ⟨NT, 1, none⟩ = some (.int .i64 td.ms.1) ∧ u.cell? ⟨NT, 2, none⟩ = some (.int .i64 td.ms.2.1) ∧ u.cell? ⟨NT, 3, none⟩ = some (.string td.ms.2.2) ∧ u.cell? ⟨NT, 4, none⟩ = some (.int .i64 td.ix) ∧ u.cell? ⟨NT, 5, none⟩ = some (.int .i64 td.n)) U6 := ⟨X6.cs 0 (by simp), X6.cs 1 (by simp), X6.cs 2 (by simp), X6.cs 3 (by simp), X6.cs 4 (by simp), X6.cs 5 (by simp), X6.cs 6 (by simp), X6.cs 7 (by simp), K6.cs 0 (by simp), K6.cs 1 (by simp), K6.cs 2 (by simp), K6.cs 3 (by simp), K6.cs 4 (by simp), K6.cs 5 (by simp)⟩
  have HTr := hidOf (show Calls Tryz.prog 86 #[.agg #[.int .i64 v.cp, .int .i64 v.se, .slice M.ia M.i M.ic, .int .i64 v.nx, .slice (some ⟨g, 0, none⟩) M.s M.sc, .slice (some ⟨g5, 0, none⟩) (M.l + 1) c5, .slice M.ga M.g M.gc, .bool v.cl]] U6.drew (fun e w' => TrimQ B U6.drew ({ M with xs := xs1, la := some ⟨g5, 0, none⟩, l := M.l + 1, lc := c5 } : Rm) ({ rdV v k with ln := v.ln ++ [x.s.id] } : Rv) e w') by
   have h := l9Trim_any2 B ({ M with xs := xs1, la := some ⟨g5, 0, none⟩, l := M.l + 1, lc := c5 } : Rm) ({ rdV v k with ln := v.ln ++ [x.s.id] } : Rv) U6.drew (HRow.out.keep (Below.refl _ _).drew) HBs.out HLe6.out HK.out.se HK.out.cp HOb.out.2 HOb.out.1
   have e : (Value.agg #[.int .i64 v.cp, .int .i64 v.se, .slice M.ia M.i M.ic, .int .i64 v.nx, .slice (some ⟨g, 0, none⟩) M.s M.sc, .slice (some ⟨g5, 0, none⟩) (M.l + 1) c5, .slice M.ga M.g M.gc, .bool v.cl]) = .agg #[.int .i64 ({ rdV v k with ln := v.ln ++ [x.s.id] } : Rv).cp, .int .i64 ({ rdV v k with ln := v.ln ++ [x.s.id] } : Rv).se, .slice ({ M with xs := xs1, la := some ⟨g5, 0, none⟩, l := M.l + 1, lc := c5 } : Rm).ia ({ M with xs := xs1, la := some ⟨g5, 0, none⟩, l := M.l + 1, lc := c5 } : Rm).i ({ M with xs := xs1, la := some ⟨g5, 0, none⟩, l := M.l + 1, lc := c5 } : Rm).ic, .int .i64 ({ rdV v k with ln := v.ln ++ [x.s.id] } : Rv).nx, .slice ({ M with xs := xs1, la := some ⟨g5, 0, none⟩, l := M.l + 1, lc := c5 } : Rm).sa ({ M with xs := xs1, la := some ⟨g5, 0, none⟩, l := M.l + 1, lc := c5 } : Rm).s ({ M with xs := xs1, la := some ⟨g5, 0, none⟩, l := M.l + 1, lc := c5 } : Rm).sc, .slice ({ M with xs := xs1, la := some ⟨g5, 0, none⟩, l := M.l + 1, lc := c5 } : Rm).la ({ M with xs := xs1, la := some ⟨g5, 0, none⟩, l := M.l + 1, lc := c5 } : Rm).l ({ M with xs := xs1, la := some ⟨g5, 0, none⟩, l := M.l + 1, lc := c5 } : Rm).lc, .slice ({ M with xs := xs1, la := some ⟨g5, 0, none⟩, l := M.l + 1, lc := c5 } : Rm).ga ({ M with xs := xs1, la := some ⟨g5, 0, none⟩, l := M.l + 1, lc := c5 } : Rm).g ({ M with xs := xs1, la := some ⟨g5, 0, none⟩, l := M.l + 1, lc := c5 } : Rm).gc, .bool ({ rdV v k with ln := v.ln ++ [x.s.id] } : Rv).cl] := by rw [← HG.out] <;> rfl
   rw [e]
   exact h)
  have HV := hidOf (show trimR (waitV v k x.s.id) = trimR ({ rdV v k with ln := v.ln ++ [x.s.id] } : Rv) by unfold waitV; rw [HCd.out, if_pos rfl])
  have HV7 := hidOf (trim_same ({ rdV v k with ln := v.ln ++ [x.s.id] } : Rv))
  go_upto_region 5 with fail
  refine wp_region_noPanic ?_
  refine wp_region_held_drew (S := fun u => u.cell? ⟨NX, 0, none⟩ = some (.int .i64 v.cp) ∧ u.cell? ⟨NX, 1, none⟩ = some (.int .i64 v.se) ∧ u.cell? ⟨NX, 2, none⟩ = some (.slice M.ia M.i M.ic) ∧ u.cell? ⟨NX, 3, none⟩ = some (.int .i64 v.nx) ∧ u.cell? ⟨NX, 4, none⟩ = some (.slice (some ⟨g, 0, none⟩) M.s M.sc) ∧ u.cell? ⟨NX, 5, none⟩ = some (.slice (some ⟨g5, 0, none⟩) (M.l + 1) c5) ∧ u.cell? ⟨NX, 6, none⟩ = some (.slice M.ga M.g M.gc) ∧ u.cell? ⟨NX, 7, none⟩ = some (.bool v.cl) ∧ u.cell? ⟨NT, 0, none⟩ = some (.int .i64 td.kd) ∧ u.cell? ⟨NT, 1, none⟩ = some (.int .i64 td.ms.1) ∧ u.cell? ⟨NT, 2, none⟩ = some (.int .i64 td.ms.2.1) ∧ u.cell? ⟨NT, 3, none⟩ = some (.string td.ms.2.2) ∧ u.cell? ⟨NT, 4, none⟩ = some (.int .i64 td.ix) ∧ u.cell? ⟨NT, 5, none⟩ = some (.int .i64 td.n)) (by kernel_rfl) hS6 (fun hHeld => ?_)
  refine tK 0 ?_ rfl (by kernel_rfl) (by rfl) ?_ (by assumption) (fun _ _ _ h => h) ?_
  case refine_2 => (intro w hSw; (try dsimp only at hSw); go_simp; try with_reducible rfl)
  simp only [Act.put, List.getElem_toArray, List.getElem_cons_zero, List.setIfInBounds_toArray, List.set_cons_zero, List.set_cons_succ]
  refine tR 2 ?_
  refine tR 3 ?_
  refine tW 1 (fun K hK => ?_)
  go_simp
  refine (HTr.out).mono ?_
  rintro e w7 ⟨ia7, i7, ic7, he7, row7, hi7, b7, hq7⟩
  obtain rfl : e = .returned (.agg #[.int .i64 v.cp, .int .i64 v.se, .slice ia7 i7 ic7, .int .i64 v.nx, .slice (some ⟨g, 0, none⟩) M.s M.sc, .slice (some ⟨g5, 0, none⟩) (M.l + 1) c5, .slice M.ga M.g M.gc, .bool v.cl]) := by rw [he7, ← HG.out] <;> rfl
  clear he7
  go_wp2_with fail
  have X7 := (X6.keep (Below.refl _ _).drew).keep b7
  have T7 := (K6.keep (Below.refl _ _).drew).keep b7
  have R7 := (R6.keep (Below.refl _ _).drew).keep b7
  have U7 := (T6.keep (Below.refl _ _).drew).keep b7
  have nb7 : ∀ n, n < U6.drew.heap.size → some n ∉ blkR ({ M with xs := xs1, la := some ⟨g5, 0, none⟩, l := M.l + 1, lc := c5 } : Rm) → some n ∉ blkR { ({ M with xs := xs1, la := some ⟨g5, 0, none⟩, l := M.l + 1, lc := c5 } : Rm) with ia := ia7, i := i7, ic := ic7 } := fun n hn hno hm => by
   unfold blkR at hm hno
   rw [List.mem_cons] at hm hno
   rcases hm with e | e
   ·rcases hq7 with h | h
    ·exact hno (.inl (by rw [e]; exact h))
    ·have := h n e.symm; omega
   ·exact hno (.inr e)
  have hS7 : (fun u : World => u.cell? ⟨NX, 0, none⟩ = some (.int .i64 v.cp) ∧ u.cell? ⟨NX, 1, none⟩ = some (.int .i64 v.se) ∧ u.cell? ⟨NX, 2, none⟩ = some (.slice M.ia M.i M.ic) ∧ u.cell? ⟨NX, 3, none⟩ = some (.int .i64 v.nx) ∧ u.cell? ⟨NX, 4, none⟩ = some (.slice (some ⟨g, 0, none⟩) M.s M.sc) ∧ u.cell? ⟨NX, 5, none⟩ = some (.slice (some ⟨g5, 0, none⟩) (M.l + 1) c5) ∧ u.cell? ⟨NX, 6, none⟩ = some (.slice M.ga M.g M.gc) ∧ u.cell? ⟨NX, 7, none⟩ = some (.bool v.cl) ∧ u.cell? ⟨NT, 0, none⟩ = some (.int .i64 td.kd) ∧ u.cell? ⟨NT, 1, none⟩ = some (.int .i64 td.ms.1) ∧ u.cell? ⟨NT, 2, none⟩ = some (.int .i64 td.ms.2.1) ∧ u.cell? ⟨NT, 3, none⟩ = some (.string td.ms.2.2) ∧ u.cell? ⟨NT, 4, none⟩ = some (.int .i64 td.ix) ∧ u.cell? ⟨NT, 5, none⟩ = some (.int .i64 td.n)) w7 := ⟨X7.cs 0 (by simp), X7.cs 1 (by simp), X7.cs 2 (by simp), X7.cs 3 (by simp), X7.cs 4 (by simp), X7.cs 5 (by simp), X7.cs 6 (by simp), X7.cs 7 (by simp), T7.cs 0 (by simp), T7.cs 1 (by simp), T7.cs 2 (by simp), T7.cs 3 (by simp), T7.cs 4 (by simp), T7.cs 5 (by simp)⟩
  obtain ⟨r0, r1, r2, r3, r4, r5, r6, r7⟩ := box8 R7
  have rf := R7.fr
  obtain ⟨u0, u1, u2, u3, u4, u5⟩ := box6 U7
  have uf := U7.fr
  obtain ⟨Z1, hZ1⟩ : ∃ Z, ((((((((w7.setCell ⟨N1, 0, none⟩ (.int .i64 v.cp)).setCell ⟨N1, 1, none⟩ (.int .i64 v.se)).setCell ⟨N1, 2, none⟩ (.slice ia7 i7 ic7)).setCell ⟨N1, 3, none⟩ (.int .i64 v.nx)).setCell ⟨N1, 4, none⟩ (.slice (some ⟨g, 0, none⟩) M.s M.sc)).setCell ⟨N1, 5, none⟩ (.slice (some ⟨g5, 0, none⟩) (M.l + 1) c5)).setCell ⟨N1, 6, none⟩ (.slice M.ga M.g M.gc)).setCell ⟨N1, 7, none⟩ (.bool v.cl)) = Z := ⟨_, rfl⟩
  have hZ1b : Z1 = setL w7 N1 0 [.int .i64 v.cp, .int .i64 v.se, .slice ia7 i7 ic7, .int .i64 v.nx, .slice (some ⟨g, 0, none⟩) M.s M.sc, .slice (some ⟨g5, 0, none⟩) (M.l + 1) c5, .slice M.ga M.g M.gc, .bool v.cl] := by rw [← hZ1]; rfl
  have TZ1 : BoxL N2 [.int .i64 0, .int .i64 0, .int .i64 0, .string ⟨#[]⟩, .int .i64 0, .int .i64 0] Z1 := by rw [hZ1b]; exact U7.setFar HN12.out.2
  obtain ⟨z0, z1, z2, z3, z4, z5⟩ := box6 TZ1
  have zf := TZ1.fr
  obtain ⟨Zz, hZ⟩ : ∃ Z, ((((((Z1.setCell ⟨N2, 0, none⟩ (.int .i64 td.kd)).setCell ⟨N2, 1, none⟩ (.int .i64 td.ms.1)).setCell ⟨N2, 2, none⟩ (.int .i64 td.ms.2.1)).setCell ⟨N2, 3, none⟩ (.string td.ms.2.2)).setCell ⟨N2, 4, none⟩ (.int .i64 td.ix)).setCell ⟨N2, 5, none⟩ (.int .i64 td.n)) = Z := ⟨_, rfl⟩
  have hZ2 : Zz = setL (setL w7 N1 0 [.int .i64 v.cp, .int .i64 v.se, .slice ia7 i7 ic7, .int .i64 v.nx, .slice (some ⟨g, 0, none⟩) M.s M.sc, .slice (some ⟨g5, 0, none⟩) (M.l + 1) c5, .slice M.ga M.g M.gc, .bool v.cl]) N2 0 [.int .i64 td.kd, .int .i64 td.ms.1, .int .i64 td.ms.2.1, .string td.ms.2.2, .int .i64 td.ix, .int .i64 td.n] := by rw [← hZ, hZ1b]; rfl
  have XZ : BoxL N1 [.int .i64 v.cp, .int .i64 v.se, .slice ia7 i7 ic7, .int .i64 v.nx, .slice (some ⟨g, 0, none⟩) M.s M.sc, .slice (some ⟨g5, 0, none⟩) (M.l + 1) c5, .slice M.ga M.g M.gc, .bool v.cl] Zz := by rw [hZ2]; exact (R7.setAll (us := [.int .i64 v.cp, .int .i64 v.se, .slice ia7 i7 ic7, .int .i64 v.nx, .slice (some ⟨g, 0, none⟩) M.s M.sc, .slice (some ⟨g5, 0, none⟩) (M.l + 1) c5, .slice M.ga M.g M.gc, .bool v.cl]) rfl).setFar HN12.out.1
  have TZ : BoxL N2 [.int .i64 td.kd, .int .i64 td.ms.1, .int .i64 td.ms.2.1, .string td.ms.2.2, .int .i64 td.ix, .int .i64 td.n] Zz := by rw [hZ2]; exact (U7.setFar HN12.out.2).setAll (us := [.int .i64 td.kd, .int .i64 td.ms.1, .int .i64 td.ms.2.1, .string td.ms.2.2, .int .i64 td.ix, .int .i64 td.n]) rfl
  obtain ⟨t0, t1, t2, t3, t4, t5, t6, t7⟩ := box8 XZ
  obtain ⟨o0, o1, o2, o3, o4, o5⟩ := box6 TZ
  have X8 : BoxL NX [.int .i64 v.cp, .int .i64 v.se, .slice M.ia M.i M.ic, .int .i64 v.nx, .slice (some ⟨g, 0, none⟩) M.s M.sc, .slice (some ⟨g5, 0, none⟩) (M.l + 1) c5, .slice M.ga M.g M.gc, .bool v.cl] Z1 := by rw [hZ1b]; exact X7.setFar HNX.out.1
  have T8 : BoxL NT [.int .i64 td.kd, .int .i64 td.ms.1, .int .i64 td.ms.2.1, .string td.ms.2.2, .int .i64 td.ix, .int .i64 td.n] Z1 := by rw [hZ1b]; exact T7.setFar HNX.out.2.1
  have hS8 : (fun u : World => u.cell? ⟨NX, 0, none⟩ = some (.int .i64 v.cp) ∧ u.cell? ⟨NX, 1, none⟩ = some (.int .i64 v.se) ∧ u.cell? ⟨NX, 2, none⟩ = some (.slice M.ia M.i M.ic) ∧ u.cell? ⟨NX, 3, none⟩ = some (.int .i64 v.nx) ∧ u.cell? ⟨NX, 4, none⟩ = some (.slice (some ⟨g, 0, none⟩) M.s M.sc) ∧ u.cell? ⟨NX, 5, none⟩ = some (.slice (some ⟨g5, 0, none⟩) (M.l + 1) c5) ∧ u.cell? ⟨NX, 6, none⟩ = some (.slice M.ga M.g M.gc) ∧ u.cell? ⟨NX, 7, none⟩ = some (.bool v.cl) ∧ u.cell? ⟨NT, 0, none⟩ = some (.int .i64 td.kd) ∧ u.cell? ⟨NT, 1, none⟩ = some (.int .i64 td.ms.1) ∧ u.cell? ⟨NT, 2, none⟩ = some (.int .i64 td.ms.2.1) ∧ u.cell? ⟨NT, 3, none⟩ = some (.string td.ms.2.2) ∧ u.cell? ⟨NT, 4, none⟩ = some (.int .i64 td.ix) ∧ u.cell? ⟨NT, 5, none⟩ = some (.int .i64 td.n)) Z1 := ⟨X8.cs 0 (by simp), X8.cs 1 (by simp), X8.cs 2 (by simp), X8.cs 3 (by simp), X8.cs 4 (by simp), X8.cs 5 (by simp), X8.cs 6 (by simp), X8.cs 7 (by simp), T8.cs 0 (by simp), T8.cs 1 (by simp), T8.cs 2 (by simp), T8.cs 3 (by simp), T8.cs 4 (by simp), T8.cs 5 (by simp)⟩
  have X9 : BoxL NX [.int .i64 v.cp, .int .i64 v.se, .slice M.ia M.i M.ic, .int .i64 v.nx, .slice (some ⟨g, 0, none⟩) M.s M.sc, .slice (some ⟨g5, 0, none⟩) (M.l + 1) c5, .slice M.ga M.g M.gc, .bool v.cl] Zz := by rw [hZ2, ← hZ1b]; exact X8.setFar HNX.out.2.2.1
  have T9 : BoxL NT [.int .i64 td.kd, .int .i64 td.ms.1, .int .i64 td.ms.2.1, .string td.ms.2.2, .int .i64 td.ix, .int .i64 td.n] Zz := by rw [hZ2, ← hZ1b]; exact T8.setFar HNX.out.2.2.2
  have hS9 : (fun u : World => u.cell? ⟨NX, 0, none⟩ = some (.int .i64 v.cp) ∧ u.cell? ⟨NX, 1, none⟩ = some (.int .i64 v.se) ∧ u.cell? ⟨NX, 2, none⟩ = some (.slice M.ia M.i M.ic) ∧ u.cell? ⟨NX, 3, none⟩ = some (.int .i64 v.nx) ∧ u.cell? ⟨NX, 4, none⟩ = some (.slice (some ⟨g, 0, none⟩) M.s M.sc) ∧ u.cell? ⟨NX, 5, none⟩ = some (.slice (some ⟨g5, 0, none⟩) (M.l + 1) c5) ∧ u.cell? ⟨NX, 6, none⟩ = some (.slice M.ga M.g M.gc) ∧ u.cell? ⟨NX, 7, none⟩ = some (.bool v.cl) ∧ u.cell? ⟨NT, 0, none⟩ = some (.int .i64 td.kd) ∧ u.cell? ⟨NT, 1, none⟩ = some (.int .i64 td.ms.1) ∧ u.cell? ⟨NT, 2, none⟩ = some (.int .i64 td.ms.2.1) ∧ u.cell? ⟨NT, 3, none⟩ = some (.string td.ms.2.2) ∧ u.cell? ⟨NT, 4, none⟩ = some (.int .i64 td.ix) ∧ u.cell? ⟨NT, 5, none⟩ = some (.int .i64 td.n)) Zz := ⟨X9.cs 0 (by simp), X9.cs 1 (by simp), X9.cs 2 (by simp), X9.cs 3 (by simp), X9.cs 4 (by simp), X9.cs 5 (by simp), X9.cs 6 (by simp), X9.cs 7 (by simp), T9.cs 0 (by simp), T9.cs 1 (by simp), T9.cs 2 (by simp), T9.cs 3 (by simp), T9.cs 4 (by simp), T9.cs 5 (by simp)⟩
  have hfar : Below (w7.heap.size) w7 Zz ∨ True := .inr trivial
  have HD := hidOf (show RdsP B w v k x.s.id (.returned (.tuple #[.agg #[.int .i64 v.cp, .int .i64 v.se, .slice ia7 i7 ic7, .int .i64 v.nx, .slice (some ⟨g, 0, none⟩) M.s M.sc, .slice (some ⟨g5, 0, none⟩) (M.l + 1) c5, .slice M.ga M.g M.gc, .bool v.cl], .agg #[.int .i64 td.kd, .int .i64 td.ms.1, .int .i64 td.ms.2.1, .string td.ms.2.2, .int .i64 td.ix, .int .i64 td.n], .int .i64 4])) Zz from ⟨({ ({ M with xs := xs1, la := some ⟨g5, 0, none⟩, l := M.l + 1, lc := c5 } : Rm) with ia := ia7, i := i7, ic := ic7 } : Rm), by rw [HG.out, HTd.out, HCd.out, HV.out, HV7.out.1, HV7.out.2.1, HV7.out.2.2.1, HV7.out.2.2.2] <;> rfl, by
   rw [HV.out, hZ2]
   exact (row7.grown (setL_grown (g := N1) (o := 0) (vs := [.int .i64 v.cp, .int .i64 v.se, .slice ia7 i7 ic7, .int .i64 v.nx, .slice (some ⟨g, 0, none⟩) M.s M.sc, .slice (some ⟨g5, 0, none⟩) (M.l + 1) c5, .slice M.ga M.g M.gc, .bool v.cl]) ⟨rfl, rfl, rfl, Nat.le_refl _, fun _ _ _ => rfl⟩) (nb7 N1 (by have h := HNlt.out; omega) HNo.out.1)).grown (setL_grown (g := N2) (o := 0) (vs := [.int .i64 td.kd, .int .i64 td.ms.1, .int .i64 td.ms.2.1, .string td.ms.2.2, .int .i64 td.ix, .int .i64 td.n]) ⟨rfl, rfl, rfl, Nat.le_refl _, fun _ _ _ => rfl⟩) (nb7 N2 (by have h := HNlt.out; omega) HNo.out.2), ⟨Nat.le_trans hi7 HLe6.out.i, HLe6.out.s, HLe6.out.f, HLe6.out.l, HLe6.out.g⟩, by rw [hZ2]; exact setL_below (Nat.le_trans HB.out.1 HNge.out.2) (setL_below (Nat.le_trans HB.out.1 HNge.out.1) (HB6.out.drew.trans (b7.mono HBs.out)))⟩)
  clear hZ2 XZ TZ TZ1 hZ1b R7 U7 X7 T7 X8 T8 X9 T9 nb7
  refine hK.out _ _ hS7 (fun hHeld => ?_)
  clear hK K
  refine tW 4 (fun K hK => ?_)
  go_simp
  refine hK.out _ _ hS8 (fun hHeld => ?_)
  clear hK K
  refine tW 5 (fun K hK => ?_)
  go_simp
  refine hK.out _ _ hS9 (fun hHeld => ?_)
  clear hK K
  refine tR 6 ?_
  refine wpAnyH_done (by kernel_rfl) ?_ _
  refine NoPanic.normal ?_
  go_wp2_with fail
  exact bodyPost_ret (v := .tuple #[.agg #[.int .i64 v.cp, .int .i64 v.se, .slice ia7 i7 ic7, .int .i64 v.nx, .slice (some ⟨g, 0, none⟩) M.s M.sc, .slice (some ⟨g5, 0, none⟩) (M.l + 1) c5, .slice M.ga M.g M.gc, .bool v.cl], .agg #[.int .i64 td.kd, .int .i64 td.ms.1, .int .i64 td.ms.2.1, .string td.ms.2.2, .int .i64 td.ix, .int .i64 td.n], .int .i64 4]) (by simp [results, Tryz.results106, go_sem, t0, t1, t2, t3, t4, t5, t6, t7, o0, o1, o2, o3, o4, o5]) rfl HD.out
 ·skip
  have hc4b : (cd == 4) = false := by simp [hc4]
  have R6 := R2
  have T6 := T2
  have HRow := hidOf (show RRow B V2 ({ M with xs := xs1 } : Rm) (rdV v k) from row2)
  have HNo := hidOf (show some N1 ∉ blkR ({ M with xs := xs1 } : Rm) ∧ some N2 ∉ blkR ({ M with xs := xs1 } : Rm) from ⟨fun h => by have h1 := HNXl.out _ h; have h2 := HNge.out; omega, fun h => by have h1 := HNXl.out _ h; have h2 := HNge.out; omega⟩)
  have HLe6 := hidOf (show RLe ({ M with xs := xs1 } : Rm) 2097152 from ⟨by have h := hm.i; show M.i ≤ _; omega, by have h := hm.s; show M.s ≤ _; omega, fun y hy => by obtain ⟨z, hz, e⟩ := hn1 y hy; have h := hm.f z hz; omega, by have h := hm.l; show M.l ≤ _; omega, by have h := hm.g; show M.g ≤ _; omega⟩)
  have HB6 := hidOf B2
  have HBs := hidOf (show B ≤ V2.drew.heap.size by have h := B2.size; show B ≤ V2.heap.size; omega)
  have HNlt := hidOf (show N1 < V2.drew.heap.size ∧ N2 < V2.drew.heap.size from ⟨R6.lt, T6.lt⟩)
  clear R2 T2 row2 B2 hws hv2 hm hn1 hB0
  have hS6 : (fun u : World => u.cell? ⟨NX, 0, none⟩ = some (.int .i64 v.cp) ∧ u.cell? ⟨NX, 1, none⟩ = some (.int .i64 v.se) ∧ u.cell? ⟨NX, 2, none⟩ = some (.slice M.ia M.i M.ic) ∧ u.cell? ⟨NX, 3, none⟩ = some (.int .i64 v.nx) ∧ u.cell? ⟨NX, 4, none⟩ = some (.slice (some ⟨g, 0, none⟩) M.s M.sc) ∧ u.cell? ⟨NX, 5, none⟩ = some (.slice M.la M.l M.lc) ∧ u.cell? ⟨NX, 6, none⟩ = some (.slice M.ga M.g M.gc) ∧ u.cell? ⟨NX, 7, none⟩ = some (.bool v.cl) ∧ u.cell? ⟨NT, 0, none⟩ = some (.int .i64 td.kd) ∧ u.cell? ⟨NT, 1, none⟩ = some (.int .i64 td.ms.1) ∧ u.cell? ⟨NT, 2, none⟩ = some (.int .i64 td.ms.2.1) ∧ u.cell? ⟨NT, 3, none⟩ = some (.string td.ms.2.2) ∧ u.cell? ⟨NT, 4, none⟩ = some (.int .i64 td.ix) ∧ u.cell? ⟨NT, 5, none⟩ = some (.int .i64 td.n)) V2 := ⟨X2.cs 0 (by simp), X2.cs 1 (by simp), X2.cs 2 (by simp), X2.cs 3 (by simp), X2.cs 4 (by simp), X2.cs 5 (by simp), X2.cs 6 (by simp), X2.cs 7 (by simp), K2.cs 0 (by simp), K2.cs 1 (by simp), K2.cs 2 (by simp), K2.cs 3 (by simp), K2.cs 4 (by simp), K2.cs 5 (by simp)⟩
  have HTr := hidOf (show Calls Tryz.prog 86 #[.agg #[.int .i64 v.cp, .int .i64 v.se, .slice M.ia M.i M.ic, .int .i64 v.nx, .slice (some ⟨g, 0, none⟩) M.s M.sc, .slice M.la M.l M.lc, .slice M.ga M.g M.gc, .bool v.cl]] V2.drew (fun e w' => TrimQ B V2.drew ({ M with xs := xs1 } : Rm) (rdV v k) e w') by
   have h := l9Trim_any2 B ({ M with xs := xs1 } : Rm) (rdV v k) V2.drew (HRow.out.keep (Below.refl _ _).drew) HBs.out HLe6.out HK.out.se HK.out.cp HOb.out.2 HOb.out.1
   have e : (Value.agg #[.int .i64 v.cp, .int .i64 v.se, .slice M.ia M.i M.ic, .int .i64 v.nx, .slice (some ⟨g, 0, none⟩) M.s M.sc, .slice M.la M.l M.lc, .slice M.ga M.g M.gc, .bool v.cl]) = .agg #[.int .i64 (rdV v k).cp, .int .i64 (rdV v k).se, .slice ({ M with xs := xs1 } : Rm).ia ({ M with xs := xs1 } : Rm).i ({ M with xs := xs1 } : Rm).ic, .int .i64 (rdV v k).nx, .slice ({ M with xs := xs1 } : Rm).sa ({ M with xs := xs1 } : Rm).s ({ M with xs := xs1 } : Rm).sc, .slice ({ M with xs := xs1 } : Rm).la ({ M with xs := xs1 } : Rm).l ({ M with xs := xs1 } : Rm).lc, .slice ({ M with xs := xs1 } : Rm).ga ({ M with xs := xs1 } : Rm).g ({ M with xs := xs1 } : Rm).gc, .bool (rdV v k).cl] := by rw [← HG.out] <;> rfl
   rw [e]
   exact h)
  have HV := hidOf (show trimR (waitV v k x.s.id) = trimR (rdV v k) by unfold waitV; rw [HCd.out, if_neg hc4])
  have HV7 := hidOf (trim_same (rdV v k))
  go_upto_region 5 with fail
  refine wp_region_noPanic ?_
  refine wp_region_held_drew (S := fun u => u.cell? ⟨NX, 0, none⟩ = some (.int .i64 v.cp) ∧ u.cell? ⟨NX, 1, none⟩ = some (.int .i64 v.se) ∧ u.cell? ⟨NX, 2, none⟩ = some (.slice M.ia M.i M.ic) ∧ u.cell? ⟨NX, 3, none⟩ = some (.int .i64 v.nx) ∧ u.cell? ⟨NX, 4, none⟩ = some (.slice (some ⟨g, 0, none⟩) M.s M.sc) ∧ u.cell? ⟨NX, 5, none⟩ = some (.slice M.la M.l M.lc) ∧ u.cell? ⟨NX, 6, none⟩ = some (.slice M.ga M.g M.gc) ∧ u.cell? ⟨NX, 7, none⟩ = some (.bool v.cl) ∧ u.cell? ⟨NT, 0, none⟩ = some (.int .i64 td.kd) ∧ u.cell? ⟨NT, 1, none⟩ = some (.int .i64 td.ms.1) ∧ u.cell? ⟨NT, 2, none⟩ = some (.int .i64 td.ms.2.1) ∧ u.cell? ⟨NT, 3, none⟩ = some (.string td.ms.2.2) ∧ u.cell? ⟨NT, 4, none⟩ = some (.int .i64 td.ix) ∧ u.cell? ⟨NT, 5, none⟩ = some (.int .i64 td.n)) (by kernel_rfl) hS6 (fun hHeld => ?_)
  refine tK 0 ?_ rfl (by kernel_rfl) (by rfl) ?_ (by assumption) (fun _ _ _ h => h) ?_
  case refine_2 => (intro w hSw; (try dsimp only at hSw); go_simp; try with_reducible rfl)
  simp only [Act.put, List.getElem_toArray, List.getElem_cons_zero, List.setIfInBounds_toArray, List.set_cons_zero, List.set_cons_succ]
  refine tR 2 ?_
  refine tR 3 ?_
  refine tW 1 (fun K hK => ?_)
  go_simp
  refine (HTr.out).mono ?_
  rintro e w7 ⟨ia7, i7, ic7, he7, row7, hi7, b7, hq7⟩
  obtain rfl : e = .returned (.agg #[.int .i64 v.cp, .int .i64 v.se, .slice ia7 i7 ic7, .int .i64 v.nx, .slice (some ⟨g, 0, none⟩) M.s M.sc, .slice M.la M.l M.lc, .slice M.ga M.g M.gc, .bool v.cl]) := by rw [he7, ← HG.out] <;> rfl
  clear he7
  go_wp2_with fail
  have X7 := (X2.keep (Below.refl _ _).drew).keep b7
  have T7 := (K2.keep (Below.refl _ _).drew).keep b7
  have R7 := (R6.keep (Below.refl _ _).drew).keep b7
  have U7 := (T6.keep (Below.refl _ _).drew).keep b7
  have nb7 : ∀ n, n < V2.drew.heap.size → some n ∉ blkR ({ M with xs := xs1 } : Rm) → some n ∉ blkR { ({ M with xs := xs1 } : Rm) with ia := ia7, i := i7, ic := ic7 } := fun n hn hno hm => by
   unfold blkR at hm hno
   rw [List.mem_cons] at hm hno
   rcases hm with e | e
   ·rcases hq7 with h | h
    ·exact hno (.inl (by rw [e]; exact h))
    ·have := h n e.symm; omega
   ·exact hno (.inr e)
  have hS7 : (fun u : World => u.cell? ⟨NX, 0, none⟩ = some (.int .i64 v.cp) ∧ u.cell? ⟨NX, 1, none⟩ = some (.int .i64 v.se) ∧ u.cell? ⟨NX, 2, none⟩ = some (.slice M.ia M.i M.ic) ∧ u.cell? ⟨NX, 3, none⟩ = some (.int .i64 v.nx) ∧ u.cell? ⟨NX, 4, none⟩ = some (.slice (some ⟨g, 0, none⟩) M.s M.sc) ∧ u.cell? ⟨NX, 5, none⟩ = some (.slice M.la M.l M.lc) ∧ u.cell? ⟨NX, 6, none⟩ = some (.slice M.ga M.g M.gc) ∧ u.cell? ⟨NX, 7, none⟩ = some (.bool v.cl) ∧ u.cell? ⟨NT, 0, none⟩ = some (.int .i64 td.kd) ∧ u.cell? ⟨NT, 1, none⟩ = some (.int .i64 td.ms.1) ∧ u.cell? ⟨NT, 2, none⟩ = some (.int .i64 td.ms.2.1) ∧ u.cell? ⟨NT, 3, none⟩ = some (.string td.ms.2.2) ∧ u.cell? ⟨NT, 4, none⟩ = some (.int .i64 td.ix) ∧ u.cell? ⟨NT, 5, none⟩ = some (.int .i64 td.n)) w7 := ⟨X7.cs 0 (by simp), X7.cs 1 (by simp), X7.cs 2 (by simp), X7.cs 3 (by simp), X7.cs 4 (by simp), X7.cs 5 (by simp), X7.cs 6 (by simp), X7.cs 7 (by simp), T7.cs 0 (by simp), T7.cs 1 (by simp), T7.cs 2 (by simp), T7.cs 3 (by simp), T7.cs 4 (by simp), T7.cs 5 (by simp)⟩
  obtain ⟨r0, r1, r2, r3, r4, r5, r6, r7⟩ := box8 R7
  have rf := R7.fr
  obtain ⟨u0, u1, u2, u3, u4, u5⟩ := box6 U7
  have uf := U7.fr
  obtain ⟨Z1, hZ1⟩ : ∃ Z, ((((((((w7.setCell ⟨N1, 0, none⟩ (.int .i64 v.cp)).setCell ⟨N1, 1, none⟩ (.int .i64 v.se)).setCell ⟨N1, 2, none⟩ (.slice ia7 i7 ic7)).setCell ⟨N1, 3, none⟩ (.int .i64 v.nx)).setCell ⟨N1, 4, none⟩ (.slice (some ⟨g, 0, none⟩) M.s M.sc)).setCell ⟨N1, 5, none⟩ (.slice M.la M.l M.lc)).setCell ⟨N1, 6, none⟩ (.slice M.ga M.g M.gc)).setCell ⟨N1, 7, none⟩ (.bool v.cl)) = Z := ⟨_, rfl⟩
  have hZ1b : Z1 = setL w7 N1 0 [.int .i64 v.cp, .int .i64 v.se, .slice ia7 i7 ic7, .int .i64 v.nx, .slice (some ⟨g, 0, none⟩) M.s M.sc, .slice M.la M.l M.lc, .slice M.ga M.g M.gc, .bool v.cl] := by rw [← hZ1]; rfl
  have TZ1 : BoxL N2 [.int .i64 0, .int .i64 0, .int .i64 0, .string ⟨#[]⟩, .int .i64 0, .int .i64 0] Z1 := by rw [hZ1b]; exact U7.setFar HN12.out.2
  obtain ⟨z0, z1, z2, z3, z4, z5⟩ := box6 TZ1
  have zf := TZ1.fr
  obtain ⟨Zz, hZ⟩ : ∃ Z, ((((((Z1.setCell ⟨N2, 0, none⟩ (.int .i64 td.kd)).setCell ⟨N2, 1, none⟩ (.int .i64 td.ms.1)).setCell ⟨N2, 2, none⟩ (.int .i64 td.ms.2.1)).setCell ⟨N2, 3, none⟩ (.string td.ms.2.2)).setCell ⟨N2, 4, none⟩ (.int .i64 td.ix)).setCell ⟨N2, 5, none⟩ (.int .i64 td.n)) = Z := ⟨_, rfl⟩
  have hZ2 : Zz = setL (setL w7 N1 0 [.int .i64 v.cp, .int .i64 v.se, .slice ia7 i7 ic7, .int .i64 v.nx, .slice (some ⟨g, 0, none⟩) M.s M.sc, .slice M.la M.l M.lc, .slice M.ga M.g M.gc, .bool v.cl]) N2 0 [.int .i64 td.kd, .int .i64 td.ms.1, .int .i64 td.ms.2.1, .string td.ms.2.2, .int .i64 td.ix, .int .i64 td.n] := by rw [← hZ, hZ1b]; rfl
  have XZ : BoxL N1 [.int .i64 v.cp, .int .i64 v.se, .slice ia7 i7 ic7, .int .i64 v.nx, .slice (some ⟨g, 0, none⟩) M.s M.sc, .slice M.la M.l M.lc, .slice M.ga M.g M.gc, .bool v.cl] Zz := by rw [hZ2]; exact (R7.setAll (us := [.int .i64 v.cp, .int .i64 v.se, .slice ia7 i7 ic7, .int .i64 v.nx, .slice (some ⟨g, 0, none⟩) M.s M.sc, .slice M.la M.l M.lc, .slice M.ga M.g M.gc, .bool v.cl]) rfl).setFar HN12.out.1
  have TZ : BoxL N2 [.int .i64 td.kd, .int .i64 td.ms.1, .int .i64 td.ms.2.1, .string td.ms.2.2, .int .i64 td.ix, .int .i64 td.n] Zz := by rw [hZ2]; exact (U7.setFar HN12.out.2).setAll (us := [.int .i64 td.kd, .int .i64 td.ms.1, .int .i64 td.ms.2.1, .string td.ms.2.2, .int .i64 td.ix, .int .i64 td.n]) rfl
  obtain ⟨t0, t1, t2, t3, t4, t5, t6, t7⟩ := box8 XZ
  obtain ⟨o0, o1, o2, o3, o4, o5⟩ := box6 TZ
  have X8 : BoxL NX [.int .i64 v.cp, .int .i64 v.se, .slice M.ia M.i M.ic, .int .i64 v.nx, .slice (some ⟨g, 0, none⟩) M.s M.sc, .slice M.la M.l M.lc, .slice M.ga M.g M.gc, .bool v.cl] Z1 := by rw [hZ1b]; exact X7.setFar HNX.out.1
  have T8 : BoxL NT [.int .i64 td.kd, .int .i64 td.ms.1, .int .i64 td.ms.2.1, .string td.ms.2.2, .int .i64 td.ix, .int .i64 td.n] Z1 := by rw [hZ1b]; exact T7.setFar HNX.out.2.1
  have hS8 : (fun u : World => u.cell? ⟨NX, 0, none⟩ = some (.int .i64 v.cp) ∧ u.cell? ⟨NX, 1, none⟩ = some (.int .i64 v.se) ∧ u.cell? ⟨NX, 2, none⟩ = some (.slice M.ia M.i M.ic) ∧ u.cell? ⟨NX, 3, none⟩ = some (.int .i64 v.nx) ∧ u.cell? ⟨NX, 4, none⟩ = some (.slice (some ⟨g, 0, none⟩) M.s M.sc) ∧ u.cell? ⟨NX, 5, none⟩ = some (.slice M.la M.l M.lc) ∧ u.cell? ⟨NX, 6, none⟩ = some (.slice M.ga M.g M.gc) ∧ u.cell? ⟨NX, 7, none⟩ = some (.bool v.cl) ∧ u.cell? ⟨NT, 0, none⟩ = some (.int .i64 td.kd) ∧ u.cell? ⟨NT, 1, none⟩ = some (.int .i64 td.ms.1) ∧ u.cell? ⟨NT, 2, none⟩ = some (.int .i64 td.ms.2.1) ∧ u.cell? ⟨NT, 3, none⟩ = some (.string td.ms.2.2) ∧ u.cell? ⟨NT, 4, none⟩ = some (.int .i64 td.ix) ∧ u.cell? ⟨NT, 5, none⟩ = some (.int .i64 td.n)) Z1 := ⟨X8.cs 0 (by simp), X8.cs 1 (by simp), X8.cs 2 (by simp), X8.cs 3 (by simp), X8.cs 4 (by simp), X8.cs 5 (by simp), X8.cs 6 (by simp), X8.cs 7 (by simp), T8.cs 0 (by simp), T8.cs 1 (by simp), T8.cs 2 (by simp), T8.cs 3 (by simp), T8.cs 4 (by simp), T8.cs 5 (by simp)⟩
  have X9 : BoxL NX [.int .i64 v.cp, .int .i64 v.se, .slice M.ia M.i M.ic, .int .i64 v.nx, .slice (some ⟨g, 0, none⟩) M.s M.sc, .slice M.la M.l M.lc, .slice M.ga M.g M.gc, .bool v.cl] Zz := by rw [hZ2, ← hZ1b]; exact X8.setFar HNX.out.2.2.1
  have T9 : BoxL NT [.int .i64 td.kd, .int .i64 td.ms.1, .int .i64 td.ms.2.1, .string td.ms.2.2, .int .i64 td.ix, .int .i64 td.n] Zz := by rw [hZ2, ← hZ1b]; exact T8.setFar HNX.out.2.2.2
  have hS9 : (fun u : World => u.cell? ⟨NX, 0, none⟩ = some (.int .i64 v.cp) ∧ u.cell? ⟨NX, 1, none⟩ = some (.int .i64 v.se) ∧ u.cell? ⟨NX, 2, none⟩ = some (.slice M.ia M.i M.ic) ∧ u.cell? ⟨NX, 3, none⟩ = some (.int .i64 v.nx) ∧ u.cell? ⟨NX, 4, none⟩ = some (.slice (some ⟨g, 0, none⟩) M.s M.sc) ∧ u.cell? ⟨NX, 5, none⟩ = some (.slice M.la M.l M.lc) ∧ u.cell? ⟨NX, 6, none⟩ = some (.slice M.ga M.g M.gc) ∧ u.cell? ⟨NX, 7, none⟩ = some (.bool v.cl) ∧ u.cell? ⟨NT, 0, none⟩ = some (.int .i64 td.kd) ∧ u.cell? ⟨NT, 1, none⟩ = some (.int .i64 td.ms.1) ∧ u.cell? ⟨NT, 2, none⟩ = some (.int .i64 td.ms.2.1) ∧ u.cell? ⟨NT, 3, none⟩ = some (.string td.ms.2.2) ∧ u.cell? ⟨NT, 4, none⟩ = some (.int .i64 td.ix) ∧ u.cell? ⟨NT, 5, none⟩ = some (.int .i64 td.n)) Zz := ⟨X9.cs 0 (by simp), X9.cs 1 (by simp), X9.cs 2 (by simp), X9.cs 3 (by simp), X9.cs 4 (by simp), X9.cs 5 (by simp), X9.cs 6 (by simp), X9.cs 7 (by simp), T9.cs 0 (by simp), T9.cs 1 (by simp), T9.cs 2 (by simp), T9.cs 3 (by simp), T9.cs 4 (by simp), T9.cs 5 (by simp)⟩
  have hfar : Below (w7.heap.size) w7 Zz ∨ True := .inr trivial
  have HD := hidOf (show RdsP B w v k x.s.id (.returned (.tuple #[.agg #[.int .i64 v.cp, .int .i64 v.se, .slice ia7 i7 ic7, .int .i64 v.nx, .slice (some ⟨g, 0, none⟩) M.s M.sc, .slice M.la M.l M.lc, .slice M.ga M.g M.gc, .bool v.cl], .agg #[.int .i64 td.kd, .int .i64 td.ms.1, .int .i64 td.ms.2.1, .string td.ms.2.2, .int .i64 td.ix, .int .i64 td.n], .int .i64 cd])) Zz from ⟨({ ({ M with xs := xs1 } : Rm) with ia := ia7, i := i7, ic := ic7 } : Rm), by rw [HG.out, HTd.out, HCd.out, HV.out, HV7.out.1, HV7.out.2.1, HV7.out.2.2.1, HV7.out.2.2.2] <;> rfl, by
   rw [HV.out, hZ2]
   exact (row7.grown (setL_grown (g := N1) (o := 0) (vs := [.int .i64 v.cp, .int .i64 v.se, .slice ia7 i7 ic7, .int .i64 v.nx, .slice (some ⟨g, 0, none⟩) M.s M.sc, .slice M.la M.l M.lc, .slice M.ga M.g M.gc, .bool v.cl]) ⟨rfl, rfl, rfl, Nat.le_refl _, fun _ _ _ => rfl⟩) (nb7 N1 (by have h := HNlt.out; omega) HNo.out.1)).grown (setL_grown (g := N2) (o := 0) (vs := [.int .i64 td.kd, .int .i64 td.ms.1, .int .i64 td.ms.2.1, .string td.ms.2.2, .int .i64 td.ix, .int .i64 td.n]) ⟨rfl, rfl, rfl, Nat.le_refl _, fun _ _ _ => rfl⟩) (nb7 N2 (by have h := HNlt.out; omega) HNo.out.2), ⟨Nat.le_trans hi7 HLe6.out.i, HLe6.out.s, HLe6.out.f, HLe6.out.l, HLe6.out.g⟩, by rw [hZ2]; exact setL_below (Nat.le_trans HB.out.1 HNge.out.2) (setL_below (Nat.le_trans HB.out.1 HNge.out.1) (HB6.out.drew.trans (b7.mono HBs.out)))⟩)
  clear hZ2 XZ TZ TZ1 hZ1b R7 U7 X7 T7 X8 T8 X9 T9 nb7
  refine hK.out _ _ hS7 (fun hHeld => ?_)
  clear hK K
  refine tW 4 (fun K hK => ?_)
  go_simp
  refine hK.out _ _ hS8 (fun hHeld => ?_)
  clear hK K
  refine tW 5 (fun K hK => ?_)
  go_simp
  refine hK.out _ _ hS9 (fun hHeld => ?_)
  clear hK K
  refine tR 6 ?_
  refine wpAnyH_done (by kernel_rfl) ?_ _
  refine NoPanic.normal ?_
  go_wp2_with fail
  exact bodyPost_ret (v := .tuple #[.agg #[.int .i64 v.cp, .int .i64 v.se, .slice ia7 i7 ic7, .int .i64 v.nx, .slice (some ⟨g, 0, none⟩) M.s M.sc, .slice M.la M.l M.lc, .slice M.ga M.g M.gc, .bool v.cl], .agg #[.int .i64 td.kd, .int .i64 td.ms.1, .int .i64 td.ms.2.1, .string td.ms.2.2, .int .i64 td.ix, .int .i64 td.n], .int .i64 cd]) (by simp [results, Tryz.results106, go_sem, t0, t1, t2, t3, t4, t5, t6, t7, o0, o1, o2, o3, o4, o5]) rfl HD.out
end Go.Proofs.YtdboaoejlkkoeaaGreat
