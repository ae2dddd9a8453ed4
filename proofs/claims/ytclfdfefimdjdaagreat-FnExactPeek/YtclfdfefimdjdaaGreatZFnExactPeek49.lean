/-
  Peek of the specification and of the program.
-/
import Derived.Test.YtclfdfefimdjdaaGreatZFnExactPeek48
namespace Go.Proofs.YtclfdfefimdjdaaGreat
open Go.RowKit Go.Maps Pl Il

def PekDone (F : Nat) : Prop := ∀ (M : Rm) (v : Rv) (id : Int) (w : World), RIn w M v → RLe M 1048576 → RCap M → RWf v → (Lit.int .i64 id).wf = true → GOk w →
  Calls Tryz.prog F #[.agg #[.int .i64 v.cp, .int .i64 v.se, .slice M.ia M.i M.ic, .int .i64 v.nx, .slice M.sa M.s M.sc, .slice M.la M.l M.lc, .slice M.ga M.g M.gc, .bool v.cl], .int .i64 id] w fun e w' => e = .returned (.tuple #[.agg #[.int .i64 (recT v id).kd, .int .i64 (recT v id).ms.1, .int .i64 (recT v id).ms.2.1, .string (recT v id).ms.2.2, .int .i64 (recT v id).ix, .int .i64 (recT v id).n], .int .i64 (recC v id)]) ∧ Below w.heap.size w w'
set_option maxRecDepth 100000 in
set_option maxHeartbeats 4000000 in
theorem specPeek_any : PekDone 64 := by
  intro M v id w hI hm hcap hw hid hG
  obtain ⟨U0, hU0⟩ : ∃ W, W = (w.alloc (.cells #[.int .i64 v.cp, .int .i64 v.se, .slice M.ia M.i M.ic, .int .i64 v.nx, .slice M.sa M.s M.sc, .slice M.la M.l M.lc, .slice M.ga M.g M.gc, .bool v.cl] 28)).alloc (.cells #[.int .i64 0, .int .i64 0, .int .i64 0, .string ⟨#[]⟩, .int .i64 0, .int .i64 0] 53) := ⟨_, rfl⟩
  have B0 : Below w.heap.size w U0 := by rw [hU0]; exact bl_alloc (bl_alloc (Below.refl _ _) _) _
  have A0 : BoxL w.heap.size (rC M v) U0 := by rw [hU0]; exact (BoxL.new w (rC M v) _).alloc _
  have T0 : BoxL (w.heap.size + 1) [.int .i64 0, .int .i64 0, .int .i64 0, .string ⟨#[]⟩, .int .i64 0, .int .i64 0] U0 := by rw [hU0]; exact boxT1 w _ [.int .i64 0, .int .i64 0, .int .i64 0, .string ⟨#[]⟩, .int .i64 0, .int .i64 0] _
  have HC := hidOf (specReceive_any M v id U0 (hI.keep B0) hm hcap hw hid (hG.keep B0))
  obtain ⟨v5, hv5⟩ : ∃ v5, recG v id = v5 := ⟨_, rfl⟩
  obtain ⟨td, htd⟩ : ∃ td, recT v id = td := ⟨_, rfl⟩
  obtain ⟨cd, hcd⟩ : ∃ cd, recC v id = cd := ⟨_, rfl⟩
  rw [hv5, htd, hcd] at HC
  rw [htd, hcd]
  obtain ⟨p0, p1, p2, p3, p4, p5, p6, p7⟩ := box8 A0
  clear hI hm hcap hw hid hG hv5 htd hcd
  go_enter Tryz.func64, Tryz.ntmps64
  go_upto_region 1 with fail
  rw [← hU0]
  clear hU0
  generalize hN1 : w.heap.size + 1 = N1 at T0 ⊢
  have HN1 := hidOf (show w.heap.size ≤ N1 by omega)
  clear hN1
  go_wp2_with fail
  refine (HC.out).mono ?_
  rintro e w1 ⟨M5, rfl, _, _, b1⟩
  obtain ⟨V2, hV2⟩ : ∃ V, V = (w1.alloc (.cells #[.int .i64 v5.cp, .int .i64 v5.se, .slice M5.ia M5.i M5.ic, .int .i64 v5.nx, .slice M5.sa M5.s M5.sc, .slice M5.la M5.l M5.lc, .slice M5.ga M5.g M5.gc, .bool v5.cl] 28)).alloc (.cells #[.int .i64 td.kd, .int .i64 td.ms.1, .int .i64 td.ms.2.1, .string td.ms.2.2, .int .i64 td.ix, .int .i64 td.n] 53) := ⟨_, rfl⟩
  have bV2 : Below w1.heap.size w1 V2 := by rw [hV2]; exact bl_alloc (bl_alloc (Below.refl _ _) _) _
  have K2 : BoxL (w1.heap.size + 1) [.int .i64 td.kd, .int .i64 td.ms.1, .int .i64 td.ms.2.1, .string td.ms.2.2, .int .i64 td.ix, .int .i64 td.n] V2 := by rw [hV2]; exact boxT1 w1 _ [.int .i64 td.kd, .int .i64 td.ms.1, .int .i64 td.ms.2.1, .string td.ms.2.2, .int .i64 td.ix, .int .i64 td.n] _
  have T2 := (T0.keep b1).keep bV2
  have B2 := bl_trans (bl_trans B0 b1) bV2
  clear p0 p1 p2 p3 p4 p5 p6 p7 A0 T0 B0 b1 bV2 HC
  go_upto_region 2 with fail
  rw [← hV2]
  clear hV2
  generalize hNT : w1.heap.size + 1 = NT at K2 ⊢
  clear hNT
  obtain ⟨u0, u1, u2, u3, u4, u5⟩ := box6 T2
  have uf := T2.fr
  obtain ⟨k0, k1, k2, k3, k4, k5⟩ := box6 K2
  obtain ⟨Zz, hZ⟩ : ∃ Z, ((((((V2.setCell ⟨N1, 0, none⟩ (.int .i64 td.kd)).setCell ⟨N1, 1, none⟩ (.int .i64 td.ms.1)).setCell ⟨N1, 2, none⟩ (.int .i64 td.ms.2.1)).setCell ⟨N1, 3, none⟩ (.string td.ms.2.2)).setCell ⟨N1, 4, none⟩ (.int .i64 td.ix)).setCell ⟨N1, 5, none⟩ (.int .i64 td.n)) = Z := ⟨_, rfl⟩
  have hZ2 : Zz = setL V2 N1 0 [.int .i64 td.kd, .int .i64 td.ms.1, .int .i64 td.ms.2.1, .string td.ms.2.2, .int .i64 td.ix, .int .i64 td.n] := by rw [← hZ]; rfl
  have TZ : BoxL N1 [.int .i64 td.kd, .int .i64 td.ms.1, .int .i64 td.ms.2.1, .string td.ms.2.2, .int .i64 td.ix, .int .i64 td.n] Zz := by rw [hZ2]; exact T2.setAll (us := [.int .i64 td.kd, .int .i64 td.ms.1, .int .i64 td.ms.2.1, .string td.ms.2.2, .int .i64 td.ix, .int .i64 td.n]) rfl
  have HBZ := hidOf (show Below w.heap.size w Zz by rw [hZ2]; exact setL_below HN1.out B2)
  obtain ⟨t0, t1, t2, t3, t4, t5⟩ := box6 TZ
  clear hZ2 TZ T2 K2 B2
  go_wp2_with fail
  clear hZ
  exact bodyPost_ret (v := .tuple #[.agg #[.int .i64 td.kd, .int .i64 td.ms.1, .int .i64 td.ms.2.1, .string td.ms.2.2, .int .i64 td.ix, .int .i64 td.n], .int .i64 cd]) (by simp [results, Tryz.results64, go_sem, t0, t1, t2, t3, t4, t5]) rfl ⟨rfl, HBZ.out⟩
set_option maxRecDepth 100000 in
set_option maxHeartbeats 4000000 in
theorem implPeek_any : PekDone 32 := by
  intro M v id w hI hm hcap hw hid hG
  obtain ⟨U0, hU0⟩ : ∃ W, W = (w.alloc (.cells #[.int .i64 v.cp, .int .i64 v.se, .slice M.ia M.i M.ic, .int .i64 v.nx, .slice M.sa M.s M.sc, .slice M.la M.l M.lc, .slice M.ga M.g M.gc, .bool v.cl] 28)).alloc (.cells #[.int .i64 0, .int .i64 0, .int .i64 0, .string ⟨#[]⟩, .int .i64 0, .int .i64 0] 53) := ⟨_, rfl⟩
  have B0 : Below w.heap.size w U0 := by rw [hU0]; exact bl_alloc (bl_alloc (Below.refl _ _) _) _
  have A0 : BoxL w.heap.size (rC M v) U0 := by rw [hU0]; exact (BoxL.new w (rC M v) _).alloc _
  have T0 : BoxL (w.heap.size + 1) [.int .i64 0, .int .i64 0, .int .i64 0, .string ⟨#[]⟩, .int .i64 0, .int .i64 0] U0 := by rw [hU0]; exact boxT1 w _ [.int .i64 0, .int .i64 0, .int .i64 0, .string ⟨#[]⟩, .int .i64 0, .int .i64 0] _
  have HC := hidOf (implReceive_any M v id U0 (hI.keep B0) hm hcap hw hid (hG.keep B0))
  obtain ⟨v5, hv5⟩ : ∃ v5, recG v id = v5 := ⟨_, rfl⟩
  obtain ⟨td, htd⟩ : ∃ td, recT v id = td := ⟨_, rfl⟩
  obtain ⟨cd, hcd⟩ : ∃ cd, recC v id = cd := ⟨_, rfl⟩
  rw [hv5, htd, hcd] at HC
  rw [htd, hcd]
  obtain ⟨p0, p1, p2, p3, p4, p5, p6, p7⟩ := box8 A0
  clear hI hm hcap hw hid hG hv5 htd hcd
  go_enter Tryz.func32, Tryz.ntmps32
  go_upto_region 1 with fail
  rw [← hU0]
  clear hU0
  generalize hN1 : w.heap.size + 1 = N1 at T0 ⊢
  have HN1 := hidOf (show w.heap.size ≤ N1 by omega)
  clear hN1
  go_wp2_with fail
  refine (HC.out).mono ?_
  rintro e w1 ⟨M5, rfl, _, _, b1⟩
  obtain ⟨V2, hV2⟩ : ∃ V, V = (w1.alloc (.cells #[.int .i64 v5.cp, .int .i64 v5.se, .slice M5.ia M5.i M5.ic, .int .i64 v5.nx, .slice M5.sa M5.s M5.sc, .slice M5.la M5.l M5.lc, .slice M5.ga M5.g M5.gc, .bool v5.cl] 28)).alloc (.cells #[.int .i64 td.kd, .int .i64 td.ms.1, .int .i64 td.ms.2.1, .string td.ms.2.2, .int .i64 td.ix, .int .i64 td.n] 53) := ⟨_, rfl⟩
  have bV2 : Below w1.heap.size w1 V2 := by rw [hV2]; exact bl_alloc (bl_alloc (Below.refl _ _) _) _
  have K2 : BoxL (w1.heap.size + 1) [.int .i64 td.kd, .int .i64 td.ms.1, .int .i64 td.ms.2.1, .string td.ms.2.2, .int .i64 td.ix, .int .i64 td.n] V2 := by rw [hV2]; exact boxT1 w1 _ [.int .i64 td.kd, .int .i64 td.ms.1, .int .i64 td.ms.2.1, .string td.ms.2.2, .int .i64 td.ix, .int .i64 td.n] _
  have T2 := (T0.keep b1).keep bV2
  have B2 := bl_trans (bl_trans B0 b1) bV2
  clear p0 p1 p2 p3 p4 p5 p6 p7 A0 T0 B0 b1 bV2 HC
  go_upto_region 2 with fail
  rw [← hV2]
  clear hV2
  generalize hNT : w1.heap.size + 1 = NT at K2 ⊢
  clear hNT
  obtain ⟨u0, u1, u2, u3, u4, u5⟩ := box6 T2
  have uf := T2.fr
  obtain ⟨k0, k1, k2, k3, k4, k5⟩ := box6 K2
  obtain ⟨Zz, hZ⟩ : ∃ Z, ((((((V2.setCell ⟨N1, 0, none⟩ (.int .i64 td.kd)).setCell ⟨N1, 1, none⟩ (.int .i64 td.ms.1)).setCell ⟨N1, 2, none⟩ (.int .i64 td.ms.2.1)).setCell ⟨N1, 3, none⟩ (.string td.ms.2.2)).setCell ⟨N1, 4, none⟩ (.int .i64 td.ix)).setCell ⟨N1, 5, none⟩ (.int .i64 td.n)) = Z := ⟨_, rfl⟩
  have hZ2 : Zz = setL V2 N1 0 [.int .i64 td.kd, .int .i64 td.ms.1, .int .i64 td.ms.2.1, .string td.ms.2.2, .int .i64 td.ix, .int .i64 td.n] := by rw [← hZ]; rfl
  have TZ : BoxL N1 [.int .i64 td.kd, .int .i64 td.ms.1, .int .i64 td.ms.2.1, .string td.ms.2.2, .int .i64 td.ix, .int .i64 td.n] Zz := by rw [hZ2]; exact T2.setAll (us := [.int .i64 td.kd, .int .i64 td.ms.1, .int .i64 td.ms.2.1, .string td.ms.2.2, .int .i64 td.ix, .int .i64 td.n]) rfl
  have HBZ := hidOf (show Below w.heap.size w Zz by rw [hZ2]; exact setL_below HN1.out B2)
  obtain ⟨t0, t1, t2, t3, t4, t5⟩ := box6 TZ
  clear hZ2 TZ T2 K2 B2
  go_wp2_with fail
  clear hZ
  exact bodyPost_ret (v := .tuple #[.agg #[.int .i64 td.kd, .int .i64 td.ms.1, .int .i64 td.ms.2.1, .string td.ms.2.2, .int .i64 td.ix, .int .i64 td.n], .int .i64 cd]) (by simp [results, Tryz.results32, go_sem, t0, t1, t2, t3, t4, t5]) rfl ⟨rfl, HBZ.out⟩
end Go.Proofs.YtclfdfefimdjdaaGreat
