/-
  The program's CloseRing.
-/
import Derived.Test.YtihdglmiecifjaaGreatZRa62
import Derived.Deep.RegionWith
namespace Go.Proofs.YtihdglmiecifjaaGreat
open Go.RowKit Go.Maps Pl Il

/-- A row that lay there ahead of what is told. -/
theorem far_told {B t s n c : Nat} {u : World} {a : Option Addr} {xs : List Value} {ta : Option Addr} {tm : Nat} (h : u.ownsRow B t s (.slice a n c) n xs) (ht : tm = 0 ∨ ∀ b off, ta = some ⟨b, off, none⟩ → u.heap.size ≤ b) : Far a n ta tm := by
  rcases ht with h0 | ht
  · exact .inr (.inl h0)
  · refine .inr (.inr fun b off b' off' e e' hb => ?_)
    obtain ⟨_, ⟨e1, _⟩ | ⟨g, cap, cur, e1, _, hg, _⟩⟩ := h
    · cases e1; cases e
    · cases e1
      cases e
      have h1 := (Array.getElem?_eq_some_iff.1 hg).1
      have h2 := ht b' off' e'
      omega
theorem far_new {B n g : Nat} {u : World} {ta : Option Addr} {tm : Nat} {xs : List Int} (h : Il.OwnAt B u ta tm xs) (hg : u.heap.size ≤ g) : Far (some ⟨g, 0, none⟩) n ta tm := by
  rcases h.ints.row with h0 | ⟨b, off, rfl, hlt, _⟩
  · exact .inr (.inl h0)
  · exact .inr (.inr fun b1 o1 b2 o2 e e' hb => by cases e; cases e'; omega)
theorem far_line {A : Na} {ta : Option Addr} {tm : Nat} (h : Apart3 A.a A.n A.a' A.n' ta tm) : Far A.a A.n ta tm ∧ Far A.a' A.n' ta tm := by
  rcases h with h0 | h
  · exact ⟨.inr (.inl h0), .inr (.inl h0)⟩
  · cases ta with
    | none => exact ⟨.inr (.inr fun _ _ _ _ _ e' => by cases e'), .inr (.inr fun _ _ _ _ _ e' => by cases e')⟩
    | some ad =>
      obtain ⟨bt, ot, st⟩ := ad
      cases st with
      | some _ => exact ⟨.inr (.inr fun _ _ _ _ _ e' => by cases e'), .inr (.inr fun _ _ _ _ _ e' => by cases e')⟩
      | none =>
        obtain ⟨h1, h2⟩ := h bt ot rfl
        constructor
        · rcases h1 with h1 | h1
          · exact .inl h1
          · exact .inr (.inr fun b off b' off' e e' hb => by cases e'; exact h1 b off e hb.symm)
        · rcases h2 with h2 | h2
          · exact .inl h2
          · exact .inr (.inr fun b off b' off' e e' hb => by cases e'; exact h2 b off e hb.symm)
theorem own_set {B N : Nat} {u u' : World} {ta : Option Addr} {tm : Nat} {xs : List Int} (h : Il.OwnAt B u ta tm xs) (hg : u.grownBy u' (some N)) (hN : N < B) : Il.OwnAt B u' ta tm xs := by
  refine h.other hg ?_
  rcases h.own with h0 | ⟨b', off', rfl, hB, _⟩
  · exact .inl h0
  · exact .inr fun b1 o1 e => by cases e; omega
set_option maxRecDepth 100000 in
set_option maxHeartbeats 8000000 in
theorem implClose_any : CloseDone 68 := by
  intro M v w hI hm1 hcap hw
  have hm := hm1.mono (k' := 2097152) (by omega)
  obtain ⟨U0, hU0⟩ : ∃ W, W = (w.alloc (.cells #[.int .i64 v.cp, .int .i64 v.se, .slice M.ia M.i M.ic, .int .i64 v.nx, .slice M.sa M.s M.sc, .slice M.la M.l M.lc, .slice M.ga M.g M.gc, .bool v.cl] 28)).alloc (.cells #[.int .i64 0, .int .i64 0, .slice none 0 0, .int .i64 0, .slice none 0 0, .slice none 0 0, .slice none 0 0, .bool false] 28) := ⟨_, rfl⟩
  have B0 : Below w.heap.size w U0 := by rw [hU0]; exact bl_alloc (bl_alloc (Below.refl _ _) _) _
  have z0 : U0.heap.size = w.heap.size + 2 := by rw [hU0]; simp
  have A0 : BoxL w.heap.size (rC M v) U0 := by rw [hU0]; exact (BoxL.new w (rC M v) _).alloc _
  have R0 : BoxL (w.heap.size + 1) [.int .i64 0, .int .i64 0, .slice none 0 0, .int .i64 0, .slice none 0 0, .slice none 0 0, .slice none 0 0, .bool false] U0 := by
    rw [hU0]
    have h := BoxL.new (w.alloc (.cells (rC M v).toArray 28)) [.int .i64 0, .int .i64 0, .slice none 0 0, .int .i64 0, .slice none 0 0, .slice none 0 0, .slice none 0 0, .bool false] 28
    simpa using h
  have HK := hidOf (implRingOk_any M v U0 (hI.keep B0) hm1 hcap hw)
  have p0 := A0.cs 0 (by simp)
  have p1 := A0.cs 1 (by simp)
  have p2 := A0.cs 2 (by simp)
  have p3 := A0.cs 3 (by simp)
  have p4 := A0.cs 4 (by simp)
  have p5 := A0.cs 5 (by simp)
  have p6 := A0.cs 6 (by simp)
  have p7 := A0.cs 7 (by simp)
  simp at p0 p1 p2 p3 p4 p5 p6 p7
  have HI := hidOf hI
  have HM := hidOf hm
  have HM1 := hidOf hm1
  have HW := hidOf hw
  have HCap := hidOf hcap
  obtain ⟨q, hq⟩ : ∃ q, okR restR v = q := ⟨_, rfl⟩
  rw [hq] at HK
  have HQ := hidOf hq
  clear hI hm hm1 hcap hw hq
  go_enter Tryz.func68, Tryz.ntmps68
  go_upto_region 1 with fail
  rw [← hU0]
  clear hU0
  go_wp2_with fail
  refine (HK.out).mono ?_
  rintro e w1 ⟨rfl, b1⟩
  have A1 := A0.keep b1
  have R1 := R0.keep b1
  have B1 := bl_trans B0 b1
  have hs1 : w.heap.size + 2 ≤ w1.heap.size := by have := b1.size; omega
  clear A0 R0 p0 p1 p2 p3 p4 p5 p6 p7 B0 b1 HK z0
  have p0 := A1.cs 0 (by simp)
  have p1 := A1.cs 1 (by simp)
  have p2 := A1.cs 2 (by simp)
  have p3 := A1.cs 3 (by simp)
  have p4 := A1.cs 4 (by simp)
  have p5 := A1.cs 5 (by simp)
  have p6 := A1.cs 6 (by simp)
  have p7 := A1.cs 7 (by simp)
  simp at p0 p1 p2 p3 p4 p5 p6 p7
  cases q
  · have HE := hidOf (show RgT w (cloR v) (cloT v) (cloC v) = RgT w v [] 1 by unfold cloR cloT cloC; rw [if_neg (by rw [HQ.out]; simp), if_neg (by rw [HQ.out]; simp), if_neg (by rw [HQ.out]; simp)])
    have HC := hidOf (copiedRing_any M v w1 (HI.out.keep B1) HM.out)
    go_wp2_with fail
    refine (HC.out).mono ?_
    rintro e w2 ⟨M2, rfl, row2, le2, b2⟩
    have row3 := row2.mono (B' := w.heap.size + 2) hs1
    have R2 := R1.keep b2
    have B2 := bl_trans B1 b2
    clear A1 R1 p0 p1 p2 p3 p4 p5 p6 p7
    have r0 := R2.cs 0 (by simp)
    have r1 := R2.cs 1 (by simp)
    have r2 := R2.cs 2 (by simp)
    have r3 := R2.cs 3 (by simp)
    have r4 := R2.cs 4 (by simp)
    have r5 := R2.cs 5 (by simp)
    have r6 := R2.cs 6 (by simp)
    have r7 := R2.cs 7 (by simp)
    have rf := R2.fr
    simp at r0 r1 r2 r3 r4 r5 r6 r7
    obtain ⟨Z, hZ⟩ : ∃ Z, ((((((((w2.setCell ⟨w.heap.size + 1, 0, none⟩ (.int .i64 v.cp)).setCell ⟨w.heap.size + 1, 1, none⟩ (.int .i64 v.se)).setCell ⟨w.heap.size + 1, 2, none⟩ (.slice M2.ia M2.i M2.ic)).setCell ⟨w.heap.size + 1, 3, none⟩ (.int .i64 v.nx)).setCell ⟨w.heap.size + 1, 4, none⟩ (.slice M2.sa M2.s M2.sc)).setCell ⟨w.heap.size + 1, 5, none⟩ (.slice M2.la M2.l M2.lc)).setCell ⟨w.heap.size + 1, 6, none⟩ (.slice M2.ga M2.g M2.gc)).setCell ⟨w.heap.size + 1, 7, none⟩ (.bool v.cl)) = Z := ⟨_, rfl⟩
    have hZ2 : Z = setL w2 (w.heap.size + 1) 0 [.int .i64 v.cp, .int .i64 v.se, .slice M2.ia M2.i M2.ic, .int .i64 v.nx, .slice M2.sa M2.s M2.sc, .slice M2.la M2.l M2.lc, .slice M2.ga M2.g M2.gc, .bool v.cl] := by rw [← hZ]; rfl
    have XZ : BoxL (w.heap.size + 1) [.int .i64 v.cp, .int .i64 v.se, .slice M2.ia M2.i M2.ic, .int .i64 v.nx, .slice M2.sa M2.s M2.sc, .slice M2.la M2.l M2.lc, .slice M2.ga M2.g M2.gc, .bool v.cl] Z := by
      rw [← hZ]
      exact ((((((((R2.set 0 (by simp) _).set 1 (by simp) _).set 2 (by simp) _).set 3 (by simp) _).set 4 (by simp) _).set 5 (by simp) _).set 6 (by simp) _).set 7 (by simp) _)
    have HRZ := hidOf (show ROwn w.heap.size Z M2 v by
      rw [hZ2]
      exact ((row3.grown (setL_grown ⟨rfl, rfl, rfl, Nat.le_refl _, fun _ _ _ => rfl⟩) (row3.out (by omega))).mono (B' := w.heap.size) (by omega)).own)
    have HBZ := hidOf (show Below w.heap.size w Z by rw [hZ2]; exact setL_below (by omega) B2)
    have HLZ := hidOf (show RLe M2 2097152 from le2 _ HM.out)
    have t0 := XZ.cs 0 (by simp)
    have t1 := XZ.cs 1 (by simp)
    have t2 := XZ.cs 2 (by simp)
    have t3 := XZ.cs 3 (by simp)
    have t4 := XZ.cs 4 (by simp)
    have t5 := XZ.cs 5 (by simp)
    have t6 := XZ.cs 6 (by simp)
    have t7 := XZ.cs 7 (by simp)
    simp at t0 t1 t2 t3 t4 t5 t6 t7
    clear hZ2 XZ R2
    go_wp2_with fail
    clear hZ
    exact bodyPost_ret (v := .tuple #[.agg #[.int .i64 v.cp, .int .i64 v.se, .slice M2.ia M2.i M2.ic, .int .i64 v.nx, .slice M2.sa M2.s M2.sc, .slice M2.la M2.l M2.lc, .slice M2.ga M2.g M2.gc, .bool v.cl], .slice none 0 0, .int .i64 1]) (by simp [results, Tryz.results68, go_sem, t0, t1, t2, t3, t4, t5, t6, t7]) rfl (show RgT w (cloR v) (cloT v) (cloC v) _ _ by rw [HE.out]; exact ⟨M2, none, 0, 0, rfl, HRZ.out, HLZ.out, ⟨⟨rfl, .inl rfl⟩, .inl rfl⟩, by omega, fun _ _ => .inr (.inl rfl), HBZ.out⟩)
  obtain ⟨k, hk⟩ : ∃ k, v.cl = k := ⟨_, rfl⟩
  cases k
  case true =>
    obtain ⟨v0, rfl⟩ : ∃ v0 : Rv, v = ⟨v0.cp, v0.se, v0.it, v0.nx, v0.sb, v0.ln, v0.gs, true⟩ := ⟨v, by cases v; simp only at hk; subst hk; rfl⟩
    obtain ⟨vv, hvv⟩ : ∃ vv : Rv, vv = ⟨v0.cp, v0.se, v0.it, v0.nx, v0.sb, v0.ln, v0.gs, true⟩ := ⟨_, rfl⟩
    have HE := hidOf (show RgT w (cloR vv) (cloT vv) (cloC vv) = RgT w vv [] 6 by unfold cloR cloT cloC; rw [hvv, if_pos HQ.out, if_pos HQ.out, if_pos HQ.out, if_pos rfl, if_pos rfl, if_pos rfl])
    have HC := hidOf (copiedRing_any M _ w1 (HI.out.keep B1) HM.out)
    simp only at p0 p1 p2 p3 p4 p5 p6 p7
    go_wp2_with fail
    refine (HC.out).mono ?_
    rintro e w2 ⟨M2, rfl, row2, le2, b2⟩
    have row3 := row2.mono (B' := w.heap.size + 2) hs1
    have R2 := R1.keep b2
    have B2 := bl_trans B1 b2
    clear A1 R1 p0 p1 p2 p3 p4 p5 p6 p7
    rw [← hvv] at row3
    have HVV := hidOf hvv
    clear hvv hk
    have r0 := R2.cs 0 (by simp)
    have r1 := R2.cs 1 (by simp)
    have r2 := R2.cs 2 (by simp)
    have r3 := R2.cs 3 (by simp)
    have r4 := R2.cs 4 (by simp)
    have r5 := R2.cs 5 (by simp)
    have r6 := R2.cs 6 (by simp)
    have r7 := R2.cs 7 (by simp)
    have rf := R2.fr
    simp at r0 r1 r2 r3 r4 r5 r6 r7
    obtain ⟨Z, hZ⟩ : ∃ Z, ((((((((w2.setCell ⟨w.heap.size + 1, 0, none⟩ (.int .i64 v0.cp)).setCell ⟨w.heap.size + 1, 1, none⟩ (.int .i64 v0.se)).setCell ⟨w.heap.size + 1, 2, none⟩ (.slice M2.ia M2.i M2.ic)).setCell ⟨w.heap.size + 1, 3, none⟩ (.int .i64 v0.nx)).setCell ⟨w.heap.size + 1, 4, none⟩ (.slice M2.sa M2.s M2.sc)).setCell ⟨w.heap.size + 1, 5, none⟩ (.slice M2.la M2.l M2.lc)).setCell ⟨w.heap.size + 1, 6, none⟩ (.slice M2.ga M2.g M2.gc)).setCell ⟨w.heap.size + 1, 7, none⟩ (.bool true)) = Z := ⟨_, rfl⟩
    have hZ2 : Z = setL w2 (w.heap.size + 1) 0 [.int .i64 v0.cp, .int .i64 v0.se, .slice M2.ia M2.i M2.ic, .int .i64 v0.nx, .slice M2.sa M2.s M2.sc, .slice M2.la M2.l M2.lc, .slice M2.ga M2.g M2.gc, .bool true] := by rw [← hZ]; rfl
    have XZ : BoxL (w.heap.size + 1) [.int .i64 v0.cp, .int .i64 v0.se, .slice M2.ia M2.i M2.ic, .int .i64 v0.nx, .slice M2.sa M2.s M2.sc, .slice M2.la M2.l M2.lc, .slice M2.ga M2.g M2.gc, .bool true] Z := by
      rw [← hZ]
      exact ((((((((R2.set 0 (by simp) _).set 1 (by simp) _).set 2 (by simp) _).set 3 (by simp) _).set 4 (by simp) _).set 5 (by simp) _).set 6 (by simp) _).set 7 (by simp) _)
    have HRZ := hidOf (show ROwn w.heap.size Z M2 vv by
      rw [hZ2]
      exact ((row3.grown (setL_grown ⟨rfl, rfl, rfl, Nat.le_refl _, fun _ _ _ => rfl⟩) (row3.out (by omega))).mono (B' := w.heap.size) (by omega)).own)
    have HBZ := hidOf (show Below w.heap.size w Z by rw [hZ2]; exact setL_below (by omega) B2)
    have HLZ := hidOf (show RLe M2 2097152 from le2 _ HM.out)
    have t0 := XZ.cs 0 (by simp)
    have t1 := XZ.cs 1 (by simp)
    have t2 := XZ.cs 2 (by simp)
    have t3 := XZ.cs 3 (by simp)
    have t4 := XZ.cs 4 (by simp)
    have t5 := XZ.cs 5 (by simp)
    have t6 := XZ.cs 6 (by simp)
    have t7 := XZ.cs 7 (by simp)
    simp at t0 t1 t2 t3 t4 t5 t6 t7
    clear hZ2 XZ R2
    go_wp2_with fail
    clear hZ
    exact bodyPost_ret (v := .tuple #[.agg #[.int .i64 v0.cp, .int .i64 v0.se, .slice M2.ia M2.i M2.ic, .int .i64 v0.nx, .slice M2.sa M2.s M2.sc, .slice M2.la M2.l M2.lc, .slice M2.ga M2.g M2.gc, .bool true], .slice none 0 0, .int .i64 6]) (by simp [results, Tryz.results68, go_sem, t0, t1, t2, t3, t4, t5, t6, t7]) rfl (show RgT w (cloR _) (cloT _) (cloC _) _ _ by rw [← HVV.out, HE.out, HVV.out]; rw [HVV.out] at HRZ; exact ⟨M2, none, 0, 0, rfl, HRZ.out, HLZ.out, ⟨⟨rfl, .inl rfl⟩, .inl rfl⟩, by omega, fun _ _ => .inr (.inl rfl), HBZ.out⟩)
  obtain ⟨f, hse, hi, hf⟩ := ok_first HQ.out
  have HC := hidOf (by have h := ringBodyOf_any M v w1 f (HI.out.keep B1) HM.out HCap.out hse hi hf; rw [hk] at h; exact h)
  rw [hk] at p7
  have HK0 := hidOf hk
  clear hse hi hf hk
  go_wp2_with fail
  refine (HC.out).mono ?_
  rintro e w2 ⟨b, A, P, f2, sa, sc, ys, rfl, body2, hAn, hAn', hyn, b2⟩
  have R2 := R1.keep b2
  have B2 := bl_trans B1 b2
  have hbge := body2.wst.ge
  have hblt := body2.wst.lt
  have c58 := body2.c58
  have fr58 := body2.wst.fr 58
  have hnd := ok_nodup HQ.out
  have hfew := ok_few HQ.out
  have hsz2 := b2.size
  obtain ⟨U3, hU3⟩ : ∃ W, W = w2.setCell ⟨b, 58, none⟩ (.bool true) := ⟨_, rfl⟩
  have body3 := body2.shut true
  rw [← hU3] at body3
  have z3 : U3.heap.size = w2.heap.size := by rw [hU3]; simp
  have R3 : BoxL (w.heap.size + 1) [.int .i64 0, .int .i64 0, .slice none 0 0, .int .i64 0, .slice none 0 0, .slice none 0 0, .slice none 0 0, .bool false] U3 := by rw [hU3]; exact R2.below ((Below.refl w1.heap.size _).setCell (p := ⟨b, 58, none⟩) hbge _) (by omega)
  have B3 : Below w.heap.size w U3 := by rw [hU3]; exact B2.setCell (p := ⟨b, 58, none⟩) (by show w.heap.size ≤ b; omega) _
  have HBo := hidOf body2
  clear A1 R1 p0 p1 p2 p3 p4 p5 p6 p7 HC body2 R2 B2
  go_upto_region 7 with fail
  rw [← hU3]
  clear hU3 c58 fr58
  have c0 := body3.wst.c0
  have len3 := body3.wst.rows.len
  have hwk : wakeN v.ln (A.n : Int) = v.ln.length := by
    rw [show (A.n : Int) = (v.ln.length : Int) by have := len3.1; simp only at this; omega]
    exact wake_all _
  have body3d := body3.keep (Below.refl _ _).drew
  have HL := hidOf (letGo_tf w1.heap.size b A v.ln v.gs (A.n : Int) U3.drew body3d.wst (by have := HM.out.l; omega) (by have := HM.out.g; omega) HW.out.ln hnd.1 hfew (by omega))
  rw [hwk, List.drop_length, List.take_length] at HL
  have HB3 := hidOf body3d
  have HAn := hidOf (And.intro hAn hAn')
  have HZ3 := hidOf z3
  clear hAn hAn' z3
  have HBB := hidOf B3
  have HRR := hidOf R3
  clear hwk body3 body3d B3 R3 HBo len3
  refine wp_region_noPanic ?_
  refine wp_region_held_drew (S := fun _ => True) (by kernel_rfl) True.intro (fun hHeld => ?_)
  refine wpAnyH_take (i := 0) (v := ?_) rfl (by kernel_rfl) (by kernel_rfl) (by kernel_rfl) (fun _ _ _ h => h) (Or.inl ⟨by rfl, ?_⟩) (by assumption) ?_
  case refine_2 => (intro w hSw; (try dsimp only at hSw); go_simp; try with_reducible rfl)
  simp only [Act.put, List.getElem_toArray, List.getElem_cons_zero, List.setIfInBounds_toArray, List.set_cons_zero, List.set_cons_succ]
  refine wpAnyH_take (i := 1) (v := ?_) rfl (by kernel_rfl) (by kernel_rfl) (by kernel_rfl) (fun _ _ _ h => h) (Or.inl ⟨by rfl, ?_⟩) (by assumption) ?_
  case refine_2 => (intro w hSw; (try dsimp only at hSw); go_simp; try with_reducible rfl)
  simp only [Act.put, zGA, zG0, zGC, zSA, zS0, zSC]
  refine wpAnyH_take (i := 2) (v := ?_) rfl (by kernel_rfl) (by kernel_rfl) (by kernel_rfl) (fun _ _ _ h => h) (Or.inl ⟨by rfl, ?_⟩) (by assumption) ?_
  case refine_2 => (intro w hSw; (try dsimp only at hSw); go_simp; try with_reducible rfl)
  simp only [Act.put, zGA, zG0, zGC, zSA, zS0, zSC]
  refine wpAnyH_take (i := 3) (v := ?_) rfl (by kernel_rfl) (by kernel_rfl) (by kernel_rfl) (fun _ _ _ h => h) (Or.inl ⟨by rfl, ?_⟩) (by assumption) ?_
  case refine_2 => (intro w hSw; (try dsimp only at hSw); go_simp; try with_reducible rfl)
  simp only [Act.put, zGA, zG0, zGC, zSA, zS0, zSC]
  refine wpAnyH_take (i := 4) (v := ?_) rfl (by kernel_rfl) (by kernel_rfl) (by kernel_rfl) (fun _ _ _ h => h) (Or.inl ⟨by rfl, ?_⟩) (by assumption) ?_
  case refine_2 => (intro w hSw; (try dsimp only at hSw); go_simp; try with_reducible rfl)
  simp only [Act.put, zGA, zG0, zGC, zSA, zS0, zSC]
  refine wpAnyH_take (i := 5) (v := ?_) rfl (by kernel_rfl) (by kernel_rfl) (by kernel_rfl) (fun _ _ _ h => h) (Or.inl ⟨by rfl, ?_⟩) (by assumption) ?_
  case refine_2 => (intro w hSw; (try dsimp only at hSw); go_simp; try with_reducible rfl)
  simp only [Act.put, zGA, zG0, zGC, zSA, zS0, zSC]
  refine wpAnyH_take (i := 6) (v := ?_) rfl (by kernel_rfl) (by kernel_rfl) (by kernel_rfl) (fun _ _ _ h => h) (Or.inl ⟨by rfl, ?_⟩) (by assumption) ?_
  case refine_2 => (intro w hSw; (try dsimp only at hSw); go_simp; try with_reducible rfl)
  simp only [Act.put, zGA, zG0, zGC, zSA, zS0, zSC]
  refine wpAnyH_ready (rs := [7]) (by kernel_rfl) (by simp) ?_
  refine AllReadyH.cons rfl (fun K hK => ?_) AllReadyH.nil
  go_simp
  refine hK.out _ _ True.intro (fun hHeld => ?_)
  clear hK K
  refine wpAnyH_take (i := 8) (v := ?_) rfl (by kernel_rfl) (by kernel_rfl) (by kernel_rfl) (fun _ _ _ h => h) (Or.inl ⟨by rfl, ?_⟩) (by assumption) ?_
  case refine_2 => (intro w hSw; (try dsimp only at hSw); go_simp; try with_reducible rfl)
  simp only [Act.put, zGA, zG0, zGC, zSA, zS0, zSC]
  refine wpAnyH_ready (rs := [9]) (by kernel_rfl) (by simp) ?_
  refine AllReadyH.cons rfl (fun K hK => ?_) AllReadyH.nil
  go_simp
  refine (HL.out).mono ?_
  rintro e w4 ⟨A3, ta, tm, tc, rfl, hW4, hO4, hF4, hT4, hTw4, hSh4, hA4, hA4', hta⟩
  go_wp2_with fail
  refine hK.out _ _ True.intro (fun hHeld => ?_)
  clear hK K
  refine wpAnyH_take (i := 10) (v := ?_) rfl (by kernel_rfl) (by kernel_rfl) (by kernel_rfl) (fun _ _ _ h => h) (Or.inl ⟨by rfl, ?_⟩) (by assumption) ?_
  case refine_2 => (intro w hSw; (try dsimp only at hSw); go_simp; try with_reducible rfl)
  simp only [Act.put, zGA, zG0, zGC, zSA, zS0, zSC]
  refine wpAnyH_done (by kernel_rfl) ?_ _
  refine NoPanic.normal ?_
  have body4 : RBody w1.heap.size b A3 P f2 (shutR v) sa M.s sc ys w4 := HB3.out.go hW4 hT4 hTw4 hSh4 hA4 hA4'
  obtain ⟨v5, hv5⟩ : ∃ v5, shutR v = v5 := ⟨_, rfl⟩
  have HLn := hidOf (show v5.ln.length = 0 ∧ v5.gs.length = v.gs.length + v.ln.length ∧ v5.it.length = v.it.length by rw [← hv5]; exact ⟨rfl, by simp [shutR], rfl⟩)
  rw [hv5] at body4
  have HV5 := hidOf hv5
  clear hv5
  have b4 : Below w1.heap.size U3 w4 := (Below.refl _ _).drew.trans hT4.below
  have HC5 := hidOf (ring_anyQ w1.heap.size b A3 P f2 v5 sa M.s sc ys w4 body4)
  have R4 := HRR.out.below b4 (by omega)
  have B4 : Below w.heap.size w w4 := bl_trans2 HBB.out b4 (by omega)
  have len4 := body4.wst.rows.len
  have HB4 := hidOf body4
  have HOF := hidOf (And.intro hO4 (And.intro hF4 hta))
  clear hW4 hO4 hF4 hT4 hTw4 hSh4 hA4 hA4' hta body4 HL c0 hHeld
  go_wp2_with fail
  refine (HC5.out).mono ?_
  rintro e w5 ⟨g, hgg, rfl, row5, b5⟩
  have row6 := row5.mono (B' := w.heap.size + 2) hs1
  have R5 := R4.keep b5
  have B5 := bl_trans B4 b5
  have HE := hidOf (show RgT w (cloR v) (cloT v) (cloC v) = RgT w v5 v.ln 0 by
    rw [← HV5.out]
    unfold cloR cloT cloC
    rw [if_pos HQ.out, if_pos HQ.out, if_pos HQ.out, if_neg (by rw [HK0.out]; simp), if_neg (by rw [HK0.out]; simp), if_neg (by rw [HK0.out]; simp)])
  have le5 : RLe (⟨some ⟨g, 0, none⟩, v5.it.length, v5.it.length, sa, M.s, sc, ys, A3.a, A3.n, A3.c, A3.a', A3.n', A3.c'⟩ : Rm) 2097152 := by
    have h := HM.out
    have h1' := HM1.out
    have h1 := HLn.out
    have h3 := HI.out.ln.len
    have h4 := HI.out.gs.len
    have h5 := HI.out.it.len
    have h6 := len4.1
    have h7 := len4.2
    have l1 := h1'.l
    have l2 := h1'.g
    have l3 := h.i
    exact ⟨by show v5.it.length ≤ _; omega, h.s, fun y hy => by
      obtain ⟨x, hx, e⟩ := hyn y hy
      rw [e]
      exact h.f x hx, by show A3.n ≤ _; omega, by show A3.n' ≤ _; omega⟩
  have HL5 := hidOf le5
  have HTF := hidOf (show ∀ p, p ∈ allR (⟨some ⟨g, 0, none⟩, v5.it.length, v5.it.length, sa, M.s, sc, ys, A3.a, A3.n, A3.c, A3.a', A3.n', A3.c'⟩ : Rm) → Far p.1 p.2 ta tm by
    obtain ⟨hO4, hF4, hta⟩ := HOF.out
    have hl := far_line hF4.1
    intro p hp
    simp only [allR, List.mem_cons, List.mem_map] at hp
    rcases hp with rfl | rfl | rfl | rfl | ⟨y, hy, rfl⟩
    · exact far_new hO4 hgg
    · exact far_told HB3.out.srow.sb hta
    · exact hl.1
    · exact hl.2
    · exact far_told (HB3.out.srow.fl y hy) hta)
  have HTN := hidOf (show tm ≤ 2097152 by have := HOF.out.1.ints.len; omega)
  have HTO5 := hidOf (HOF.out.1.keep b5)
  clear R4 B4 HC5 row5 le5
  have r0 := R5.cs 0 (by simp)
  have r1 := R5.cs 1 (by simp)
  have r2 := R5.cs 2 (by simp)
  have r3 := R5.cs 3 (by simp)
  have r4 := R5.cs 4 (by simp)
  have r5 := R5.cs 5 (by simp)
  have r6 := R5.cs 6 (by simp)
  have r7 := R5.cs 7 (by simp)
  have rf := R5.fr
  simp at r0 r1 r2 r3 r4 r5 r6 r7
  obtain ⟨Z, hZ⟩ : ∃ Z, ((((((((w5.setCell ⟨w.heap.size + 1, 0, none⟩ (.int .i64 v5.cp)).setCell ⟨w.heap.size + 1, 1, none⟩ (.int .i64 v5.se)).setCell ⟨w.heap.size + 1, 2, none⟩ (.slice (some ⟨g, 0, none⟩) v5.it.length v5.it.length)).setCell ⟨w.heap.size + 1, 3, none⟩ (.int .i64 v5.nx)).setCell ⟨w.heap.size + 1, 4, none⟩ (.slice sa M.s sc)).setCell ⟨w.heap.size + 1, 5, none⟩ (.slice A3.a A3.n A3.c)).setCell ⟨w.heap.size + 1, 6, none⟩ (.slice A3.a' A3.n' A3.c')).setCell ⟨w.heap.size + 1, 7, none⟩ (.bool v5.cl)) = Z := ⟨_, rfl⟩
  have hZ2 : Z = setL w5 (w.heap.size + 1) 0 [.int .i64 v5.cp, .int .i64 v5.se, .slice (some ⟨g, 0, none⟩) v5.it.length v5.it.length, .int .i64 v5.nx, .slice sa M.s sc, .slice A3.a A3.n A3.c, .slice A3.a' A3.n' A3.c', .bool v5.cl] := by rw [← hZ]; rfl
  have XZ : BoxL (w.heap.size + 1) [.int .i64 v5.cp, .int .i64 v5.se, .slice (some ⟨g, 0, none⟩) v5.it.length v5.it.length, .int .i64 v5.nx, .slice sa M.s sc, .slice A3.a A3.n A3.c, .slice A3.a' A3.n' A3.c', .bool v5.cl] Z := by
    rw [← hZ]
    exact ((((((((R5.set 0 (by simp) _).set 1 (by simp) _).set 2 (by simp) _).set 3 (by simp) _).set 4 (by simp) _).set 5 (by simp) _).set 6 (by simp) _).set 7 (by simp) _)
  have HRZ := hidOf (show ROwn w.heap.size Z (⟨some ⟨g, 0, none⟩, v5.it.length, v5.it.length, sa, M.s, sc, ys, A3.a, A3.n, A3.c, A3.a', A3.n', A3.c'⟩ : Rm) v5 by
    rw [hZ2]
    exact ((row6.grown (setL_grown ⟨rfl, rfl, rfl, Nat.le_refl _, fun _ _ _ => rfl⟩) (row6.out (by omega))).mono (B' := w.heap.size) (by omega)).own)
  have HBZ := hidOf (show Below w.heap.size w Z by rw [hZ2]; exact setL_below (by omega) B5)
  have HTO := hidOf (show Il.OwnAt w.heap.size Z ta tm v.ln by rw [hZ2]; exact (own_set HTO5.out (setL_grown ⟨rfl, rfl, rfl, Nat.le_refl _, fun _ _ _ => rfl⟩) (by omega)).mono (by omega))
  have HLZ := hidOf (show RLe (⟨some ⟨g, 0, none⟩, v5.it.length, v5.it.length, sa, M.s, sc, ys, A3.a, A3.n, A3.c, A3.a', A3.n', A3.c'⟩ : Rm) 2097152 from HL5.out)
  have t0 := XZ.cs 0 (by simp)
  have t1 := XZ.cs 1 (by simp)
  have t2 := XZ.cs 2 (by simp)
  have t3 := XZ.cs 3 (by simp)
  have t4 := XZ.cs 4 (by simp)
  have t5 := XZ.cs 5 (by simp)
  have t6 := XZ.cs 6 (by simp)
  have t7 := XZ.cs 7 (by simp)
  simp at t0 t1 t2 t3 t4 t5 t6 t7
  clear hZ2 XZ R5
  go_wp2_with fail
  clear hZ
  exact bodyPost_ret (v := .tuple #[.agg #[.int .i64 v5.cp, .int .i64 v5.se, .slice (some ⟨g, 0, none⟩) v5.it.length v5.it.length, .int .i64 v5.nx, .slice sa M.s sc, .slice A3.a A3.n A3.c, .slice A3.a' A3.n' A3.c', .bool v5.cl], .slice ta tm tc, .int .i64 0]) (by simp [results, Tryz.results68, go_sem, t0, t1, t2, t3, t4, t5, t6, t7]) rfl (show RgT w (cloR v) (cloT v) (cloC v) _ _ by rw [HE.out]; exact ⟨(⟨some ⟨g, 0, none⟩, v5.it.length, v5.it.length, sa, M.s, sc, ys, A3.a, A3.n, A3.c, A3.a', A3.n', A3.c'⟩ : Rm), ta, tm, tc, rfl, HRZ.out, HLZ.out, HTO.out, HTN.out, HTF.out, HBZ.out⟩)
end Go.Proofs.YtihdglmiecifjaaGreat
