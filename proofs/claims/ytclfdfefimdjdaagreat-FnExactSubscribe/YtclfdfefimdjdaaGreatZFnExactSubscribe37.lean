/-
  The program's ring: a body to read, and its subscriber.
-/
import Derived.Test.YtclfdfefimdjdaaGreatZFnExactSubscribe36
import Derived.Deep.RegionHeld3
namespace Go.Proofs.YtclfdfefimdjdaaGreat
open Go.RowKit Go.Maps Pl Il

/-- A subscriber's place in memory. -/
theorem RBody.sub_row {B b : Nat} {A : Na} {P : Nat → Tm} {f : Nat} {v : Rv} {sa : Option Addr} {s sc : Nat} {ys : List Sa} {w : World} (h : RBody B b A P f v sa s sc ys w) {k : Nat} (hk : k < v.sb.length) : ∃ g, sa = some ⟨g, 0, none⟩ ∧ s = ys.length ∧ k < ys.length := by
  have hl : ys.length = v.sb.length := by rw [← h.sv]; simp [svs]
  obtain ⟨h1, ⟨e, e0⟩ | ⟨g, cp, cur, e, _⟩⟩ := h.srow.sb
  · rw [e0, length_sflat] at h1; omega
  · injection e with e1
    exact ⟨g, e1, by rw [length_sflat] at h1; omega, by omega⟩
theorem RBody.mono {B B' b : Nat} {A : Na} {P : Nat → Tm} {f : Nat} {v : Rv} {sa : Option Addr} {s sc : Nat} {ys : List Sa} {w : World} (h : RBody B b A P f v sa s sc ys w) (hb : B' ≤ B) : RBody B' b A P f v sa s sc ys w :=
  ⟨⟨h.wst.lt, Nat.le_trans hb h.wst.ge, h.wst.c0, h.wst.c1, h.wst.fr, ⟨rowM h.wst.rows.one hb, rowM h.wst.rows.two hb, h.wst.rows.ne⟩, h.wst.ne1, h.wst.ne2⟩, h.rnd, h.c2, h.fst, h.nxt, h.c56, h.c57, h.c58, h.srow.mono hb, h.sv, h.its, h.sh, h.se, h.few, h.nb, h.ap⟩
set_option maxRecDepth 100000 in
set_option maxHeartbeats 4000000 in
theorem sub_any (B b : Nat) (A : Na) (P : Nat → Tm) (f : Nat) (v : Rv) (g s sc : Nat) (ys : List Sa) (id : Int) (w : World) (hR : RBody B b A P f v (some ⟨g, 0, none⟩) s sc ys w) (hs : s ≤ 2097152) (k : Nat) (hat : atR v.sb id = (k : Int)) (hk : k < s) :
    Calls Tryz.prog 95 #[.pointer (some ⟨b, 0, none⟩), .int .i64 id] w fun e w' => e = .returned (.pointer (some ⟨g, k * 7, none⟩)) ∧ Below w.heap.size w w' := by
  have hH := hR.s
  have HC := hidOf (placeOfSub_any (some ⟨g, 0, none⟩) s sc ys id w.drew (hR.srow.keep (Below.refl _ _).drew).sub hs)
  rw [hR.sv, hat] at HC
  have hki : (k : Int) < (s : Int) := by omega
  clear hR hat
  go_enter Tryz.func95, Tryz.ntmps95
  go_upto_region 1 with fail
  refine wp_region_noPanic ?_
  refine wp_region_held_drew (S := fun w' => RbS b A v (some ⟨g, 0, none⟩) s sc w') (by kernel_rfl) hH.drew (fun hHeld => ?_)
  refine wpAnyH_take (i := 0) (v := ?_) rfl (by kernel_rfl) (by kernel_rfl) (by kernel_rfl) (fun _ _ _ h => h) (Or.inl ⟨by rfl, ?_⟩) (by assumption) ?_
  case refine_2 => (intro w hSw; (try dsimp only at hSw); go_simp; try with_reducible rfl)
  simp only [Act.put, List.getElem_toArray, List.getElem_cons_zero, List.setIfInBounds_toArray, List.set_cons_zero, List.set_cons_succ]
  refine wpAnyH_take (i := 1) (v := ?_) rfl (by kernel_rfl) (by kernel_rfl) (by kernel_rfl) (fun _ _ _ h => h) (Or.inl ⟨by rfl, ?_⟩) (by assumption) ?_
  case refine_2 => (intro w hSw; (try dsimp only at hSw); go_simp; try with_reducible rfl)
  simp only [Act.put, List.getElem_toArray, List.getElem_cons_zero, List.getElem_cons_succ, List.setIfInBounds_toArray, List.set_cons_zero, List.set_cons_succ]
  refine wpAnyH_take (i := 2) (v := ?_) rfl (by kernel_rfl) (by kernel_rfl) (by kernel_rfl) (fun _ _ _ h => h) (Or.inl ⟨by rfl, ?_⟩) (by assumption) ?_
  case refine_2 => (intro w hSw; (try dsimp only at hSw); go_simp; try with_reducible rfl)
  simp only [Act.put, List.getElem_toArray, List.getElem_cons_zero, List.getElem_cons_succ, List.setIfInBounds_toArray, List.set_cons_zero, List.set_cons_succ]
  refine wpAnyH_take (i := 3) (v := ?_) rfl (by kernel_rfl) (by kernel_rfl) (by kernel_rfl) (fun _ _ _ h => h) (Or.inl ⟨by rfl, ?_⟩) (by assumption) ?_
  case refine_2 => (intro w hSw; (try dsimp only at hSw); go_simp; try with_reducible rfl)
  simp only [Act.put, List.getElem_toArray, List.getElem_cons_zero, List.getElem_cons_succ, List.setIfInBounds_toArray, List.set_cons_zero, List.set_cons_succ]
  refine wpAnyH_take (i := 4) (v := ?_) rfl (by kernel_rfl) (by kernel_rfl) (by kernel_rfl) (fun _ _ _ h => h) (Or.inl ⟨by rfl, ?_⟩) (by assumption) ?_
  case refine_2 => (intro w hSw; (try dsimp only at hSw); go_simp; try with_reducible rfl)
  simp only [Act.put, List.getElem_toArray, List.getElem_cons_zero, List.getElem_cons_succ, List.setIfInBounds_toArray, List.set_cons_zero, List.set_cons_succ]
  refine wpAnyH_take (i := 5) (v := ?_) rfl (by kernel_rfl) (by kernel_rfl) (by kernel_rfl) (fun _ _ _ h => h) (Or.inl ⟨by rfl, ?_⟩) (by assumption) ?_
  case refine_2 => (intro w hSw; (try dsimp only at hSw); go_simp; try with_reducible rfl)
  simp only [Act.put, List.getElem_toArray, List.getElem_cons_zero, List.getElem_cons_succ, List.setIfInBounds_toArray, List.set_cons_zero, List.set_cons_succ]
  refine wpAnyH_take (i := 6) (v := ?_) rfl (by kernel_rfl) (by kernel_rfl) (by kernel_rfl) (fun _ _ _ h => h) (Or.inl ⟨by rfl, ?_⟩) (by assumption) ?_
  case refine_2 => (intro w hSw; (try dsimp only at hSw); go_simp; try with_reducible rfl)
  simp only [Act.put, List.getElem_toArray, List.getElem_cons_zero, List.getElem_cons_succ, List.setIfInBounds_toArray, List.set_cons_zero, List.set_cons_succ]
  refine wpAnyH_take (i := 7) (v := ?_) rfl (by kernel_rfl) (by kernel_rfl) (by kernel_rfl) (fun _ _ _ h => h) (Or.inl ⟨by rfl, ?_⟩) (by assumption) ?_
  case refine_2 => (intro w hSw; (try dsimp only at hSw); go_simp; try with_reducible rfl)
  simp only [Act.put, List.getElem_toArray, List.getElem_cons_zero, List.getElem_cons_succ, List.setIfInBounds_toArray, List.set_cons_zero, List.set_cons_succ]
  refine wpAnyH_take (i := 8) (v := ?_) rfl (by kernel_rfl) (by kernel_rfl) (by kernel_rfl) (fun _ _ _ h => h) (Or.inl ⟨by rfl, ?_⟩) (by assumption) ?_
  case refine_2 => (intro w hSw; (try dsimp only at hSw); go_simp; try with_reducible rfl)
  simp only [Act.put, List.getElem_toArray, List.getElem_cons_zero, List.getElem_cons_succ, List.setIfInBounds_toArray, List.set_cons_zero, List.set_cons_succ]
  refine wpAnyH_ready (rs := [9]) (by kernel_rfl) (by simp) ?_
  refine AllReadyH.cons rfl (fun K hK => ?_) AllReadyH.nil
  go_simp
  refine (HC.out).mono ?_
  rintro e w5 ⟨rfl, hb5⟩
  go_wp2_with fail
  have hS5 := RbS.keep hHeld hb5
  refine hK.out _ _ hS5 (fun hHeld => ?_)
  clear hK K
  refine wpAnyH_take (i := 10) (v := ?_) rfl (by kernel_rfl) (by kernel_rfl) (by kernel_rfl) (fun _ _ _ h => h) (Or.inl ⟨by rfl, ?_⟩) (by assumption) ?_
  case refine_2 => (intro w hSw; (try dsimp only at hSw); go_simp; try with_reducible rfl)
  simp only [Act.put, List.getElem_toArray, List.getElem_cons_zero, List.getElem_cons_succ, List.setIfInBounds_toArray, List.set_cons_zero, List.set_cons_succ]
  refine wpAnyH_take (i := 11) (v := ?_) rfl (by kernel_rfl) (by kernel_rfl) (by kernel_rfl) (fun _ _ _ h => h) (Or.inl ⟨by rfl, ?_⟩) (by assumption) ?_
  case refine_2 => (intro w hSw; (try dsimp only at hSw); go_simp; try with_reducible rfl)
  simp only [Act.put, List.getElem_toArray, List.getElem_cons_zero, List.getElem_cons_succ, List.setIfInBounds_toArray, List.set_cons_zero, List.set_cons_succ]
  refine wpAnyH_done (by kernel_rfl) ?_ _
  refine NoPanic.normal ?_
  go_wp2_with fail
  go_ret
  exact ⟨rfl, bl_trans (Below.refl _ _).drew hb5⟩
/-- What bodyToRead hands back. -/
def BtrP (w : World) (M : Rm) (v : Rv) (id : Int) (e : Ending) (w' : World) : Prop :=
  (okR restR v = false ∧ e = .returned (.tuple #[.pointer none, .int .i64 1]) ∧ Below w.heap.size w w') ∨
  (okR restR v = true ∧ atR v.sb id < 0 ∧ e = .returned (.tuple #[.pointer none, .int .i64 3]) ∧ Below w.heap.size w w') ∨
  (okR restR v = true ∧ ¬ atR v.sb id < 0 ∧ (hasL v.ln id || hasL v.gs id) = true ∧ e = .returned (.tuple #[.pointer none, .int .i64 5]) ∧ Below w.heap.size w w') ∨
  (okR restR v = true ∧ ¬ atR v.sb id < 0 ∧ (hasL v.ln id || hasL v.gs id) = false ∧ ∃ (b : Nat) (A : Na) (P : Nat → Tm) (f : Nat) (sa : Option Addr) (sc : Nat) (ys : List Sa), e = .returned (.tuple #[.pointer (some ⟨b, 0, none⟩), .int .i64 0]) ∧ RBody w.heap.size b A P f v sa M.s sc ys w' ∧ A.n = M.l ∧ A.n' = M.g ∧ (∀ y, y ∈ ys → ∃ x, x ∈ M.xs ∧ y.n = x.n) ∧ Below w.heap.size w w')
set_option maxRecDepth 100000 in
set_option maxHeartbeats 8000000 in
theorem bodyToRead_any (M : Rm) (v : Rv) (id : Int) (w : World) (hI : RIn w M v) (hm1 : RLe M 1048576) (hcap : RCap M) (hw : RWf v) (hid : (Lit.int .i64 id).wf = true) :
    Calls Tryz.prog 93 #[.agg #[.int .i64 v.cp, .int .i64 v.se, .slice M.ia M.i M.ic, .int .i64 v.nx, .slice M.sa M.s M.sc, .slice M.la M.l M.lc, .slice M.ga M.g M.gc, .bool v.cl], .int .i64 id] w fun e w' => BtrP w M v id e w' := by
  have hm := hm1.mono (k' := 2097152) (by omega)
  obtain ⟨U0, hU0⟩ : ∃ W, W = w.alloc (.cells #[.int .i64 v.cp, .int .i64 v.se, .slice M.ia M.i M.ic, .int .i64 v.nx, .slice M.sa M.s M.sc, .slice M.la M.l M.lc, .slice M.ga M.g M.gc, .bool v.cl] 28) := ⟨_, rfl⟩
  have B0 : Below w.heap.size w U0 := by rw [hU0]; exact bl_alloc (Below.refl _ _) _
  have A0 : BoxL w.heap.size (rC M v) U0 := by rw [hU0]; exact BoxL.new w (rC M v) _
  have HK := hidOf (implRingOk_any M v U0 (hI.keep B0) hm1 hcap hw)
  have p0 := A0.cs 0 (by simp)
  have p1 := A0.cs 1 (by simp)
  have p2 := A0.cs 2 (by simp)
  have p3 := A0.cs 3 (by simp)
  have p4 := A0.cs 4 (by simp)
  have p5 := A0.cs 5 (by simp)
  have p6 := A0.cs 6 (by simp)
  have p7 := A0.cs 7 (by simp)
  simp at p0 p1 p2 p3 p4 p5 p6 p7
  have HI := hidOf hI
  have HM := hidOf hm
  have HW := hidOf hw
  have HCap := hidOf hcap
  have HId := hidOf hid
  obtain ⟨q, hq⟩ : ∃ q, okR restR v = q := ⟨_, rfl⟩
  rw [hq] at HK
  have HQ := hidOf hq
  clear hI hm hm1 hcap hw hid hq
  go_enter Tryz.func93, Tryz.ntmps93
  go_upto_region 1 with fail
  rw [← hU0]
  clear hU0
  go_wp2_with fail
  refine (HK.out).mono ?_
  rintro e w1 ⟨rfl, b1⟩
  have A1 := A0.keep b1
  have B1 := bl_trans B0 b1
  have hs1 : w.heap.size < w1.heap.size := A1.lt
  clear A0 p0 p1 p2 p3 p4 p5 p6 p7 B0 b1 HK
  cases q
  · go_wp2_with fail
    go_ret2
    exact .inl ⟨HQ.out, rfl, B1⟩
  have p0 := A1.cs 0 (by simp)
  have p1 := A1.cs 1 (by simp)
  have p2 := A1.cs 2 (by simp)
  have p3 := A1.cs 3 (by simp)
  have p4 := A1.cs 4 (by simp)
  have p5 := A1.cs 5 (by simp)
  have p6 := A1.cs 6 (by simp)
  have p7 := A1.cs 7 (by simp)
  simp at p0 p1 p2 p3 p4 p5 p6 p7
  have HPl := hidOf (placeOfSub_any M.sa M.s M.sc M.xs id w1 (HI.out.keep B1).sb HM.out.s)
  rw [HI.out.sv] at HPl
  obtain ⟨at', hat⟩ : ∃ a, atR v.sb id = a := ⟨_, rfl⟩
  rw [hat] at HPl
  have HAt := hidOf hat
  clear hat
  go_wp2_with fail
  refine (HPl.out).mono ?_
  rintro e w2 ⟨rfl, b2⟩
  have A2 := A1.keep b2
  have B2 := bl_trans B1 b2
  clear A1 B1 p0 p1 p2 p3 p4 p5 p6 p7 HPl
  by_cases hneg : at' < 0
  · go_wp2_with fail
    go_ret2
    exact .inr (.inl ⟨HQ.out, by rw [HAt.out]; exact hneg, rfl, B2⟩)
  have HNeg := hidOf hneg
  obtain ⟨f, hse, hi, hf⟩ := ok_first HQ.out
  have HC := hidOf (ringBodyOf_any M v w2 f (HI.out.keep B2) HM.out HCap.out hse hi hf)
  have p0 := A2.cs 0 (by simp)
  have p1 := A2.cs 1 (by simp)
  have p2 := A2.cs 2 (by simp)
  have p3 := A2.cs 3 (by simp)
  have p4 := A2.cs 4 (by simp)
  have p5 := A2.cs 5 (by simp)
  have p6 := A2.cs 6 (by simp)
  have p7 := A2.cs 7 (by simp)
  simp at p0 p1 p2 p3 p4 p5 p6 p7
  clear hse hi hf
  go_wp2_with fail
  refine (HC.out).mono ?_
  rintro e w3 ⟨b, A, P, f2, sa, sc, ys, rfl, body3, hAn, hAn', hyn, b3⟩
  have B3 := bl_trans B2 b3
  have HT := hidOf (turnOf_any w2.heap.size b A v.ln v.gs id w3 body3.wst (by have := HM.out.l; omega) (by have := HM.out.g; omega) HW.out.ln HW.out.gs HId.out)
  have HBo := hidOf body3
  have HAn := hidOf (And.intro hAn hAn')
  clear A2 p0 p1 p2 p3 p4 p5 p6 p7 HC hAn hAn' body3 hneg
  obtain ⟨tt, htt⟩ : ∃ t, turnL v.ln v.gs id = t := ⟨_, rfl⟩
  rw [htt] at HT
  have HTt := hidOf htt
  clear htt
  go_wp2_with fail
  refine (HT.out).mono ?_
  rintro e w4 ⟨rfl, b4⟩
  have B4 := bl_trans B3 b4
  have HBo4 := hidOf ((HBo.out.keep b4).mono (B' := w.heap.size) B2.size)
  rcases turn_cases v.ln v.gs id with ⟨h0, h1⟩ | ⟨h0, h1, h2⟩ | ⟨h0, h1, h2⟩
  · obtain rfl : tt = 4 := by rw [← HTt.out, h0]
    have HH := hidOf (show (hasL v.ln id || hasL v.gs id) = true by rw [h1]; rfl)
    clear h0 h1 HT
    go_wp2_with fail
    go_ret2
    exact .inr (.inr (.inl ⟨HQ.out, by rw [HAt.out]; have h := HNeg.out; omega, HH.out, rfl, B4⟩))
  · obtain rfl : tt = 0 := by rw [← HTt.out, h0]
    have HH := hidOf (show (hasL v.ln id || hasL v.gs id) = true by rw [h1, h2]; rfl)
    clear h0 h1 h2 HT
    go_wp2_with fail
    go_ret2
    exact .inr (.inr (.inl ⟨HQ.out, by rw [HAt.out]; have h := HNeg.out; omega, HH.out, rfl, B4⟩))
  · obtain rfl : tt = 3 := by rw [← HTt.out, h0]
    have HH := hidOf (show (hasL v.ln id || hasL v.gs id) = false by rw [h1, h2]; rfl)
    clear h0 h1 h2 HT
    go_wp2_with fail
    go_ret2
    exact .inr (.inr (.inr ⟨HQ.out, by rw [HAt.out]; have h := HNeg.out; omega, HH.out, b, A, P, f2, sa, sc, ys, rfl, HBo4.out, HAn.out.1, HAn.out.2, hyn, B4⟩))
end Go.Proofs.YtclfdfefimdjdaaGreat
