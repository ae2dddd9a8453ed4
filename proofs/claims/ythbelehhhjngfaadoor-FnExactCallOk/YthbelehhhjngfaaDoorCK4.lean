/-
  The program's CallOk, whole.
-/
import Derived.Test.YthbelehhhjngfaaDoorCK3
import Derived.Deep.Cut
namespace Go.Proofs.YthbelehhhjngfaaDoor
open Go.RowKit Pl Il Tn

set_option maxHeartbeats 4000000 in
theorem named_any (x : Cl) (p : Option Addr) (m c : Nat) (w : World) (hI : CIn w x p m) (hm : m ≤ 2097152) (hg : GOkT w) :
    Calls Tryd.prog 20 #[.agg #[.int .i64 x.op, .int .i64 x.a, .int .i64 x.b, .int .i64 x.tk, .string x.nm, .int .i64 x.kd, .int .i64 x.nu, .string x.tx, .slice p m c]] w fun e w' => e = .returned (.bool (namC x)) ∧ Below w.heap.size w w' := by
  obtain ⟨U0, hU0⟩ : ∃ W, W = w.alloc (.cells #[.int .i64 x.op, .int .i64 x.a, .int .i64 x.b, .int .i64 x.tk, .string x.nm, .int .i64 x.kd, .int .i64 x.nu, .string x.tx, .slice p m c] 32) := ⟨_, rfl⟩
  have B0 : Below w.heap.size w U0 := by rw [hU0]; exact bl_alloc (Below.refl _ _) _
  have A0 : BoxL w.heap.size (clC x p m c) U0 := by rw [hU0]; exact BoxL.new w (clC x p m c) _
  obtain ⟨p0, p1, p2, p3, p4, p5, p6, p7, p8⟩ := A0.c9
  have HM := hidOf (fun u => implMsgOk_any x.kd x.nu x.tx u hI.tx)
  have HP := hidOf (implPattern_any x.nm U0 hI.nm (hg.keep B0))
  have HF := hidOf (implFilterOk_any p m c x.fl U0 (hI.keep B0).fl (by omega))
  obtain ⟨mo, hmo⟩ : ∃ q, okB x.kd x.nu x.tx = q := ⟨_, rfl⟩
  obtain ⟨po, hpo⟩ : ∃ q, rightN true x.nm = q := ⟨_, rfl⟩
  obtain ⟨fo, hfo⟩ : ∃ q, okF x.fl = q := ⟨_, rfl⟩
  rw [hmo] at HM
  rw [hpo] at HP
  rw [hfo] at HF
  have HQ := hidOf (show namC x = (if x.op = 9 then decide (1 ≤ x.b) && (decide (x.b ≤ 4) && mo) else if x.op = 13 then po && mo else if x.op = 14 then (decide (x.b = 0) || decide (x.b = 1)) && fo else decide (-1 ≤ x.tk)) by unfold namC; rw [hmo, hpo, hfo])
  clear hI hg hmo hpo hfo
  obtain ⟨o, ho⟩ : ∃ o, x.op = o := ⟨_, rfl⟩
  obtain ⟨b, hb⟩ : ∃ b, x.b = b := ⟨_, rfl⟩
  obtain ⟨tk, htk⟩ : ∃ b, x.tk = b := ⟨_, rfl⟩
  rw [ho] at p0
  rw [hb] at p2
  rw [htk] at p3
  rw [ho, hb, htk] at HQ
  have HO := hidOf ho
  clear ho hb htk
  go_enter Tryd.func20, Tryd.ntmps20
  go_upto_region 1 with fail
  rw [← hU0]
  clear hU0
  by_cases h9 : o = 9
  · subst h9
    by_cases h1 : 1 ≤ b
    · by_cases h2 : b ≤ 4
      · go_wp2_with fail
        refine (HM.out U0).mono ?_
        rintro e w1 ⟨rfl, b1⟩
        have B1 := bl_trans B0 b1
        go_wp2_with fail
        go_ret
        exact ⟨rbool (by rw [HQ.out]; simp [h1, h2]), B1⟩
      · have h2' : decide (b ≤ 4) = false := by simpa using h2
        go_wp2_with fail
        go_ret
        exact ⟨rbool (by rw [HQ.out]; simp [h2']), B0⟩
    · have h1' : decide (1 ≤ b) = false := by simpa using h1
      go_wp2_with fail
      go_ret
      exact ⟨rbool (by rw [HQ.out]; simp [h1']), B0⟩
  by_cases h13 : o = 13
  · subst h13
    go_wp2_with fail
    refine (HP.out).mono ?_
    rintro e w1 ⟨rfl, b1⟩
    have B1 := bl_trans B0 b1
    have A1 := A0.keep b1
    clear p0 p1 p2 p3 p4 p5 p6 p7 p8 A0 b1 HP
    obtain ⟨p0, p1, p2, p3, p4, p5, p6, p7, p8⟩ := A1.c9
    cases po
    · go_wp2_with fail
      go_ret
      exact ⟨rbool (by rw [HQ.out]; simp), B1⟩
    · go_wp2_with fail
      refine (HM.out w1).mono ?_
      rintro e w2 ⟨rfl, b2⟩
      have B2 := bl_trans B1 b2
      go_wp2_with fail
      go_ret
      exact ⟨rbool (by rw [HQ.out]; simp), B2⟩
  by_cases h14 : o = 14
  · subst h14
    by_cases h1 : b = 0
    · subst h1
      go_wp2_with fail
      refine (HF.out).mono ?_
      rintro e w1 ⟨rfl, b1⟩
      have B1 := bl_trans B0 b1
      go_wp2_with fail
      go_ret
      exact ⟨rbool (by rw [HQ.out]; simp), B1⟩
    · have h1' : (b == 0) = false := by simpa using h1
      by_cases h2 : b = 1
      · subst h2
        go_wp2_with fail
        refine (HF.out).mono ?_
        rintro e w1 ⟨rfl, b1⟩
        have B1 := bl_trans B0 b1
        go_wp2_with fail
        go_ret
        exact ⟨rbool (by rw [HQ.out]; simp), B1⟩
      · have h2' : (b == 1) = false := by simpa using h2
        go_wp2_with fail
        go_ret
        exact ⟨rbool (by rw [HQ.out]; simp [h1, h2]), B0⟩
  have n9 : (o == 9) = false := by simpa using h9
  have n13 : (o == 13) = false := by simpa using h13
  have n14 : (o == 14) = false := by simpa using h14
  have HN := hidOf (And.intro h9 (And.intro h13 h14))
  clear h9 h13 h14
  go_wp2_with fail
  go_ret
  refine ⟨rbool ?_, B0⟩
  rw [HQ.out, if_neg HN.out.1, if_neg HN.out.2.1, if_neg HN.out.2.2]
/-- What the walk of CallOk holds on to. -/
abbrev CHeld (w : World) (x : Cl) (p : Option Addr) (m c : Nat) (u : World) : Prop := u.cell? ⟨w.heap.size, 0, none⟩ = some (.int .i64 x.op) ∧ u.cell? ⟨w.heap.size, 1, none⟩ = some (.int .i64 x.a) ∧ u.cell? ⟨w.heap.size, 2, none⟩ = some (.int .i64 x.b) ∧ u.cell? ⟨w.heap.size, 3, none⟩ = some (.int .i64 x.tk) ∧ u.cell? ⟨w.heap.size, 4, none⟩ = some (.string x.nm) ∧ u.cell? ⟨w.heap.size, 5, none⟩ = some (.int .i64 x.kd) ∧ u.cell? ⟨w.heap.size, 6, none⟩ = some (.int .i64 x.nu) ∧ u.cell? ⟨w.heap.size, 7, none⟩ = some (.string x.tx) ∧ u.cell? ⟨w.heap.size, 8, none⟩ = some (.slice p m c) ∧ BoxL w.heap.size (clC x p m c) u ∧ Below w.heap.size w u
theorem CHeld.mk' {w : World} {x : Cl} {p : Option Addr} {m c : Nat} {u : World} (h : BoxL w.heap.size (clC x p m c) u) (hb : Below w.heap.size w u) : CHeld w x p m c u := by
  obtain ⟨p0, p1, p2, p3, p4, p5, p6, p7, p8⟩ := h.c9
  exact ⟨p0, p1, p2, p3, p4, p5, p6, p7, p8, h, hb⟩
theorem CHeld.bel {w : World} {x : Cl} {p : Option Addr} {m c : Nat} {u : World} (h : CHeld w x p m c u) : Below w.heap.size w u := h.2.2.2.2.2.2.2.2.2.2
theorem CHeld.keep {w : World} {x : Cl} {p : Option Addr} {m c : Nat} {u u' : World} (h : CHeld w x p m c u) (hb : Below u.heap.size u u') : CHeld w x p m c u' := CHeld.mk' (h.2.2.2.2.2.2.2.2.2.1.keep hb) (bl_trans h.bel hb)
theorem CHeld.drew {w : World} {x : Cl} {p : Option Addr} {m c : Nat} {u : World} (h : CHeld w x p m c u) : CHeld w x p m c u.drew := h.keep (Below.refl _ _).drew
theorem has_any (x : Cl) (p : Option Addr) (m c : Nat) (w : World) (hl : x.fl.length = m) (h1 : 1 ≤ x.op) (h2 : x.op ≤ 19) : Calls Tryd.prog 18 #[.agg #[.int .i64 x.op, .int .i64 x.a, .int .i64 x.b, .int .i64 x.tk, .string x.nm, .int .i64 x.kd, .int .i64 x.nu, .string x.tx, .slice p m c], fldV x.op] w fun e w' => e = .returned (.bool (hasC (fA x.op) (fB x.op) (fT x.op) (fN x.op) (fM x.op) (fF x.op) x)) ∧ Below w.heap.size w w' := by
  have h : x.op = 1 ∨ x.op = 2 ∨ x.op = 3 ∨ x.op = 4 ∨ x.op = 5 ∨ x.op = 6 ∨ x.op = 7 ∨ x.op = 8 ∨ x.op = 9 ∨ x.op = 10 ∨ x.op = 11 ∨ x.op = 12 ∨ x.op = 13 ∨ x.op = 14 ∨ x.op = 15 ∨ x.op = 16 ∨ x.op = 17 ∨ x.op = 18 ∨ x.op = 19 := by omega
  rcases h with h | h | h | h | h | h | h | h | h | h | h | h | h | h | h | h | h | h | h
  · rw [h, show fldV 1 = .agg #[.bool true, .bool false, .bool false, .bool false, .bool false, .bool false] by rfl, show fA 1 = true by rfl, show fB 1 = false by rfl, show fT 1 = false by rfl, show fN 1 = false by rfl, show fM 1 = false by rfl, show fF 1 = false by rfl, ← h]; exact has_1 x p m c w hl
  · rw [h, show fldV 2 = .agg #[.bool true, .bool false, .bool false, .bool false, .bool false, .bool false] by rfl, show fA 2 = true by rfl, show fB 2 = false by rfl, show fT 2 = false by rfl, show fN 2 = false by rfl, show fM 2 = false by rfl, show fF 2 = false by rfl, ← h]; exact has_1 x p m c w hl
  · rw [h, show fldV 3 = .agg #[.bool true, .bool false, .bool true, .bool false, .bool false, .bool false] by rfl, show fA 3 = true by rfl, show fB 3 = false by rfl, show fT 3 = true by rfl, show fN 3 = false by rfl, show fM 3 = false by rfl, show fF 3 = false by rfl, ← h]; exact has_3 x p m c w hl
  · rw [h, show fldV 4 = .agg #[.bool true, .bool false, .bool false, .bool false, .bool false, .bool false] by rfl, show fA 4 = true by rfl, show fB 4 = false by rfl, show fT 4 = false by rfl, show fN 4 = false by rfl, show fM 4 = false by rfl, show fF 4 = false by rfl, ← h]; exact has_1 x p m c w hl
  · rw [h, show fldV 5 = .agg #[.bool true, .bool false, .bool false, .bool false, .bool false, .bool false] by rfl, show fA 5 = true by rfl, show fB 5 = false by rfl, show fT 5 = false by rfl, show fN 5 = false by rfl, show fM 5 = false by rfl, show fF 5 = false by rfl, ← h]; exact has_1 x p m c w hl
  · rw [h, show fldV 6 = .agg #[.bool true, .bool false, .bool true, .bool false, .bool false, .bool false] by rfl, show fA 6 = true by rfl, show fB 6 = false by rfl, show fT 6 = true by rfl, show fN 6 = false by rfl, show fM 6 = false by rfl, show fF 6 = false by rfl, ← h]; exact has_3 x p m c w hl
  · rw [h, show fldV 7 = .agg #[.bool true, .bool true, .bool false, .bool false, .bool false, .bool false] by rfl, show fA 7 = true by rfl, show fB 7 = true by rfl, show fT 7 = false by rfl, show fN 7 = false by rfl, show fM 7 = false by rfl, show fF 7 = false by rfl, ← h]; exact has_7 x p m c w hl
  · rw [h, show fldV 8 = .agg #[.bool true, .bool false, .bool true, .bool false, .bool false, .bool false] by rfl, show fA 8 = true by rfl, show fB 8 = false by rfl, show fT 8 = true by rfl, show fN 8 = false by rfl, show fM 8 = false by rfl, show fF 8 = false by rfl, ← h]; exact has_3 x p m c w hl
  · rw [h, show fldV 9 = .agg #[.bool true, .bool true, .bool false, .bool false, .bool true, .bool false] by rfl, show fA 9 = true by rfl, show fB 9 = true by rfl, show fT 9 = false by rfl, show fN 9 = false by rfl, show fM 9 = true by rfl, show fF 9 = false by rfl, ← h]; exact has_9 x p m c w hl
  · rw [h, show fldV 10 = .agg #[.bool true, .bool false, .bool false, .bool false, .bool false, .bool false] by rfl, show fA 10 = true by rfl, show fB 10 = false by rfl, show fT 10 = false by rfl, show fN 10 = false by rfl, show fM 10 = false by rfl, show fF 10 = false by rfl, ← h]; exact has_1 x p m c w hl
  · rw [h, show fldV 11 = .agg #[.bool true, .bool false, .bool true, .bool false, .bool false, .bool false] by rfl, show fA 11 = true by rfl, show fB 11 = false by rfl, show fT 11 = true by rfl, show fN 11 = false by rfl, show fM 11 = false by rfl, show fF 11 = false by rfl, ← h]; exact has_3 x p m c w hl
  · rw [h, show fldV 12 = .agg #[.bool true, .bool false, .bool false, .bool false, .bool false, .bool false] by rfl, show fA 12 = true by rfl, show fB 12 = false by rfl, show fT 12 = false by rfl, show fN 12 = false by rfl, show fM 12 = false by rfl, show fF 12 = false by rfl, ← h]; exact has_1 x p m c w hl
  · rw [h, show fldV 13 = .agg #[.bool false, .bool false, .bool false, .bool true, .bool true, .bool false] by rfl, show fA 13 = false by rfl, show fB 13 = false by rfl, show fT 13 = false by rfl, show fN 13 = true by rfl, show fM 13 = true by rfl, show fF 13 = false by rfl, ← h]; exact has_13 x p m c w hl
  · rw [h, show fldV 14 = .agg #[.bool true, .bool true, .bool false, .bool false, .bool false, .bool true] by rfl, show fA 14 = true by rfl, show fB 14 = true by rfl, show fT 14 = false by rfl, show fN 14 = false by rfl, show fM 14 = false by rfl, show fF 14 = true by rfl, ← h]; exact has_14 x p m c w hl
  · rw [h, show fldV 15 = .agg #[.bool false, .bool true, .bool true, .bool false, .bool false, .bool false] by rfl, show fA 15 = false by rfl, show fB 15 = true by rfl, show fT 15 = true by rfl, show fN 15 = false by rfl, show fM 15 = false by rfl, show fF 15 = false by rfl, ← h]; exact has_15 x p m c w hl
  · rw [h, show fldV 16 = .agg #[.bool false, .bool true, .bool false, .bool false, .bool false, .bool false] by rfl, show fA 16 = false by rfl, show fB 16 = true by rfl, show fT 16 = false by rfl, show fN 16 = false by rfl, show fM 16 = false by rfl, show fF 16 = false by rfl, ← h]; exact has_16 x p m c w hl
  · rw [h, show fldV 17 = .agg #[.bool true, .bool false, .bool false, .bool false, .bool false, .bool false] by rfl, show fA 17 = true by rfl, show fB 17 = false by rfl, show fT 17 = false by rfl, show fN 17 = false by rfl, show fM 17 = false by rfl, show fF 17 = false by rfl, ← h]; exact has_1 x p m c w hl
  · rw [h, show fldV 18 = .agg #[.bool true, .bool false, .bool false, .bool false, .bool false, .bool false] by rfl, show fA 18 = true by rfl, show fB 18 = false by rfl, show fT 18 = false by rfl, show fN 18 = false by rfl, show fM 18 = false by rfl, show fF 18 = false by rfl, ← h]; exact has_1 x p m c w hl
  · rw [h, show fldV 19 = .agg #[.bool true, .bool true, .bool false, .bool false, .bool false, .bool false] by rfl, show fA 19 = true by rfl, show fB 19 = true by rfl, show fT 19 = false by rfl, show fN 19 = false by rfl, show fM 19 = false by rfl, show fF 19 = false by rfl, ← h]; exact has_7 x p m c w hl
set_option maxHeartbeats 4000000 in
theorem implCall_any (x : Cl) (p : Option Addr) (m c : Nat) (w : World) (hI : CIn w x p m) (hm : m ≤ 2097152) (hg : GOkT w) :
    Calls Tryd.prog 7 #[.agg #[.int .i64 x.op, .int .i64 x.a, .int .i64 x.b, .int .i64 x.tk, .string x.nm, .int .i64 x.kd, .int .i64 x.nu, .string x.tx, .slice p m c]] w fun e w' => e = .returned (.bool (okC x)) ∧ Below w.heap.size w w' := by
  have b0 : Below w.heap.size w (w.alloc (.cells #[.int .i64 x.op, .int .i64 x.a, .int .i64 x.b, .int .i64 x.tk, .string x.nm, .int .i64 x.kd, .int .i64 x.nu, .string x.tx, .slice p m c] 32)) := bl_alloc (Below.refl _ _) _
  have hH : CHeld w x p m c (w.alloc (.cells #[.int .i64 x.op, .int .i64 x.a, .int .i64 x.b, .int .i64 x.tk, .string x.nm, .int .i64 x.kd, .int .i64 x.nu, .string x.tx, .slice p m c] 32)) := CHeld.mk' (BoxL.new w (clC x p m c) _) b0
  by_cases h1 : 1 ≤ x.op
  · by_cases h2 : x.op ≤ 19
    · have HA := hidOf (fun (u : World) => fields_any x.op u h1 h2)
      have HB := hidOf (fun (u : World) => has_any x p m c u hI.fl.len h1 h2)
      have HC := hidOf (fun (u : World) (hu : Below w.heap.size w u) => named_any x p m c u (hI.keep hu) hm (hg.keep hu))
      obtain ⟨q, hq⟩ : ∃ q, hasC (fA x.op) (fB x.op) (fT x.op) (fN x.op) (fM x.op) (fF x.op) x = q := ⟨_, rfl⟩
      have HQ := hidOf (show okC x = (q && namC x) by unfold okC; rw [hq]; simp [h1, h2])
      rw [hq] at HB
      have d1 : decide (1 ≤ x.op) = true := by simpa using h1
      have d2 : decide (x.op ≤ 19) = true := by simpa using h2
      clear hq hI hg b0
      cases q
      · go_enter Tryd.func7, Tryd.ntmps7
        go_wp2_with fail
        refine wp_region_noPanic ?_
        refine wp_region_held_drew (S := fun u => CHeld w x p m c u) (by kernel_rfl) hH.drew (fun hHeld => ?_)
        refine wpAnyH_take (i := 0) (v := ?_) rfl (by kernel_rfl) (by kernel_rfl) (by kernel_rfl) (fun _ _ _ h => h) (Or.inl ⟨by rfl, ?_⟩) (by assumption) ?_
        case refine_2 => (intro w hSw; (try dsimp only at hSw); go_simp; try with_reducible rfl)
        simp only [Act.put, List.getElem_toArray, List.getElem_cons_zero, List.setIfInBounds_toArray, List.set_cons_zero, List.set_cons_succ]
        refine wpAnyH_take (i := 1) (v := ?_) rfl (by kernel_rfl) (by kernel_rfl) (by kernel_rfl) (fun _ _ _ h => h) (Or.inl ⟨by rfl, ?_⟩) (by assumption) ?_
        case refine_2 => (intro w hSw; (try dsimp only at hSw); go_simp; try with_reducible rfl)
        simp only [Act.put, zGA, zG0, zGC, zSA, zS0, zSC]
        refine wpAnyH_take (i := 2) (v := ?_) rfl (by kernel_rfl) (by kernel_rfl) (by kernel_rfl) (fun _ _ _ h => h) (Or.inl ⟨by rfl, ?_⟩) (by assumption) ?_
        case refine_2 => (intro w hSw; (try dsimp only at hSw); go_simp; try with_reducible rfl)
        simp only [Act.put, zGA, zG0, zGC, zSA, zS0, zSC]
        refine wpAnyH_take (i := 3) (v := ?_) rfl (by kernel_rfl) (by kernel_rfl) (by kernel_rfl) (fun _ _ _ h => h) (Or.inl ⟨by rfl, ?_⟩) (by assumption) ?_
        case refine_2 => (intro w hSw; (try dsimp only at hSw); go_simp; try with_reducible rfl)
        simp only [Act.put, zGA, zG0, zGC, zSA, zS0, zSC]
        refine wpAnyH_take (i := 4) (v := ?_) rfl (by kernel_rfl) (by kernel_rfl) (by kernel_rfl) (fun _ _ _ h => h) (Or.inl ⟨by rfl, ?_⟩) (by assumption) ?_
        case refine_2 => (intro w hSw; (try dsimp only at hSw); go_simp; try with_reducible rfl)
        simp only [Act.put, zGA, zG0, zGC, zSA, zS0, zSC]
        refine wpAnyH_take (i := 5) (v := ?_) rfl (by kernel_rfl) (by kernel_rfl) (by kernel_rfl) (fun _ _ _ h => h) (Or.inl ⟨by rfl, ?_⟩) (by assumption) ?_
        case refine_2 => (intro w hSw; (try dsimp only at hSw); go_simp; try with_reducible rfl)
        simp only [Act.put, zGA, zG0, zGC, zSA, zS0, zSC]
        refine wpAnyH_take (i := 6) (v := ?_) rfl (by kernel_rfl) (by kernel_rfl) (by kernel_rfl) (fun _ _ _ h => h) (Or.inl ⟨by rfl, ?_⟩) (by assumption) ?_
        case refine_2 => (intro w hSw; (try dsimp only at hSw); go_simp; try with_reducible rfl)
        simp only [Act.put, zGA, zG0, zGC, zSA, zS0, zSC]
        refine wpAnyH_take (i := 7) (v := ?_) rfl (by kernel_rfl) (by kernel_rfl) (by kernel_rfl) (fun _ _ _ h => h) (Or.inl ⟨by rfl, ?_⟩) (by assumption) ?_
        case refine_2 => (intro w hSw; (try dsimp only at hSw); go_simp; try with_reducible rfl)
        simp only [Act.put, zGA, zG0, zGC, zSA, zS0, zSC]
        refine wpAnyH_take (i := 8) (v := ?_) rfl (by kernel_rfl) (by kernel_rfl) (by kernel_rfl) (fun _ _ _ h => h) (Or.inl ⟨by rfl, ?_⟩) (by assumption) ?_
        case refine_2 => (intro w hSw; (try dsimp only at hSw); go_simp; try with_reducible rfl)
        simp only [Act.put, zGA, zG0, zGC, zSA, zS0, zSC]
        refine wpAnyH_take (i := 9) (v := ?_) rfl (by kernel_rfl) (by kernel_rfl) (by kernel_rfl) (fun _ _ _ h => h) (Or.inl ⟨by rfl, ?_⟩) (by assumption) ?_
        case refine_2 => (intro w hSw; (try dsimp only at hSw); go_simp; try with_reducible rfl)
        simp only [Act.put, zGA, zG0, zGC, zSA, zS0, zSC]
        refine wpAnyH_take (i := 10) (v := ?_) rfl (by kernel_rfl) (by kernel_rfl) (by kernel_rfl) (fun _ _ _ h => h) (Or.inl ⟨by rfl, ?_⟩) (by assumption) ?_
        case refine_2 => (intro w hSw; (try dsimp only at hSw); go_simp; try with_reducible rfl)
        simp only [Act.put, zGA, zG0, zGC, zSA, zS0, zSC]
        refine wpAnyH_take (i := 11) (v := ?_) rfl (by kernel_rfl) (by kernel_rfl) (by kernel_rfl) (fun _ _ _ h => h) (Or.inl ⟨by rfl, ?_⟩) (by assumption) ?_
        case refine_2 => (intro w hSw; (try dsimp only at hSw); go_simp; try with_reducible rfl)
        simp only [Act.put, zGA, zG0, zGC, zSA, zS0, zSC]
        refine wpAnyH_ready (rs := [12]) (by kernel_rfl) (by simp) ?_
        refine AllReadyH.cons rfl (fun K hK => ?_) AllReadyH.nil
        go_simp
        refine (HA.out _).mono ?_
        rintro e w4 ⟨rfl, hb4⟩
        go_wp2_with fail
        refine hK.out _ _ (CHeld.keep (by assumption) hb4) (fun hHeld => ?_)
        clear hb4
        clear hK K
        refine wpAnyH_ready (rs := [13]) (by kernel_rfl) (by simp) ?_
        refine AllReadyH.cons rfl (fun K hK => ?_) AllReadyH.nil
        go_simp
        refine (HB.out _).mono ?_
        rintro e w4 ⟨rfl, hb4⟩
        go_wp2_with fail
        refine hK.out _ _ (CHeld.keep (by assumption) hb4) (fun hHeld => ?_)
        clear hb4
        clear hK K
        refine wpAnyH_take (i := 14) (v := ?_) rfl (by kernel_rfl) (by kernel_rfl) (by kernel_rfl) (fun _ _ _ h => h) (Or.inl ⟨by rfl, ?_⟩) (by assumption) ?_
        case refine_2 => (intro w hSw; (try dsimp only at hSw); go_simp; try with_reducible rfl)
        simp only [Act.put, zGA, zG0, zGC, zSA, zS0, zSC]
        refine wpAnyH_take (i := 15) (v := ?_) rfl (by kernel_rfl) (by kernel_rfl) (by kernel_rfl) (fun _ _ _ h => h) (Or.inl ⟨by rfl, ?_⟩) (by assumption) ?_
        case refine_2 => (intro w hSw; (try dsimp only at hSw); go_simp; try with_reducible rfl)
        simp only [Act.put, zGA, zG0, zGC, zSA, zS0, zSC]
        refine wpAnyH_take (i := 16) (v := undef) rfl (by kernel_rfl) (by kernel_rfl) (by kernel_rfl) (fun _ _ _ h => h) (Or.inr ⟨by rfl, rfl⟩) (by assumption) ?_
        simp only [Act.put, zGA, zG0, zGC, zSA, zS0, zSC]
        refine wpAnyH_ready (rs := [17]) (by kernel_rfl) (by simp) ?_
        refine AllReadyH.cons rfl (fun K hK => ?_) AllReadyH.nil
        refine cast (if_neg (Bool.eq_false_iff.1 (by rfl))).symm ?_
        refine hK.out _ _ (by assumption) (fun hHeld => ?_)
        clear hK K
        simp only [Act.put, zGA, zG0, zGC, zSA, zS0, zSC]
        refine wpAnyH_take (i := 18) (v := ?_) rfl (by kernel_rfl) (by kernel_rfl) (by kernel_rfl) (fun _ _ _ h => h) (Or.inl ⟨by rfl, ?_⟩) (by assumption) ?_
        case refine_2 => (intro w hSw; (try dsimp only at hSw); go_simp; try with_reducible rfl)
        simp only [Act.put, zGA, zG0, zGC, zSA, zS0, zSC]
        refine wpAnyH_take (i := 19) (v := ?_) rfl (by kernel_rfl) (by kernel_rfl) (by kernel_rfl) (fun _ _ _ h => h) (Or.inl ⟨by rfl, ?_⟩) (by assumption) ?_
        case refine_2 => (intro w hSw; (try dsimp only at hSw); go_simp; try with_reducible rfl)
        simp only [Act.put, zGA, zG0, zGC, zSA, zS0, zSC]
        refine wpAnyH_done (by kernel_rfl) ?_ _
        refine NoPanic.normal ?_
        have hU := hHeld
        go_wp2
        go_ret
        exact ⟨rbool (by rw [HQ.out]; simp), hU.bel⟩

      · go_enter Tryd.func7, Tryd.ntmps7
        go_wp2_with fail
        refine wp_region_noPanic ?_
        refine wp_region_held_drew (S := fun u => CHeld w x p m c u) (by kernel_rfl) hH.drew (fun hHeld => ?_)
        refine wpAnyH_take (i := 0) (v := ?_) rfl (by kernel_rfl) (by kernel_rfl) (by kernel_rfl) (fun _ _ _ h => h) (Or.inl ⟨by rfl, ?_⟩) (by assumption) ?_
        case refine_2 => (intro w hSw; (try dsimp only at hSw); go_simp; try with_reducible rfl)
        simp only [Act.put, List.getElem_toArray, List.getElem_cons_zero, List.setIfInBounds_toArray, List.set_cons_zero, List.set_cons_succ]
        refine wpAnyH_take (i := 1) (v := ?_) rfl (by kernel_rfl) (by kernel_rfl) (by kernel_rfl) (fun _ _ _ h => h) (Or.inl ⟨by rfl, ?_⟩) (by assumption) ?_
        case refine_2 => (intro w hSw; (try dsimp only at hSw); go_simp; try with_reducible rfl)
        simp only [Act.put, zGA, zG0, zGC, zSA, zS0, zSC]
        refine wpAnyH_take (i := 2) (v := ?_) rfl (by kernel_rfl) (by kernel_rfl) (by kernel_rfl) (fun _ _ _ h => h) (Or.inl ⟨by rfl, ?_⟩) (by assumption) ?_
        case refine_2 => (intro w hSw; (try dsimp only at hSw); go_simp; try with_reducible rfl)
        simp only [Act.put, zGA, zG0, zGC, zSA, zS0, zSC]
        refine wpAnyH_take (i := 3) (v := ?_) rfl (by kernel_rfl) (by kernel_rfl) (by kernel_rfl) (fun _ _ _ h => h) (Or.inl ⟨by rfl, ?_⟩) (by assumption) ?_
        case refine_2 => (intro w hSw; (try dsimp only at hSw); go_simp; try with_reducible rfl)
        simp only [Act.put, zGA, zG0, zGC, zSA, zS0, zSC]
        refine wpAnyH_take (i := 4) (v := ?_) rfl (by kernel_rfl) (by kernel_rfl) (by kernel_rfl) (fun _ _ _ h => h) (Or.inl ⟨by rfl, ?_⟩) (by assumption) ?_
        case refine_2 => (intro w hSw; (try dsimp only at hSw); go_simp; try with_reducible rfl)
        simp only [Act.put, zGA, zG0, zGC, zSA, zS0, zSC]
        refine wpAnyH_take (i := 5) (v := ?_) rfl (by kernel_rfl) (by kernel_rfl) (by kernel_rfl) (fun _ _ _ h => h) (Or.inl ⟨by rfl, ?_⟩) (by assumption) ?_
        case refine_2 => (intro w hSw; (try dsimp only at hSw); go_simp; try with_reducible rfl)
        simp only [Act.put, zGA, zG0, zGC, zSA, zS0, zSC]
        refine wpAnyH_take (i := 6) (v := ?_) rfl (by kernel_rfl) (by kernel_rfl) (by kernel_rfl) (fun _ _ _ h => h) (Or.inl ⟨by rfl, ?_⟩) (by assumption) ?_
        case refine_2 => (intro w hSw; (try dsimp only at hSw); go_simp; try with_reducible rfl)
        simp only [Act.put, zGA, zG0, zGC, zSA, zS0, zSC]
        refine wpAnyH_take (i := 7) (v := ?_) rfl (by kernel_rfl) (by kernel_rfl) (by kernel_rfl) (fun _ _ _ h => h) (Or.inl ⟨by rfl, ?_⟩) (by assumption) ?_
        case refine_2 => (intro w hSw; (try dsimp only at hSw); go_simp; try with_reducible rfl)
        simp only [Act.put, zGA, zG0, zGC, zSA, zS0, zSC]
        refine wpAnyH_take (i := 8) (v := ?_) rfl (by kernel_rfl) (by kernel_rfl) (by kernel_rfl) (fun _ _ _ h => h) (Or.inl ⟨by rfl, ?_⟩) (by assumption) ?_
        case refine_2 => (intro w hSw; (try dsimp only at hSw); go_simp; try with_reducible rfl)
        simp only [Act.put, zGA, zG0, zGC, zSA, zS0, zSC]
        refine wpAnyH_take (i := 9) (v := ?_) rfl (by kernel_rfl) (by kernel_rfl) (by kernel_rfl) (fun _ _ _ h => h) (Or.inl ⟨by rfl, ?_⟩) (by assumption) ?_
        case refine_2 => (intro w hSw; (try dsimp only at hSw); go_simp; try with_reducible rfl)
        simp only [Act.put, zGA, zG0, zGC, zSA, zS0, zSC]
        refine wpAnyH_take (i := 10) (v := ?_) rfl (by kernel_rfl) (by kernel_rfl) (by kernel_rfl) (fun _ _ _ h => h) (Or.inl ⟨by rfl, ?_⟩) (by assumption) ?_
        case refine_2 => (intro w hSw; (try dsimp only at hSw); go_simp; try with_reducible rfl)
        simp only [Act.put, zGA, zG0, zGC, zSA, zS0, zSC]
        refine wpAnyH_take (i := 11) (v := ?_) rfl (by kernel_rfl) (by kernel_rfl) (by kernel_rfl) (fun _ _ _ h => h) (Or.inl ⟨by rfl, ?_⟩) (by assumption) ?_
        case refine_2 => (intro w hSw; (try dsimp only at hSw); go_simp; try with_reducible rfl)
        simp only [Act.put, zGA, zG0, zGC, zSA, zS0, zSC]
        refine wpAnyH_ready (rs := [12]) (by kernel_rfl) (by simp) ?_
        refine AllReadyH.cons rfl (fun K hK => ?_) AllReadyH.nil
        go_simp
        refine (HA.out _).mono ?_
        rintro e w4 ⟨rfl, hb4⟩
        go_wp2_with fail
        refine hK.out _ _ (CHeld.keep (by assumption) hb4) (fun hHeld => ?_)
        clear hb4
        clear hK K
        refine wpAnyH_ready (rs := [13]) (by kernel_rfl) (by simp) ?_
        refine AllReadyH.cons rfl (fun K hK => ?_) AllReadyH.nil
        go_simp
        refine (HB.out _).mono ?_
        rintro e w4 ⟨rfl, hb4⟩
        go_wp2_with fail
        refine hK.out _ _ (CHeld.keep (by assumption) hb4) (fun hHeld => ?_)
        clear hb4
        clear hK K
        refine wpAnyH_take (i := 14) (v := ?_) rfl (by kernel_rfl) (by kernel_rfl) (by kernel_rfl) (fun _ _ _ h => h) (Or.inl ⟨by rfl, ?_⟩) (by assumption) ?_
        case refine_2 => (intro w hSw; (try dsimp only at hSw); go_simp; try with_reducible rfl)
        simp only [Act.put, zGA, zG0, zGC, zSA, zS0, zSC]
        refine wpAnyH_take (i := 15) (v := ?_) rfl (by kernel_rfl) (by kernel_rfl) (by kernel_rfl) (fun _ _ _ h => h) (Or.inl ⟨by rfl, ?_⟩) (by assumption) ?_
        case refine_2 => (intro w hSw; (try dsimp only at hSw); go_simp; try with_reducible rfl)
        simp only [Act.put, zGA, zG0, zGC, zSA, zS0, zSC]
        refine wpAnyH_take (i := 16) (v := ?_) rfl (by kernel_rfl) (by kernel_rfl) (by kernel_rfl) (fun _ _ _ h => h) (Or.inl ⟨by rfl, ?_⟩) (by assumption) ?_
        case refine_2 => (intro w hSw; (try dsimp only at hSw); go_simp; try with_reducible rfl)
        simp only [Act.put, zGA, zG0, zGC, zSA, zS0, zSC]
        refine wpAnyH_ready (rs := [17]) (by kernel_rfl) (by simp) ?_
        refine AllReadyH.cons rfl (fun K hK => ?_) AllReadyH.nil
        go_simp
        refine (HC.out _ (CHeld.bel (by assumption))).mono ?_
        rintro e w4 ⟨rfl, hb4⟩
        go_wp2_with fail
        refine hK.out _ _ (CHeld.keep (by assumption) hb4) (fun hHeld => ?_)
        clear hb4
        clear hK K
        refine wpAnyH_take (i := 18) (v := ?_) rfl (by kernel_rfl) (by kernel_rfl) (by kernel_rfl) (fun _ _ _ h => h) (Or.inl ⟨by rfl, ?_⟩) (by assumption) ?_
        case refine_2 => (intro w hSw; (try dsimp only at hSw); go_simp; try with_reducible rfl)
        simp only [Act.put, zGA, zG0, zGC, zSA, zS0, zSC]
        refine wpAnyH_take (i := 19) (v := ?_) rfl (by kernel_rfl) (by kernel_rfl) (by kernel_rfl) (fun _ _ _ h => h) (Or.inl ⟨by rfl, ?_⟩) (by assumption) ?_
        case refine_2 => (intro w hSw; (try dsimp only at hSw); go_simp; try with_reducible rfl)
        simp only [Act.put, zGA, zG0, zGC, zSA, zS0, zSC]
        refine wpAnyH_done (by kernel_rfl) ?_ _
        refine NoPanic.normal ?_
        have hU := hHeld
        go_wp2
        go_ret
        exact ⟨rbool (by rw [HQ.out]; simp), hU.bel⟩

    · have HQ := hidOf (show okC x = false by unfold okC; simp [h1, h2])
      have d1 : decide (1 ≤ x.op) = true := by simpa using h1
      have d2 : decide (x.op ≤ 19) = false := by simpa using h2
      go_enter Tryd.func7, Tryd.ntmps7
      go_wp2_with fail
      refine wp_region_noPanic ?_
      refine wp_region_held_drew (S := fun u => CHeld w x p m c u) (by kernel_rfl) hH.drew (fun hHeld => ?_)
      refine wpAnyH_take (i := 0) (v := ?_) rfl (by kernel_rfl) (by kernel_rfl) (by kernel_rfl) (fun _ _ _ h => h) (Or.inl ⟨by rfl, ?_⟩) (by assumption) ?_
      case refine_2 => (intro w hSw; (try dsimp only at hSw); go_simp; try with_reducible rfl)
      simp only [Act.put, List.getElem_toArray, List.getElem_cons_zero, List.setIfInBounds_toArray, List.set_cons_zero, List.set_cons_succ]
      refine wpAnyH_take (i := 1) (v := ?_) rfl (by kernel_rfl) (by kernel_rfl) (by kernel_rfl) (fun _ _ _ h => h) (Or.inl ⟨by rfl, ?_⟩) (by assumption) ?_
      case refine_2 => (intro w hSw; (try dsimp only at hSw); go_simp; try with_reducible rfl)
      simp only [Act.put, zGA, zG0, zGC, zSA, zS0, zSC]
      refine wpAnyH_take (i := 2) (v := ?_) rfl (by kernel_rfl) (by kernel_rfl) (by kernel_rfl) (fun _ _ _ h => h) (Or.inl ⟨by rfl, ?_⟩) (by assumption) ?_
      case refine_2 => (intro w hSw; (try dsimp only at hSw); go_simp; try with_reducible rfl)
      simp only [Act.put, zGA, zG0, zGC, zSA, zS0, zSC]
      refine wpAnyH_take (i := 3) (v := ?_) rfl (by kernel_rfl) (by kernel_rfl) (by kernel_rfl) (fun _ _ _ h => h) (Or.inl ⟨by rfl, ?_⟩) (by assumption) ?_
      case refine_2 => (intro w hSw; (try dsimp only at hSw); go_simp; try with_reducible rfl)
      simp only [Act.put, zGA, zG0, zGC, zSA, zS0, zSC]
      refine wpAnyH_take (i := 4) (v := ?_) rfl (by kernel_rfl) (by kernel_rfl) (by kernel_rfl) (fun _ _ _ h => h) (Or.inl ⟨by rfl, ?_⟩) (by assumption) ?_
      case refine_2 => (intro w hSw; (try dsimp only at hSw); go_simp; try with_reducible rfl)
      simp only [Act.put, zGA, zG0, zGC, zSA, zS0, zSC]
      refine wpAnyH_take (i := 5) (v := ?_) rfl (by kernel_rfl) (by kernel_rfl) (by kernel_rfl) (fun _ _ _ h => h) (Or.inl ⟨by rfl, ?_⟩) (by assumption) ?_
      case refine_2 => (intro w hSw; (try dsimp only at hSw); go_simp; try with_reducible rfl)
      simp only [Act.put, zGA, zG0, zGC, zSA, zS0, zSC]
      refine wpAnyH_take (i := 6) (v := ?_) rfl (by kernel_rfl) (by kernel_rfl) (by kernel_rfl) (fun _ _ _ h => h) (Or.inl ⟨by rfl, ?_⟩) (by assumption) ?_
      case refine_2 => (intro w hSw; (try dsimp only at hSw); go_simp; try with_reducible rfl)
      simp only [Act.put, zGA, zG0, zGC, zSA, zS0, zSC]
      refine wpAnyH_take (i := 7) (v := ?_) rfl (by kernel_rfl) (by kernel_rfl) (by kernel_rfl) (fun _ _ _ h => h) (Or.inl ⟨by rfl, ?_⟩) (by assumption) ?_
      case refine_2 => (intro w hSw; (try dsimp only at hSw); go_simp; try with_reducible rfl)
      simp only [Act.put, zGA, zG0, zGC, zSA, zS0, zSC]
      refine wpAnyH_take (i := 8) (v := ?_) rfl (by kernel_rfl) (by kernel_rfl) (by kernel_rfl) (fun _ _ _ h => h) (Or.inl ⟨by rfl, ?_⟩) (by assumption) ?_
      case refine_2 => (intro w hSw; (try dsimp only at hSw); go_simp; try with_reducible rfl)
      simp only [Act.put, zGA, zG0, zGC, zSA, zS0, zSC]
      refine wpAnyH_take (i := 9) (v := undef) rfl (by kernel_rfl) (by kernel_rfl) (by kernel_rfl) (fun _ _ _ h => h) (Or.inr ⟨by rfl, rfl⟩) (by assumption) ?_
      simp only [Act.put, zGA, zG0, zGC, zSA, zS0, zSC]
      refine wpAnyH_take (i := 10) (v := undef) rfl (by kernel_rfl) (by kernel_rfl) (by kernel_rfl) (fun _ _ _ h => h) (Or.inr ⟨by rfl, rfl⟩) (by assumption) ?_
      simp only [Act.put, zGA, zG0, zGC, zSA, zS0, zSC]
      refine wpAnyH_take (i := 11) (v := undef) rfl (by kernel_rfl) (by kernel_rfl) (by kernel_rfl) (fun _ _ _ h => h) (Or.inr ⟨by rfl, rfl⟩) (by assumption) ?_
      simp only [Act.put, zGA, zG0, zGC, zSA, zS0, zSC]
      refine wpAnyH_ready (rs := [12]) (by kernel_rfl) (by simp) ?_
      refine AllReadyH.cons rfl (fun K hK => ?_) AllReadyH.nil
      refine cast (if_neg (Bool.eq_false_iff.1 (by rfl))).symm ?_
      refine hK.out _ _ (by assumption) (fun hHeld => ?_)
      clear hK K
      simp only [Act.put, zGA, zG0, zGC, zSA, zS0, zSC]
      refine wpAnyH_ready (rs := [13]) (by kernel_rfl) (by simp) ?_
      refine AllReadyH.cons rfl (fun K hK => ?_) AllReadyH.nil
      refine cast (if_neg (Bool.eq_false_iff.1 (by rfl))).symm ?_
      refine hK.out _ _ (by assumption) (fun hHeld => ?_)
      clear hK K
      simp only [Act.put, zGA, zG0, zGC, zSA, zS0, zSC]
      refine wpAnyH_take (i := 14) (v := ?_) rfl (by kernel_rfl) (by kernel_rfl) (by kernel_rfl) (fun _ _ _ h => h) (Or.inl ⟨by rfl, ?_⟩) (by assumption) ?_
      case refine_2 => (intro w hSw; (try dsimp only at hSw); go_simp; try with_reducible rfl)
      simp only [Act.put, zGA, zG0, zGC, zSA, zS0, zSC]
      refine wpAnyH_take (i := 15) (v := ?_) rfl (by kernel_rfl) (by kernel_rfl) (by kernel_rfl) (fun _ _ _ h => h) (Or.inl ⟨by rfl, ?_⟩) (by assumption) ?_
      case refine_2 => (intro w hSw; (try dsimp only at hSw); go_simp; try with_reducible rfl)
      simp only [Act.put, zGA, zG0, zGC, zSA, zS0, zSC]
      refine wpAnyH_take (i := 16) (v := undef) rfl (by kernel_rfl) (by kernel_rfl) (by kernel_rfl) (fun _ _ _ h => h) (Or.inr ⟨by rfl, rfl⟩) (by assumption) ?_
      simp only [Act.put, zGA, zG0, zGC, zSA, zS0, zSC]
      refine wpAnyH_ready (rs := [17]) (by kernel_rfl) (by simp) ?_
      refine AllReadyH.cons rfl (fun K hK => ?_) AllReadyH.nil
      refine cast (if_neg (Bool.eq_false_iff.1 (by rfl))).symm ?_
      refine hK.out _ _ (by assumption) (fun hHeld => ?_)
      clear hK K
      simp only [Act.put, zGA, zG0, zGC, zSA, zS0, zSC]
      refine wpAnyH_take (i := 18) (v := ?_) rfl (by kernel_rfl) (by kernel_rfl) (by kernel_rfl) (fun _ _ _ h => h) (Or.inl ⟨by rfl, ?_⟩) (by assumption) ?_
      case refine_2 => (intro w hSw; (try dsimp only at hSw); go_simp; try with_reducible rfl)
      simp only [Act.put, zGA, zG0, zGC, zSA, zS0, zSC]
      refine wpAnyH_take (i := 19) (v := ?_) rfl (by kernel_rfl) (by kernel_rfl) (by kernel_rfl) (fun _ _ _ h => h) (Or.inl ⟨by rfl, ?_⟩) (by assumption) ?_
      case refine_2 => (intro w hSw; (try dsimp only at hSw); go_simp; try with_reducible rfl)
      simp only [Act.put, zGA, zG0, zGC, zSA, zS0, zSC]
      refine wpAnyH_done (by kernel_rfl) ?_ _
      refine NoPanic.normal ?_
      have hU := hHeld
      go_wp2
      go_ret
      exact ⟨rbool (by rw [HQ.out]), hU.bel⟩

  · have HQ := hidOf (show okC x = false by unfold okC; simp [h1])
    have d1 : decide (1 ≤ x.op) = false := by simpa using h1
    go_enter Tryd.func7, Tryd.ntmps7
    go_wp2_with fail
    refine wp_region_noPanic ?_
    refine wp_region_held_drew (S := fun u => CHeld w x p m c u) (by kernel_rfl) hH.drew (fun hHeld => ?_)
    refine wpAnyH_take (i := 0) (v := ?_) rfl (by kernel_rfl) (by kernel_rfl) (by kernel_rfl) (fun _ _ _ h => h) (Or.inl ⟨by rfl, ?_⟩) (by assumption) ?_
    case refine_2 => (intro w hSw; (try dsimp only at hSw); go_simp; try with_reducible rfl)
    simp only [Act.put, List.getElem_toArray, List.getElem_cons_zero, List.setIfInBounds_toArray, List.set_cons_zero, List.set_cons_succ]
    refine wpAnyH_take (i := 1) (v := ?_) rfl (by kernel_rfl) (by kernel_rfl) (by kernel_rfl) (fun _ _ _ h => h) (Or.inl ⟨by rfl, ?_⟩) (by assumption) ?_
    case refine_2 => (intro w hSw; (try dsimp only at hSw); go_simp; try with_reducible rfl)
    simp only [Act.put, zGA, zG0, zGC, zSA, zS0, zSC]
    refine wpAnyH_take (i := 2) (v := ?_) rfl (by kernel_rfl) (by kernel_rfl) (by kernel_rfl) (fun _ _ _ h => h) (Or.inl ⟨by rfl, ?_⟩) (by assumption) ?_
    case refine_2 => (intro w hSw; (try dsimp only at hSw); go_simp; try with_reducible rfl)
    simp only [Act.put, zGA, zG0, zGC, zSA, zS0, zSC]
    refine wpAnyH_take (i := 3) (v := ?_) rfl (by kernel_rfl) (by kernel_rfl) (by kernel_rfl) (fun _ _ _ h => h) (Or.inl ⟨by rfl, ?_⟩) (by assumption) ?_
    case refine_2 => (intro w hSw; (try dsimp only at hSw); go_simp; try with_reducible rfl)
    simp only [Act.put, zGA, zG0, zGC, zSA, zS0, zSC]
    refine wpAnyH_take (i := 4) (v := undef) rfl (by kernel_rfl) (by kernel_rfl) (by kernel_rfl) (fun _ _ _ h => h) (Or.inr ⟨by rfl, rfl⟩) (by assumption) ?_
    simp only [Act.put, zGA, zG0, zGC, zSA, zS0, zSC]
    refine wpAnyH_take (i := 5) (v := undef) rfl (by kernel_rfl) (by kernel_rfl) (by kernel_rfl) (fun _ _ _ h => h) (Or.inr ⟨by rfl, rfl⟩) (by assumption) ?_
    simp only [Act.put, zGA, zG0, zGC, zSA, zS0, zSC]
    refine wpAnyH_take (i := 6) (v := undef) rfl (by kernel_rfl) (by kernel_rfl) (by kernel_rfl) (fun _ _ _ h => h) (Or.inr ⟨by rfl, rfl⟩) (by assumption) ?_
    simp only [Act.put, zGA, zG0, zGC, zSA, zS0, zSC]
    refine wpAnyH_take (i := 7) (v := ?_) rfl (by kernel_rfl) (by kernel_rfl) (by kernel_rfl) (fun _ _ _ h => h) (Or.inl ⟨by rfl, ?_⟩) (by assumption) ?_
    case refine_2 => (intro w hSw; (try dsimp only at hSw); go_simp; try with_reducible rfl)
    simp only [Act.put, zGA, zG0, zGC, zSA, zS0, zSC]
    refine wpAnyH_take (i := 8) (v := ?_) rfl (by kernel_rfl) (by kernel_rfl) (by kernel_rfl) (fun _ _ _ h => h) (Or.inl ⟨by rfl, ?_⟩) (by assumption) ?_
    case refine_2 => (intro w hSw; (try dsimp only at hSw); go_simp; try with_reducible rfl)
    simp only [Act.put, zGA, zG0, zGC, zSA, zS0, zSC]
    refine wpAnyH_take (i := 9) (v := undef) rfl (by kernel_rfl) (by kernel_rfl) (by kernel_rfl) (fun _ _ _ h => h) (Or.inr ⟨by rfl, rfl⟩) (by assumption) ?_
    simp only [Act.put, zGA, zG0, zGC, zSA, zS0, zSC]
    refine wpAnyH_take (i := 10) (v := undef) rfl (by kernel_rfl) (by kernel_rfl) (by kernel_rfl) (fun _ _ _ h => h) (Or.inr ⟨by rfl, rfl⟩) (by assumption) ?_
    simp only [Act.put, zGA, zG0, zGC, zSA, zS0, zSC]
    refine wpAnyH_take (i := 11) (v := undef) rfl (by kernel_rfl) (by kernel_rfl) (by kernel_rfl) (fun _ _ _ h => h) (Or.inr ⟨by rfl, rfl⟩) (by assumption) ?_
    simp only [Act.put, zGA, zG0, zGC, zSA, zS0, zSC]
    refine wpAnyH_ready (rs := [12]) (by kernel_rfl) (by simp) ?_
    refine AllReadyH.cons rfl (fun K hK => ?_) AllReadyH.nil
    refine cast (if_neg (Bool.eq_false_iff.1 (by rfl))).symm ?_
    refine hK.out _ _ (by assumption) (fun hHeld => ?_)
    clear hK K
    simp only [Act.put, zGA, zG0, zGC, zSA, zS0, zSC]
    refine wpAnyH_ready (rs := [13]) (by kernel_rfl) (by simp) ?_
    refine AllReadyH.cons rfl (fun K hK => ?_) AllReadyH.nil
    refine cast (if_neg (Bool.eq_false_iff.1 (by rfl))).symm ?_
    refine hK.out _ _ (by assumption) (fun hHeld => ?_)
    clear hK K
    simp only [Act.put, zGA, zG0, zGC, zSA, zS0, zSC]
    refine wpAnyH_take (i := 14) (v := ?_) rfl (by kernel_rfl) (by kernel_rfl) (by kernel_rfl) (fun _ _ _ h => h) (Or.inl ⟨by rfl, ?_⟩) (by assumption) ?_
    case refine_2 => (intro w hSw; (try dsimp only at hSw); go_simp; try with_reducible rfl)
    simp only [Act.put, zGA, zG0, zGC, zSA, zS0, zSC]
    refine wpAnyH_take (i := 15) (v := ?_) rfl (by kernel_rfl) (by kernel_rfl) (by kernel_rfl) (fun _ _ _ h => h) (Or.inl ⟨by rfl, ?_⟩) (by assumption) ?_
    case refine_2 => (intro w hSw; (try dsimp only at hSw); go_simp; try with_reducible rfl)
    simp only [Act.put, zGA, zG0, zGC, zSA, zS0, zSC]
    refine wpAnyH_take (i := 16) (v := undef) rfl (by kernel_rfl) (by kernel_rfl) (by kernel_rfl) (fun _ _ _ h => h) (Or.inr ⟨by rfl, rfl⟩) (by assumption) ?_
    simp only [Act.put, zGA, zG0, zGC, zSA, zS0, zSC]
    refine wpAnyH_ready (rs := [17]) (by kernel_rfl) (by simp) ?_
    refine AllReadyH.cons rfl (fun K hK => ?_) AllReadyH.nil
    refine cast (if_neg (Bool.eq_false_iff.1 (by rfl))).symm ?_
    refine hK.out _ _ (by assumption) (fun hHeld => ?_)
    clear hK K
    simp only [Act.put, zGA, zG0, zGC, zSA, zS0, zSC]
    refine wpAnyH_take (i := 18) (v := ?_) rfl (by kernel_rfl) (by kernel_rfl) (by kernel_rfl) (fun _ _ _ h => h) (Or.inl ⟨by rfl, ?_⟩) (by assumption) ?_
    case refine_2 => (intro w hSw; (try dsimp only at hSw); go_simp; try with_reducible rfl)
    simp only [Act.put, zGA, zG0, zGC, zSA, zS0, zSC]
    refine wpAnyH_take (i := 19) (v := ?_) rfl (by kernel_rfl) (by kernel_rfl) (by kernel_rfl) (fun _ _ _ h => h) (Or.inl ⟨by rfl, ?_⟩) (by assumption) ?_
    case refine_2 => (intro w hSw; (try dsimp only at hSw); go_simp; try with_reducible rfl)
    simp only [Act.put, zGA, zG0, zGC, zSA, zS0, zSC]
    refine wpAnyH_done (by kernel_rfl) ?_ _
    refine NoPanic.normal ?_
    have hU := hHeld
    go_wp2
    go_ret
    exact ⟨rbool (by rw [HQ.out]), hU.bel⟩

end Go.Proofs.YthbelehhhjngfaaDoor
