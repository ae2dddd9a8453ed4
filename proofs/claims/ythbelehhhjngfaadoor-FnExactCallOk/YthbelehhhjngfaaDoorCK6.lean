/-
  Walk of the law on CallOk.
-/
import Derived.Test.YthbelehhhjngfaaDoorCK5
import Derived.Test.YthbelehhhjngfaaDoorCK4
import Derived.Test.YthbelehhhjngfaaDoorCK2b
import Derived.Deep.RegionHeld3
namespace Go.Proofs.YthbelehhhjngfaaDoor
open Go.RowKit Pl Il Tn

/-- What the law holds on to: its argument's variable, the copy's. -/
structure LCk (w : World) (x : Cl) (p : Option Addr) (m c : Nat) (u : World) : Prop where
  A : BoxL w.heap.size (clC x p m c) u
  B : Below w.heap.size w u
theorem LCk.keep {w : World} {x : Cl} {p : Option Addr} {m c : Nat} {u u' : World} (h : LCk w x p m c u) (hb : Below u.heap.size u u') : LCk w x p m c u' := ⟨h.A.keep hb, bl_trans h.B hb⟩
abbrev LHeld (w : World) (x : Cl) (p : Option Addr) (m c NX : Nat) (q : Option Addr) (u : World) : Prop := u.cell? ⟨w.heap.size, 0, none⟩ = some (.int .i64 x.op) ∧ u.cell? ⟨w.heap.size, 1, none⟩ = some (.int .i64 x.a) ∧ u.cell? ⟨w.heap.size, 2, none⟩ = some (.int .i64 x.b) ∧ u.cell? ⟨w.heap.size, 3, none⟩ = some (.int .i64 x.tk) ∧ u.cell? ⟨w.heap.size, 4, none⟩ = some (.string x.nm) ∧ u.cell? ⟨w.heap.size, 5, none⟩ = some (.int .i64 x.kd) ∧ u.cell? ⟨w.heap.size, 6, none⟩ = some (.int .i64 x.nu) ∧ u.cell? ⟨w.heap.size, 7, none⟩ = some (.string x.tx) ∧ u.cell? ⟨w.heap.size, 8, none⟩ = some (.slice p m c) ∧ u.cell? ⟨NX, 0, none⟩ = some (.int .i64 x.op) ∧ u.cell? ⟨NX, 1, none⟩ = some (.int .i64 x.a) ∧ u.cell? ⟨NX, 2, none⟩ = some (.int .i64 x.b) ∧ u.cell? ⟨NX, 3, none⟩ = some (.int .i64 x.tk) ∧ u.cell? ⟨NX, 4, none⟩ = some (.string x.nm) ∧ u.cell? ⟨NX, 5, none⟩ = some (.int .i64 x.kd) ∧ u.cell? ⟨NX, 6, none⟩ = some (.int .i64 x.nu) ∧ u.cell? ⟨NX, 7, none⟩ = some (.string x.tx) ∧ u.cell? ⟨NX, 8, none⟩ = some (.slice q m m) ∧ BoxL w.heap.size (clC x p m c) u ∧ BoxL NX (clC x q m m) u ∧ CIn u x q m ∧ Below w.heap.size w u
section
variable {w : World} {x : Cl} {p : Option Addr} {m c NX : Nat} {q : Option Addr} {u u' : World}
theorem LHeld.mk' (hA : BoxL w.heap.size (clC x p m c) u) (hX : BoxL NX (clC x q m m) u) (hI : CIn u x q m) (hb : Below w.heap.size w u) : LHeld w x p m c NX q u := by
  obtain ⟨p0, p1, p2, p3, p4, p5, p6, p7, p8⟩ := hA.c9
  obtain ⟨q0, q1, q2, q3, q4, q5, q6, q7, q8⟩ := hX.c9
  exact ⟨p0, p1, p2, p3, p4, p5, p6, p7, p8, q0, q1, q2, q3, q4, q5, q6, q7, q8, hA, hX, hI, hb⟩
theorem LHeld.pts (h : LHeld w x p m c NX q u) : BoxL w.heap.size (clC x p m c) u ∧ BoxL NX (clC x q m m) u ∧ CIn u x q m ∧ Below w.heap.size w u := h.2.2.2.2.2.2.2.2.2.2.2.2.2.2.2.2.2.2
theorem LHeld.keep (h : LHeld w x p m c NX q u) (hb : Below u.heap.size u u') : LHeld w x p m c NX q u' := LHeld.mk' (h.pts.1.keep hb) (h.pts.2.1.keep hb) (h.pts.2.2.1.keep hb) (bl_trans h.pts.2.2.2 hb)
theorem LHeld.drew (h : LHeld w x p m c NX q u) : LHeld w x p m c NX q u.drew := h.keep (Below.refl _ _).drew
end
set_option maxRecDepth 100000 in
set_option maxHeartbeats 8000000 in
theorem exactCallOk_any (x : Cl) (p : Option Addr) (m c : Nat) (w : World) (hI : CIn w x p m) (hn : m ≤ 9223372036854775807) (hg : GOkT w) :
    Calls Tryd.prog 3 #[.agg #[.int .i64 x.op, .int .i64 x.a, .int .i64 x.b, .int .i64 x.tk, .string x.nm, .int .i64 x.kd, .int .i64 x.nu, .string x.tx, .slice p m c]] w fun e w' => e = .returned (.bool true) ∧ Below w.heap.size w w' := by
  obtain ⟨U0, hU0⟩ : ∃ W, W = w.alloc (.cells #[.int .i64 x.op, .int .i64 x.a, .int .i64 x.b, .int .i64 x.tk, .string x.nm, .int .i64 x.kd, .int .i64 x.nu, .string x.tx, .slice p m c] 26) := ⟨_, rfl⟩
  have L1 : LCk w x p m c U0 := by rw [hU0]; exact ⟨BoxL.new w (clC x p m c) _, bl_alloc (Below.refl _ _) _⟩
  have HI := hidOf hI
  have HG := hidOf hg
  have HS := hidOf (szCall_any x p m c U0 (hI.keep L1.B) hn)
  clear hI hg
  obtain ⟨p0, p1, p2, p3, p4, p5, p6, p7, p8⟩ := L1.A.c9
  go_enter Tryd.func3, Tryd.ntmps3
  go_upto_region 1 with fail
  rw [← hU0]
  clear hU0
  go_wp2_with fail
  refine (HS.out).mono ?_
  rintro e w1 ⟨⟨k, rfl, hk⟩, b1⟩
  clear p0 p1 p2 p3 p4 p5 p6 p7 p8 HS
  rcases hk with hk | ⟨hk, _, hm⟩
  · have BB := (L1.keep b1).B
    clear L1 b1
    go_wp2_with fail
    go_ret
    exact ⟨rfl, BB⟩
  have hk' : ¬ k < 0 := by omega
  have HM := hidOf (show m ≤ 2097152 by omega)
  have L2 := L1.keep b1
  clear L1 b1 hk hm
  have L1 := L2
  clear L2
  obtain ⟨p0, p1, p2, p3, p4, p5, p6, p7, p8⟩ := L1.A.c9
  go_wp2_with fail
  refine (toCall_any x p m c w1 (HI.out.keep L1.B) HM.out).mono ?_
  rintro e w2 ⟨g2, rfl, i2, b2⟩
  have L2 := L1.keep b2
  clear L1 b2 p0 p1 p2 p3 p4 p5 p6 p7 p8 hk'
  have L1 := L2
  clear L2
  have HC := hidOf (specCall_any x (some ⟨g2, 0, none⟩) m m w2 i2 HM.out)
  obtain ⟨o, ho⟩ : ∃ q, okC x = q := ⟨_, rfl⟩
  rw [ho] at HC
  have HO := hidOf ho
  clear ho
  go_wp2_with fail
  refine (HC.out).mono ?_
  rintro e w3 ⟨rfl, b3⟩
  have L2 := L1.keep b3
  clear L1 b3 i2 HC
  have L1 := L2
  clear L2
  obtain ⟨p0, p1, p2, p3, p4, p5, p6, p7, p8⟩ := L1.A.c9
  go_wp2_with fail
  refine (toCall_any x p m c w3 (HI.out.keep L1.B) HM.out).mono ?_
  rintro e w4 ⟨g3, rfl, i4, b4⟩
  have L2 := L1.keep b4
  clear L1 b4 p0 p1 p2 p3 p4 p5 p6 p7 p8
  obtain ⟨W5, hW5⟩ : ∃ W, W = w4.alloc (.cells #[.int .i64 x.op, .int .i64 x.a, .int .i64 x.b, .int .i64 x.tk, .string x.nm, .int .i64 x.kd, .int .i64 x.nu, .string x.tx, .slice (some ⟨g3, 0, none⟩) m m] 32) := ⟨_, rfl⟩
  have b5 : Below w4.heap.size w4 W5 := by rw [hW5]; exact bl_alloc (Below.refl _ _) _
  have L1 := L2.keep b5
  have X5 : BoxL w4.heap.size (clC x (some ⟨g3, 0, none⟩) m m) W5 := by rw [hW5]; exact BoxL.new w4 (clC x (some ⟨g3, 0, none⟩) m m) _
  have i5 := i4.keep b5
  clear b5 L2 i4
  have HD := hidOf (implCall_any x (some ⟨g3, 0, none⟩) m m W5 i5 HM.out (HG.out.keep L1.B))
  rw [HO.out] at HD
  go_upto_region 7 with fail
  rw [← hW5]
  clear hW5
  generalize w4.heap.size = NX at X5 ⊢
  obtain ⟨r0, r1, r2, r3, r4, r5, r6, r7, r8⟩ := X5.c9
  go_wp2_with fail
  refine (HD.out).mono ?_
  rintro e w6 ⟨rfl, b6⟩
  have hH : LHeld w x p m c NX (some ⟨g3, 0, none⟩) w6 := LHeld.mk' (L1.keep b6).A (X5.keep b6) (i5.keep b6) (L1.keep b6).B
  clear L1 X5 i5 b6 HD r0 r1 r2 r3 r4 r5 r6 r7 r8
  have HT := hidOf (fun (u : World) (hu : LHeld w x p m c NX (some ⟨g3, 0, none⟩) u) => toCall_any x p m c u (HI.out.keep hu.pts.2.2.2) HM.out)
  generalize o = l
  go_wp2_with fail
  go_region_held3 (fun u => LHeld w x p m c NX (some ⟨g3, 0, none⟩) u) (first | (exact hH.drew) | (exact LHeld.keep (by assumption) (by assumption)))
    (first
      | (go_at_call 6; refine (HT.out _ (by assumption)).mono ?_; rintro e w7 ⟨g7, rfl, i7, b7⟩)
      | (go_at_call 8; refine (eqCall_same x (some ⟨g3, 0, none⟩) (some ⟨g7, 0, none⟩) m m m _ (LHeld.pts (by assumption)).2.2.1 i7 HM.out).mono ?_; rintro e w8 ⟨rfl, b8⟩))
  rename_i hT
  have hB := hT.pts.2.2.2
  clear hH hT
  go_wp2
  go_ret
  exact ⟨rfl, hB⟩
end Go.Proofs.YthbelehhhjngfaaDoor
