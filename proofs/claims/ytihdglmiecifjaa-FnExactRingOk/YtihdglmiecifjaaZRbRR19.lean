/-
  Walk of the law on RingOk, out of the contracts of the specification's and the program's.
  The specification's rings: what the walk of RingOk holds on to.
  Walks of the specification's lines: who joins, who leaves, who is woken.
  Walks of the specification's lines: who is woken.
  The plain mathematics of a queue whose places stand in a map (no program in it).
  Rings: plain mathematics. What a right ring is, as the specification and as the program ask for it: the same.
  Walks of the functions that tell a right message.
-/
import Derived.Test.YtihdglmiecifjaaZRbRR17
import Derived.Test.YtihdglmiecifjaaZRbRR18
import Derived.Deep.RegionHeld3
import Derived.Test.YtihdglmiecifjaaZRbRR16
import Derived.Test.YtihdglmiecifjaaZRbRR15
import Derived.Maps.OwnSet
import Derived.Test.YtihdglmiecifjaaRows
import Derived.Test.YtihdglmiecifjaaZRbRR10
import Derived.WalkKit
import Derived.WalkSpells
import Derived.WalkLawsBesides
import Derived.RowKit3
import Derived.Deep.RegionWith
namespace Go.Proofs.Ytihdglmiecifjaa
open Go.RowKit Pl Il

/-- What is asked of the specification's, and of the program's. -/
def SpecRingOk (f : Rv → Bool) : Prop := ∀ (M : Rm) (v : Rv) (w : World), RIn w M v → RLe M 1048576 → RCap M → RWf v →
  Calls Try.prog 7 #[.agg #[.int .i64 v.cp, .int .i64 v.se, .slice M.ia M.i M.ic, .int .i64 v.nx, .slice M.sa M.s M.sc, .slice M.la M.l M.lc, .slice M.ga M.g M.gc, .bool v.cl]] w fun e w' => e = .returned (.bool (f v)) ∧ Below w.heap.size w w'
def ImplRingOk (f : Rv → Bool) : Prop := ∀ (M : Rm) (v : Rv) (w : World), RIn w M v → RLe M 1048576 → RCap M → RWf v →
  Calls Try.prog 9 #[.agg #[.int .i64 v.cp, .int .i64 v.se, .slice M.ia M.i M.ic, .int .i64 v.nx, .slice M.sa M.s M.sc, .slice M.la M.l M.lc, .slice M.ga M.g M.gc, .bool v.cl]] w fun e w' => e = .returned (.bool (f v)) ∧ Below w.heap.size w w'
/-- What the law holds on to: the argument's variable and its own copy's. -/
structure LawR (w : World) (N : Nat) (M M' : Rm) (v : Rv) (u : World) : Prop where
  arg : BoxL w.heap.size (rC M v) u
  own : BoxL N (rC M' v) u
  cop : RIn u M' v
  below : Below w.heap.size w u
theorem LawR.keep {w : World} {N : Nat} {M M' : Rm} {v : Rv} {u u' : World} (h : LawR w N M M' v u) (hb : Below u.heap.size u u') : LawR w N M M' v u' := ⟨h.arg.keep hb, h.own.keep hb, h.cop.keep hb, bl_trans h.below hb⟩
abbrev LawRS (w : World) (N : Nat) (M M' : Rm) (v : Rv) (u : World) : Prop :=
  u.cell? ⟨w.heap.size, 0, none⟩ = some (.int .i64 v.cp) ∧ u.cell? ⟨w.heap.size, 1, none⟩ = some (.int .i64 v.se) ∧ u.cell? ⟨w.heap.size, 2, none⟩ = some (.slice M.ia M.i M.ic) ∧ u.cell? ⟨w.heap.size, 3, none⟩ = some (.int .i64 v.nx) ∧ u.cell? ⟨w.heap.size, 4, none⟩ = some (.slice M.sa M.s M.sc) ∧ u.cell? ⟨w.heap.size, 5, none⟩ = some (.slice M.la M.l M.lc) ∧ u.cell? ⟨w.heap.size, 6, none⟩ = some (.slice M.ga M.g M.gc) ∧ u.cell? ⟨w.heap.size, 7, none⟩ = some (.bool v.cl) ∧ u.cell? ⟨N, 0, none⟩ = some (.int .i64 v.cp) ∧ u.cell? ⟨N, 1, none⟩ = some (.int .i64 v.se) ∧ u.cell? ⟨N, 2, none⟩ = some (.slice M'.ia M'.i M'.ic) ∧ u.cell? ⟨N, 3, none⟩ = some (.int .i64 v.nx) ∧ u.cell? ⟨N, 4, none⟩ = some (.slice M'.sa M'.s M'.sc) ∧ u.cell? ⟨N, 5, none⟩ = some (.slice M'.la M'.l M'.lc) ∧ u.cell? ⟨N, 6, none⟩ = some (.slice M'.ga M'.g M'.gc) ∧ u.cell? ⟨N, 7, none⟩ = some (.bool v.cl) ∧ LawR w N M M' v u
theorem LawR.s {w : World} {N : Nat} {M M' : Rm} {v : Rv} {u : World} (h : LawR w N M M' v u) : LawRS w N M M' v u :=
  ⟨h.arg.cs 0 (by simp), h.arg.cs 1 (by simp), h.arg.cs 2 (by simp), h.arg.cs 3 (by simp), h.arg.cs 4 (by simp), h.arg.cs 5 (by simp), h.arg.cs 6 (by simp), h.arg.cs 7 (by simp), h.own.cs 0 (by simp), h.own.cs 1 (by simp), h.own.cs 2 (by simp), h.own.cs 3 (by simp), h.own.cs 4 (by simp), h.own.cs 5 (by simp), h.own.cs 6 (by simp), h.own.cs 7 (by simp), h⟩
theorem LawRS.law {w : World} {N : Nat} {M M' : Rm} {v : Rv} {u : World} (h : LawRS w N M M' v u) : LawR w N M M' v u := h.2.2.2.2.2.2.2.2.2.2.2.2.2.2.2.2
theorem LawRS.keep {w : World} {N : Nat} {M M' : Rm} {v : Rv} {u u' : World} (h : LawRS w N M M' v u) (hb : Below u.heap.size u u') : LawRS w N M M' v u' := (h.law.keep hb).s
theorem LawRS.drew {w : World} {N : Nat} {M M' : Rm} {v : Rv} {u : World} (h : LawRS w N M M' v u) : LawRS w N M M' v u.drew := h.keep (Below.refl _ _).drew
set_option maxRecDepth 100000 in
set_option maxHeartbeats 4000000 in
theorem exactRingOk_of (f : Rv → Bool) (hSp : SpecRingOk f) (hIm : ImplRingOk f) (M : Rm) (v : Rv) (w : World) (hI : RIn w M v) (hm : RLe M 9223372036854775807) (hw : RWf v) :
    Calls Try.prog 3 #[.agg #[.int .i64 v.cp, .int .i64 v.se, .slice M.ia M.i M.ic, .int .i64 v.nx, .slice M.sa M.s M.sc, .slice M.la M.l M.lc, .slice M.ga M.g M.gc, .bool v.cl]] w fun e w' => e = .returned (.bool true) ∧ Below w.heap.size w w' := by
  obtain ⟨W0, hW0⟩ : ∃ W, W = w.alloc (.cells #[.int .i64 v.cp, .int .i64 v.se, .slice M.ia M.i M.ic, .int .i64 v.nx, .slice M.sa M.s M.sc, .slice M.la M.l M.lc, .slice M.ga M.g M.gc, .bool v.cl] 26) := ⟨_, rfl⟩
  have b0 : Below w.heap.size w W0 := by rw [hW0]; exact bl_alloc (Below.refl _ _) _
  have X0 : BoxL w.heap.size (rC M v) W0 := by rw [hW0]; exact BoxL.new w (rC M v) _
  have HI := hidOf hI
  have HM := hidOf hm
  have HW := hidOf hw
  clear hI hm hw
  go_enter Try.func3, Try.ntmps3
  go_wp2_with fail
  rw [← hW0]
  clear hW0
  refine (szRing_any M v _ _ (HI.out.keep b0) HM.out (by omega) (by omega)).mono ?_
  rintro e w1 ⟨⟨k, rfl, hk⟩, hb1⟩
  have x1 := X0.keep hb1
  have B1 := bl_trans b0 hb1
  clear X0 hb1 b0
  rcases hk with hk | ⟨k0, k1, hle⟩
  · go_wp2
    go_ret
    exact ⟨rfl, B1⟩
  have hk' : ¬ k < 0 := by omega
  have HL := hidOf (hle.mono (k' := 2097152) (by omega))
  have HL1 := hidOf hle
  clear hle HM k1
  have p0 := x1.cs 0 (by simp)
  have p1 := x1.cs 1 (by simp)
  have p2 := x1.cs 2 (by simp)
  have p3 := x1.cs 3 (by simp)
  have p4 := x1.cs 4 (by simp)
  have p5 := x1.cs 5 (by simp)
  have p6 := x1.cs 6 (by simp)
  have p7 := x1.cs 7 (by simp)
  simp at p0 p1 p2 p3 p4 p5 p6 p7
  go_wp2_with fail
  refine (toRing_any M v _ (HI.out.keep B1) HL.out).mono ?_
  rintro e w2 ⟨M2, rfl, hO2, hL2, hC2, hb2⟩
  have x2 := x1.keep hb2
  have B2 := bl_trans B1 hb2
  clear p0 p1 p2 p3 p4 p5 p6 p7 x1 hb2 B1
  go_wp2_with fail
  refine (hSp M2 v _ hO2.rin (hL2 _ HL1.out) hC2 HW.out).mono ?_
  rintro e w3 ⟨rfl, hb3⟩
  have x3 := x2.keep hb3
  have B3 := bl_trans B2 hb3
  clear x2 hb3 B2 hO2 hL2 hC2
  have p0 := x3.cs 0 (by simp)
  have p1 := x3.cs 1 (by simp)
  have p2 := x3.cs 2 (by simp)
  have p3 := x3.cs 3 (by simp)
  have p4 := x3.cs 4 (by simp)
  have p5 := x3.cs 5 (by simp)
  have p6 := x3.cs 6 (by simp)
  have p7 := x3.cs 7 (by simp)
  simp at p0 p1 p2 p3 p4 p5 p6 p7
  go_wp2_with fail
  refine (toRing_any M v _ (HI.out.keep B3) HL.out).mono ?_
  rintro e w4 ⟨M4, rfl, hO4, hL4, hC4, hb4⟩
  have x4 := x3.keep hb4
  have B4 := bl_trans B3 hb4
  clear p0 p1 p2 p3 p4 p5 p6 p7 x3 hb4 B3
  obtain ⟨W4, hW4⟩ : ∃ W, W = w4.alloc (.cells #[.int .i64 v.cp, .int .i64 v.se, .slice M4.ia M4.i M4.ic, .int .i64 v.nx, .slice M4.sa M4.s M4.sc, .slice M4.la M4.l M4.lc, .slice M4.ga M4.g M4.gc, .bool v.cl] 32) := ⟨_, rfl⟩
  have b4 : Below w4.heap.size w4 W4 := by rw [hW4]; exact bl_alloc (Below.refl _ _) _
  have hLaw : LawR w w4.heap.size M M4 v W4 := ⟨x4.keep b4, by rw [hW4]; exact BoxL.new w4 (rC M4 v) _, hO4.rin.keep b4, bl_trans B4 b4⟩
  have HLe4 := hidOf (hL4 _ HL.out)
  have HLe41 := hidOf (hL4 _ HL1.out)
  have HC4 := hidOf hC4
  have HLaw := hidOf hLaw
  clear x4 B4 b4 hO4 hL4 hC4 hLaw
  go_wp2_with fail
  rw [← hW4]
  clear hW4
  refine (hIm M4 v _ HLaw.out.cop HLe41.out HC4.out HW.out).mono ?_
  rintro e w5 ⟨rfl, hb5⟩
  have hS := (HLaw.out.keep hb5).s
  clear HLaw hb5
  generalize f v = l
  go_wp2_with fail
  go_region_held3 (fun w' => LawRS w w4.heap.size M M4 v w') (first | (exact hS.drew) | (exact LawRS.keep (by assumption) (by assumption)))
    (first
      | (go_at_call 8; refine (toRing_any M v _ (HI.out.keep (LawRS.law (by assumption)).below) HL.out).mono ?_; rintro e w6 ⟨M6, rfl, hO6, hL6, hC6, hb6⟩)
      | (go_at_call 10; refine (eqRing_same M4 M6 v _ (LawRS.law (by assumption)).cop hO6.rin HLe4.out (hL6 _ HL.out)).mono ?_; rintro e w7 ⟨rfl, hb7⟩))
  rename_i hT
  have hB := (LawRS.law hT).below
  clear hS hT
  go_wp2
  go_ret
  exact ⟨rfl, hB⟩
end Go.Proofs.Ytihdglmiecifjaa
namespace Go.Proofs.Ytihdglmiecifjaa
open Go.RowKit Pl Il

/-- The argument's variable, and what it reads as. -/
structure RHold (w : World) (M : Rm) (v : Rv) (u : World) : Prop where
  box : BoxL w.heap.size (rC M v) u
  rin : RIn u M v
  below : Below w.heap.size w u
theorem RHold.keep {w : World} {M : Rm} {v : Rv} {u u' : World} (h : RHold w M v u) (hb : Below u.heap.size u u') : RHold w M v u' := ⟨h.box.keep hb, h.rin.keep hb, bl_trans h.below hb⟩
/-- The ring's cells, one subscriber's, and the number of one ahead of it. -/
abbrev RSub (w : World) (M : Rm) (v : Rv) (sa : Option Addr) (b o q : Nat) (x y : Sa) (u : World) : Prop :=
  u.cell? ⟨w.heap.size, 0, none⟩ = some (.int .i64 v.cp) ∧ u.cell? ⟨w.heap.size, 1, none⟩ = some (.int .i64 v.se) ∧ u.cell? ⟨w.heap.size, 2, none⟩ = some (.slice M.ia M.i M.ic) ∧ u.cell? ⟨w.heap.size, 3, none⟩ = some (.int .i64 v.nx) ∧ u.cell? ⟨w.heap.size, 4, none⟩ = some (.slice sa M.s M.sc) ∧ u.cell? ⟨w.heap.size, 5, none⟩ = some (.slice M.la M.l M.lc) ∧ u.cell? ⟨w.heap.size, 6, none⟩ = some (.slice M.ga M.g M.gc) ∧ u.cell? ⟨w.heap.size, 7, none⟩ = some (.bool v.cl) ∧ u.cell? ⟨b, o, none⟩ = some (.int .i64 x.s.id) ∧ u.cell? ⟨b, o + 1, none⟩ = some (.int .i64 x.s.st) ∧ u.cell? ⟨b, o + 2, none⟩ = some (.int .i64 x.s.cu) ∧ u.cell? ⟨b, o + 3, none⟩ = some (.int .i64 x.s.gt) ∧ u.cell? ⟨b, o + 4, none⟩ = some (.int .i64 x.s.lo) ∧ u.cell? ⟨b, o + 5, none⟩ = some (.int .i64 x.s.pa) ∧ u.cell? ⟨b, o + 6, none⟩ = some (.slice x.a x.n x.c) ∧ u.cell? ⟨b, q, none⟩ = some (.int .i64 y.s.id) ∧ RHold w M v u
theorem RSub.hold {w : World} {M : Rm} {v : Rv} {sa : Option Addr} {b o q : Nat} {x y : Sa} {u : World} (h : RSub w M v sa b o q x y u) : RHold w M v u := h.2.2.2.2.2.2.2.2.2.2.2.2.2.2.2.2
theorem RSub.keep {w : World} {M : Rm} {v : Rv} {sa : Option Addr} {b o q : Nat} {x y : Sa} {u u' : World} (h : RSub w M v sa b o q x y u) (hb : Below u.heap.size u u') : RSub w M v sa b o q x y u' := by
  obtain ⟨h0, h1, h2, h3, h4, h5, h6, h7, h8, h9, h10, h11, h12, h13, h14, h15, hh⟩ := h
  exact ⟨cellK h0 hb, cellK h1 hb, cellK h2 hb, cellK h3 hb, cellK h4 hb, cellK h5 hb, cellK h6 hb, cellK h7 hb, cellK h8 hb, cellK h9 hb, cellK h10 hb, cellK h11 hb, cellK h12 hb, cellK h13 hb, cellK h14 hb, cellK h15 hb, hh.keep hb⟩
theorem RSub.drew {w : World} {M : Rm} {v : Rv} {sa : Option Addr} {b o q : Nat} {x y : Sa} {u : World} (h : RSub w M v sa b o q x y u) : RSub w M v sa b o q x y u.drew := h.keep (Below.refl _ _).drew
theorem RHold.sub {w : World} {M : Rm} {v : Rv} {sa : Option Addr} {b o q : Nat} {x y : Sa} {u : World} (h : RHold w M v u) (ea : M.sa = sa) (hx : SCell u b o x) (hy : u.cell? ⟨b, q, none⟩ = some (.int .i64 y.s.id)) : RSub w M v sa b o q x y u :=
  ⟨h.box.cs 0 (by simp), h.box.cs 1 (by simp), h.box.cs 2 (by simp), h.box.cs 3 (by simp), by rw [← ea]; exact h.box.cs 4 (by simp), h.box.cs 5 (by simp), h.box.cs 6 (by simp), h.box.cs 7 (by simp), hx.c0, hx.c1, hx.c2, hx.c3, hx.c4, hx.c5, hx.c6, hy, h⟩
/-- The ring's cells alone. -/
abbrev RCel (w : World) (M : Rm) (v : Rv) (u : World) : Prop := u.cell? ⟨w.heap.size, 0, none⟩ = some (.int .i64 v.cp) ∧ u.cell? ⟨w.heap.size, 1, none⟩ = some (.int .i64 v.se) ∧ u.cell? ⟨w.heap.size, 2, none⟩ = some (.slice M.ia M.i M.ic) ∧ u.cell? ⟨w.heap.size, 3, none⟩ = some (.int .i64 v.nx) ∧ u.cell? ⟨w.heap.size, 4, none⟩ = some (.slice M.sa M.s M.sc) ∧ u.cell? ⟨w.heap.size, 5, none⟩ = some (.slice M.la M.l M.lc) ∧ u.cell? ⟨w.heap.size, 6, none⟩ = some (.slice M.ga M.g M.gc) ∧ u.cell? ⟨w.heap.size, 7, none⟩ = some (.bool v.cl) ∧ RHold w M v u
theorem RCel.hold {w : World} {M : Rm} {v : Rv} {u : World} (h : RCel w M v u) : RHold w M v u := h.2.2.2.2.2.2.2.2
theorem RHold.cel {w : World} {M : Rm} {v : Rv} {u : World} (h : RHold w M v u) : RCel w M v u := ⟨h.box.cs 0 (by simp), h.box.cs 1 (by simp), h.box.cs 2 (by simp), h.box.cs 3 (by simp), h.box.cs 4 (by simp), h.box.cs 5 (by simp), h.box.cs 6 (by simp), h.box.cs 7 (by simp), h⟩
theorem RCel.keep {w : World} {M : Rm} {v : Rv} {u u' : World} (h : RCel w M v u) (hb : Below u.heap.size u u') : RCel w M v u' := (h.hold.keep hb).cel
theorem RCel.drew {w : World} {M : Rm} {v : Rv} {u : World} (h : RCel w M v u) : RCel w M v u.drew := h.keep (Below.refl _ _).drew
/-- The ring's cells, its flag a written one. -/
abbrev RCelC (w : World) (M : Rm) (v : Rv) (c : Bool) (u : World) : Prop := u.cell? ⟨w.heap.size, 0, none⟩ = some (.int .i64 v.cp) ∧ u.cell? ⟨w.heap.size, 1, none⟩ = some (.int .i64 v.se) ∧ u.cell? ⟨w.heap.size, 2, none⟩ = some (.slice M.ia M.i M.ic) ∧ u.cell? ⟨w.heap.size, 3, none⟩ = some (.int .i64 v.nx) ∧ u.cell? ⟨w.heap.size, 4, none⟩ = some (.slice M.sa M.s M.sc) ∧ u.cell? ⟨w.heap.size, 5, none⟩ = some (.slice M.la M.l M.lc) ∧ u.cell? ⟨w.heap.size, 6, none⟩ = some (.slice M.ga M.g M.gc) ∧ u.cell? ⟨w.heap.size, 7, none⟩ = some (.bool c) ∧ RHold w M v u ∧ Hid (v.cl = c)
theorem RCelC.hold {w : World} {M : Rm} {v : Rv} {c : Bool} {u : World} (h : RCelC w M v c u) : RHold w M v u := h.2.2.2.2.2.2.2.2.1
theorem RCel.flag {w : World} {M : Rm} {v : Rv} {c : Bool} {u : World} (h : RCel w M v u) (hc : v.cl = c) : RCelC w M v c u := by
  subst hc
  obtain ⟨h0, h1, h2, h3, h4, h5, h6, h7, hh⟩ := h
  exact ⟨h0, h1, h2, h3, h4, h5, h6, h7, hh, rfl⟩
theorem RCelC.keep {w : World} {M : Rm} {v : Rv} {c : Bool} {u u' : World} (h : RCelC w M v c u) (hb : Below u.heap.size u u') : RCelC w M v c u' := (h.hold.keep hb).cel.flag (h.2.2.2.2.2.2.2.2.2).out
theorem RCelC.drew {w : World} {M : Rm} {v : Rv} {c : Bool} {u : World} (h : RCelC w M v c u) : RCelC w M v c u.drew := h.keep (Below.refl _ _).drew
/-- As many messages as from the oldest on; not too many who wait, and none where it is closed. -/
def lenR (v : Rv) : Bool := decide ((v.it.length : Int) = v.se - oldR v) && (decide (v.ln.length + v.gs.length ≤ 12) && !(v.cl && decide (0 < v.ln.length)))
/-- The head: numbers in their bounds, not too many. -/
def headR (v : Rv) : Bool := decide (1 ≤ v.cp ∧ v.cp ≤ 16) && decide (0 ≤ v.se ∧ v.se ≤ 1000000000) && decide (0 ≤ v.nx ∧ v.nx ≤ 1000000000) && decide (v.sb.length ≤ 12) && decide (v.it.length ≤ 16)
/-- The first k subscribers are right, by rising numbers. -/
def subsTo (v : Rv) (k : Nat) : Bool := (List.range k).all fun i => subR v (v.sb.getD i ⟨0, 0, 0, 0, 0, 0, []⟩) && (decide (i = 0) || decide ((v.sb.getD (i - 1) ⟨0, 0, 0, 0, 0, 0, []⟩).id < (v.sb.getD i ⟨0, 0, 0, 0, 0, 0, []⟩).id))
theorem subsTo_succ (v : Rv) (k : Nat) : subsTo v (k + 1) = (subsTo v k && (subR v (v.sb.getD k ⟨0, 0, 0, 0, 0, 0, []⟩) && (decide (k = 0) || decide ((v.sb.getD (k - 1) ⟨0, 0, 0, 0, 0, 0, []⟩).id < (v.sb.getD k ⟨0, 0, 0, 0, 0, 0, []⟩).id)))) := by
  unfold subsTo
  rw [List.range_succ, List.all_append]
  simp
theorem subsTo_bad {v : Rv} {k n : Nat} (h : subsTo v k = false) (hk : k ≤ n) : subsTo v n = false := by
  unfold subsTo at *
  rw [List.all_eq_false] at *
  obtain ⟨i, hi, hb⟩ := h
  exact ⟨i, by simp at hi ⊢; omega, hb⟩
theorem sb_get {M : Rm} {v : Rv} (h : svs M.xs = v.sb) {k : Nat} (hk : k < M.xs.length) : v.sb.getD k ⟨0, 0, 0, 0, 0, 0, []⟩ = (sg M.xs k).s := by
  rw [← h, List.getD_eq_getElem?_getD, List.getElem?_eq_getElem (by simpa [svs] using hk), Option.getD_some, sg_svs hk]
end Go.Proofs.Ytihdglmiecifjaa
namespace Go.Proofs.Ytihdglmiecifjaa
open Go.RowKit Pl Il

/-- What Join answers: the line, and the code. -/
def joinL (xs : List Int) (x : Int) : List Int × Int :=
  if !lineL xs || !clientL x then (xs, 1) else if hasL xs x then (xs, 5) else if 32 ≤ xs.length then (xs, 2) else (xs ++ [x], 0)
/-- What Leave answers: the line, and the code. -/
def leaveL (xs : List Int) (x : Int) : List Int × Int :=
  if !lineL xs then (xs, 1) else if !hasL xs x then (xs, 3) else (lessL xs x, 0)
theorem join_bad {xs : List Int} {x : Int} (h : lineL xs = false ∨ clientL x = false) : joinL xs x = (xs, 1) := by rcases h with h | h <;> simp [joinL, h]
theorem join_there {xs : List Int} {x : Int} (h1 : lineL xs = true) (h2 : clientL x = true) (h3 : hasL xs x = true) : joinL xs x = (xs, 5) := by simp [joinL, h1, h2, h3]
theorem join_full {xs : List Int} {x : Int} (h1 : lineL xs = true) (h2 : clientL x = true) (h3 : hasL xs x = false) (h4 : 32 ≤ xs.length) : joinL xs x = (xs, 2) := by simp [joinL, h1, h2, h3, h4]
theorem join_done {xs : List Int} {x : Int} (h1 : lineL xs = true) (h2 : clientL x = true) (h3 : hasL xs x = false) (h4 : ¬ 32 ≤ xs.length) : joinL xs x = (xs ++ [x], 0) := by simp only [joinL, h1, h2, h3, h4, Bool.not_true, Bool.or_self, if_false, Bool.false_eq_true]
theorem leave_bad {xs : List Int} {x : Int} (h : lineL xs = false) : leaveL xs x = (xs, 1) := by simp [leaveL, h]
theorem leave_none {xs : List Int} {x : Int} (h : lineL xs = true) (h2 : hasL xs x = false) : leaveL xs x = (xs, 3) := by simp [leaveL, h, h2]
theorem leave_done {xs : List Int} {x : Int} (h : lineL xs = true) (h2 : hasL xs x = true) : leaveL xs x = (lessL xs x, 0) := by simp [leaveL, h, h2]


end Go.Proofs.Ytihdglmiecifjaa
namespace Go.Proofs.Ytihdglmiecifjaa
open Go.RowKit Pl Il

/-- How many Wake wakes. -/
def wakeN (xs : List Int) (n : Int) : Nat := if n > (xs.length : Int) then xs.length else n.toNat
theorem wakeN_le (xs : List Int) (n : Int) (h : 0 ≤ n) : wakeN xs n ≤ xs.length := by
  unfold wakeN
  split <;> omega
theorem wakeN_over {xs : List Int} {n : Int} (h : n > (xs.length : Int)) : wakeN xs n = xs.length := by simp [wakeN, h]
theorem wakeN_in {xs : List Int} {n : Int} (h : ¬ n > (xs.length : Int)) : wakeN xs n = n.toNat := by simp only [wakeN, h, if_false]


theorem line_len {xs : List Int} (h : lineL xs = true) : xs.length ≤ 32 := by
  unfold lineL at h
  simp at h
  exact h.1

/-- Two lists that the call has made, apart from one another. -/
structure Both (w : World) (g1 m1 c1 : Nat) (xs : List Int) (g2 m2 c2 : Nat) (ys : List Int) (w' : World) : Prop where
  one : Owns w.heap.size w' g1 m1 c1 xs
  two : Owns w.heap.size w' g2 m2 c2 ys
  apart : g1 ≠ g2
  below : Below w.heap.size w w'
theorem both_of {w w1 w2 w3 : World} {g1 m1 c1 : Nat} {xs : List Int} {g2 m2 c2 : Nat} {ys : List Int} (h1 : Below w.heap.size w w1) (o1 : Owns w1.heap.size w2 g1 m1 c1 xs) (h2 : Below w1.heap.size w1 w2) (o2 : Owns w2.heap.size w3 g2 m2 c2 ys) (h3 : Below w2.heap.size w2 w3) :
    Both w g1 m1 c1 xs g2 m2 c2 ys w3 where
  one := owns_keep (owns_mono o1 h1.size) h3
  two := owns_mono o2 (Nat.le_trans h1.size h2.size)
  apart := by
    have a := (owns_parts o1).2.2.1
    have b := (owns_parts o2).2.1
    omega
  below := bl_trans (bl_trans h1 h2) h3




end Go.Proofs.Ytihdglmiecifjaa
namespace Go.Proofs.Ytihdglmiecifjaa
open Go.RowKit Pl Il

/-- The first place of x in xs, unless it has gone. -/
def placeG (xs gone : List Int) (x : Int) : Option Nat := if gone.contains x then none else xs.findIdx? (· == x)
/-- How many different ones stand in xs. -/
def dist (xs : List Int) : Nat := ((List.range xs.length).filter fun i => !hasL (xs.take i) (xs.getD i 0)).length
/-- Who stands still, of the first k. -/
def standTo (xs gone : List Int) (k : Nat) : List Int := ((List.range k).filter fun i => placeG xs gone (xs.getD i 0) == some i).map fun i => xs.getD i 0
theorem place_isSome (xs : List Int) (x : Int) : (placeG xs [] x).isSome = hasL xs x := by
  simp only [placeG, List.contains_nil, Bool.false_eq_true, if_false, hasL]
  rw [List.findIdx?_isSome]
  rw [Bool.eq_iff_iff]
  simp only [List.any_eq_true, beq_iff_eq, List.contains_eq_mem, decide_eq_true_eq]
  exact ⟨fun ⟨y, hy, e⟩ => e ▸ hy, fun h => ⟨x, h, rfl⟩⟩
theorem place_placeL (xs : List Int) (x : Int) : placeL xs x = match placeG xs [] x with | some i => (i : Int) | none => -1 := by
  simp only [placeL, placeG, List.contains_nil, Bool.false_eq_true, if_false]
  cases xs.findIdx? (· == x) <;> rfl

/-- What the map of places reads as. -/
structure Reads (D : DataW Unit) (xs gone : List Int) : Prop where
  has : ∀ x, Maps.has D (.int .i64 x) = (placeG xs gone x).isSome
  val : ∀ x i, placeG xs gone x = some i → D.atKey (.int .i64 x) (.lit (.int .i64 0)) = .lit (.int .i64 (i : Int))
  size : gone = [] → Maps.size D = dist xs
theorem Reads.empty : Reads (.map []) [] [] := ⟨fun x => by simp [Maps.has, placeG], fun x i h => by simp [placeG] at h, fun _ => rfl⟩

theorem lit_ne {x y : Int} (h : ¬ x = y) : Lit.int .i64 x ≠ Lit.int .i64 y := fun e => h (by injection e)

theorem dist_snoc (xs : List Int) (x : Int) : dist (xs ++ [x]) = dist xs + if hasL xs x then 0 else 1 := by
  unfold dist
  rw [List.length_append, List.length_singleton, List.range_succ, List.filter_append, List.length_append]
  congr 1
  · refine congrArg List.length (List.filter_congr fun i hi => ?_)
    have hi := List.mem_range.1 hi
    rw [List.take_append_of_le_length (Nat.le_of_lt hi)]
    simp [List.getD, List.getElem?_append_left hi]
  · have e : (xs ++ [x]).getD xs.length 0 = x := by simp [List.getD]
    have e2 : (xs ++ [x]).take xs.length = xs := by simp
    rw [List.filter_cons, List.filter_nil, e, e2]
    cases hasL xs x <;> simp
theorem dist_le (xs : List Int) : dist xs ≤ xs.length := by
  unfold dist
  exact Nat.le_trans (List.length_filter_le _ _) (by simp)

theorem Reads.join_new {D : DataW Unit} {xs : List Int} {x : Int} (h : Reads D xs []) (ht : Maps.Tidy D) (hx : hasL xs x = false) : Reads (D.put (.int .i64 x) (.lit (.int .i64 (xs.length : Int)))) (xs ++ [x]) [] := by
  have key : ∀ y, ¬ y = x → placeG (xs ++ [x]) [] y = placeG xs [] y := fun y hy => by
    simp only [placeG, List.contains_nil, Bool.false_eq_true, if_false]
    rw [List.findIdx?_append]
    have : [x].findIdx? (· == y) = none := by
      rw [List.findIdx?_eq_none_iff]
      intro z hz
      rw [List.mem_singleton] at hz
      subst hz
      simp only [beq_eq_false_iff_ne, ne_eq]
      exact fun e => hy e.symm
    simp [this]
  have self : placeG (xs ++ [x]) [] x = some xs.length := by
    have h0 : placeG xs [] x = none := by
      have := place_isSome xs x
      rw [hx] at this
      simpa using this
    simp only [placeG, List.contains_nil, Bool.false_eq_true, if_false] at h0 ⊢
    rw [List.findIdx?_append, h0]
    simp [List.findIdx?_cons]
  refine ⟨fun y => ?_, fun y i hi => ?_, fun _ => ?_⟩
  · by_cases e : y = x
    · subst e
      rw [Maps.has_put_same (k := .int .i64 y) ht.isMap trivial, self]; rfl
    · rw [Maps.has_put_other (lit_ne e), key y e]; exact h.has y
  · by_cases e : y = x
    · subst e
      rw [self] at hi
      injection hi with hi
      subst hi
      rw [Maps.atKey_put_same (k := .int .i64 y) ht.isMap trivial]
    · rw [Maps.atKey_put_other (lit_ne e)]
      rw [key y e] at hi
      exact h.val y i hi
  · rw [Maps.size_put ht, h.has x, place_isSome, hx, dist_snoc, hx, h.size rfl]
    simp
theorem Reads.join_old {D : DataW Unit} {xs : List Int} {x : Int} (h : Reads D xs []) (hx : hasL xs x = true) : Reads D (xs ++ [x]) [] := by
  have key : ∀ y, placeG (xs ++ [x]) [] y = placeG xs [] y := fun y => by
    by_cases e : y = x
    · subst e
      have := place_isSome xs y
      rw [hx] at this
      obtain ⟨i, hi⟩ := Option.isSome_iff_exists.1 this
      rw [hi]
      simp only [placeG, List.contains_nil, Bool.false_eq_true, if_false] at hi ⊢
      rw [List.findIdx?_append, hi]; rfl
    · simp only [placeG, List.contains_nil, Bool.false_eq_true, if_false]
      rw [List.findIdx?_append]
      have : [x].findIdx? (· == y) = none := by
        rw [List.findIdx?_eq_none_iff]
        intro z hz
        rw [List.mem_singleton] at hz
        subst hz
        simp only [beq_eq_false_iff_ne, ne_eq]
        exact fun e' => e e'.symm
      simp [this]
  refine ⟨fun y => ?_, fun y i hi => ?_, fun _ => ?_⟩
  · rw [key]; exact h.has y
  · rw [key] at hi; exact h.val y i hi
  · rw [dist_snoc, hx, h.size rfl]; simp
theorem place_gone (xs gone : List Int) (x y : Int) : placeG xs (gone ++ [x]) y = if y = x then none else placeG xs gone y := by
  unfold placeG
  by_cases e : y = x
  · subst e; simp
  · simp [e]
theorem Reads.leave {D : DataW Unit} {xs gone : List Int} {x : Int} (h : Reads D xs gone) : Reads (D.del (.int .i64 x)) xs (gone ++ [x]) := by
  refine ⟨fun y => ?_, fun y i hi => ?_, fun e => by simp at e⟩
  · rw [place_gone]
    by_cases e : y = x
    · subst e
      rw [Maps.has_del_same]; simp
    · rw [Maps.has_del_other (lit_ne e), h.has]; simp [e]
  · rw [place_gone] at hi
    by_cases e : y = x
    · subst e; simp at hi
    · rw [Maps.atKey_del_other (lit_ne e)]
      simp [e] at hi
      exact h.val y i hi

theorem stand_yes {xs gone : List Int} {k : Nat} {y : Int} (hy : xs.getD k 0 = y) (h : placeG xs gone y = some k) : standTo xs gone (k + 1) = standTo xs gone k ++ [y] := by
  unfold standTo
  rw [List.range_succ, List.filter_append, List.map_append]
  congr 1
  rw [List.filter_cons, hy, h]
  simp [List.getD] at hy
  simp [List.getD, hy]
theorem stand_no {xs gone : List Int} {k : Nat} {y : Int} (hy : xs.getD k 0 = y) (h : ¬ placeG xs gone y = some k) : standTo xs gone (k + 1) = standTo xs gone k := by
  unfold standTo
  rw [List.range_succ, List.filter_append, List.map_append]
  have : (placeG xs gone (xs.getD k 0) == some k) = false := by
    rw [hy, beq_eq_false_iff_ne]; exact h
  rw [List.filter_cons, this]
  simp
theorem stand_len (xs gone : List Int) (k : Nat) : (standTo xs gone k).length ≤ k := by
  unfold standTo
  rw [List.length_map]
  exact Nat.le_trans (List.length_filter_le _ _) (by simp)

theorem nodup_line {xs : List Int} (h : lineL xs = true) : xs.Nodup := by
  simp only [lineL, lineTo, Bool.and_eq_true, List.all_eq_true, List.mem_range] at h
  rw [List.nodup_iff_pairwise_ne, List.pairwise_iff_getElem]
  intro i j hi hj hij e
  have := (h.2 j hj).2
  have e2 : xs.getD j 0 = xs[j] := by simp [List.getD, List.getElem?_eq_getElem hj]
  rw [e2] at this
  have hm : xs[j] ∈ xs.take j := by
    rw [List.mem_take_iff_getElem]
    exact ⟨i, by omega, e⟩
  simp [hasL, hm] at this
theorem find_nodup {xs : List Int} (h : xs.Nodup) {i : Nat} (hi : i < xs.length) : xs.findIdx? (· == xs[i]) = some i := by
  rw [List.findIdx?_eq_some_iff_getElem]
  refine ⟨hi, by simp, fun j hj => ?_⟩
  intro e
  have e : xs[j]'(by omega) = xs[i] := by simpa using e
  rw [List.nodup_iff_pairwise_ne, List.pairwise_iff_getElem] at h
  exact h j i (by omega) hi hj e
theorem map_range (xs : List Int) : (List.range xs.length).map (fun i => xs.getD i 0) = xs := by
  apply List.ext_getElem
  · simp
  · intro i h1 h2
    simp [List.getD, List.getElem?_eq_getElem h2]
theorem stand_all {xs : List Int} (h : xs.Nodup) (gone : List Int) : standTo xs gone xs.length = xs.filter fun y => !gone.contains y := by
  have e : (List.range xs.length).filter (fun i => placeG xs gone (xs.getD i 0) == some i) = (List.range xs.length).filter ((fun y => !gone.contains y) ∘ fun i => xs.getD i 0) := by
    refine List.filter_congr fun i hi => ?_
    have hi := List.mem_range.1 hi
    have e : xs.getD i 0 = xs[i] := by simp [List.getD, List.getElem?_eq_getElem hi]
    simp only [Function.comp, e, placeG, find_nodup h hi]
    cases gone.contains xs[i] <;> simp
  unfold standTo
  rw [e, ← List.filter_map, map_range]
theorem stand_full {xs : List Int} (h : xs.Nodup) : standTo xs [] xs.length = xs := by
  rw [stand_all h]; simp
theorem stand_less {xs : List Int} (h : xs.Nodup) (x : Int) : standTo xs [x] xs.length = lessL xs x := by
  rw [stand_all h, lessL, h.erase_eq_filter]
  refine List.filter_congr fun y _ => ?_
  by_cases e : y = x <;> simp [e]
theorem stand_rest {xs : List Int} (h : xs.Nodup) (k : Nat) : standTo xs (xs.take k) xs.length = xs.drop k := by
  rw [stand_all h]
  have e : xs.filter (fun y => !(xs.take k).contains y) = (xs.take k ++ xs.drop k).filter (fun y => !(xs.take k).contains y) := by rw [List.take_append_drop]
  rw [e, List.filter_append, List.filter_eq_nil_iff.2 (fun y hy => by simp [hy]), List.nil_append, List.filter_eq_self.2 (fun y hy => ?_)]
  have h2 : (xs.take k ++ xs.drop k).Nodup := by rw [List.take_append_drop]; exact h
  have := (List.nodup_append.1 h2).2.2
  simp only [List.contains_eq_mem, Bool.not_eq_true', decide_eq_false_iff_not]
  exact fun hm => this y hm y hy rfl
theorem nodup_snoc {xs : List Int} (h : xs.Nodup) {x : Int} (hx : hasL xs x = false) : (xs ++ [x]).Nodup := by
  rw [List.nodup_append]
  refine ⟨h, by simp, fun a ha b hb e => ?_⟩
  rw [List.mem_singleton] at hb
  subst hb
  subst e
  simp [hasL, ha] at hx

theorem filter_len_eq {α : Type} {p : α → Bool} : ∀ {l : List α}, (l.filter p).length = l.length → ∀ x ∈ l, p x = true
  | [], _, x, hx => by cases hx
  | y :: r, h, x, hx => by
    cases hy : p y
    · rw [List.filter_cons, hy] at h
      have := List.length_filter_le p r
      simp at h
      omega
    · rw [List.filter_cons, hy] at h
      rcases List.mem_cons.1 hx with rfl | hx
      · exact hy
      · exact filter_len_eq (l := r) (by simpa using h) x hx
/-- All are clients: the line is right just if all are different. -/
theorem line_dist {xs : List Int} (h32 : xs.length ≤ 32) (hc : ∀ i, i < xs.length → clientL (xs.getD i 0) = true) : lineL xs = decide (dist xs = xs.length) := by
  rw [Bool.eq_iff_iff]
  simp only [lineL, h32, decide_true, Bool.true_and, decide_eq_true_eq]
  constructor
  · intro h
    simp only [lineTo, List.all_eq_true, List.mem_range, Bool.and_eq_true] at h
    unfold dist
    rw [List.filter_eq_self.2 (fun i hi => (h i (List.mem_range.1 hi)).2)]
    simp
  · intro h
    unfold dist at h
    have := filter_len_eq (l := List.range xs.length) (by rw [h]; simp)
    simp only [lineTo, List.all_eq_true, List.mem_range, Bool.and_eq_true]
    exact fun i hi => ⟨hc i hi, this i (List.mem_range.2 hi)⟩
end Go.Proofs.Ytihdglmiecifjaa
namespace Go.Proofs.Ytihdglmiecifjaa
open Go.RowKit Pl Il

/-- Every message is right. -/
def msgsR (v : Rv) : Bool := v.it.all fun m => okB m.1 m.2.1 m.2.2
/-- The cursor of the one in place k. -/
def cuR (sb : List Sb) (k : Int) : Int := (sb.getD k.toNat ⟨0, 0, 0, 0, 0, 0, []⟩).cu
/-- The one in place i of those who wait or were told is right. -/
def waitAt (v : Rv) (i : Nat) : Bool :=
  decide (0 ≤ atR v.sb ((v.ln ++ v.gs).getD i 0)) && (!hasL ((v.ln ++ v.gs).take i) ((v.ln ++ v.gs).getD i 0) && (decide (v.ln.length ≤ i) || decide (cuR v.sb (atR v.sb ((v.ln ++ v.gs).getD i 0)) = v.se)))
def waitTo (v : Rv) (k : Nat) : Bool := (List.range k).all (waitAt v)
theorem waitTo_succ (v : Rv) (k : Nat) : waitTo v (k + 1) = (waitTo v k && waitAt v k) := by
  unfold waitTo
  rw [List.range_succ, List.all_append]
  simp
theorem waitTo_bad {v : Rv} {k n : Nat} (h : waitAt v k = false) (hk : k < n) : waitTo v n = false := by
  unfold waitTo
  rw [List.all_eq_false]
  exact ⟨k, List.mem_range.2 hk, by simp [h]⟩
/-- What the rest of RingOk asks for. -/
def restR (v : Rv) : Bool := msgsR v && waitTo v (v.ln.length + v.gs.length)
/-- What RingOk asks for, f being asked last. -/
def okR (f : Rv → Bool) (v : Rv) : Bool := headR v && (subsTo v v.sb.length && (lenR v && f v))

/-- The same, as the program asks for it. -/
def subI (se : Int) (s : Sb) : Bool := decide (0 ≤ s.st ∧ s.st ≤ s.cu ∧ s.cu ≤ se) && (decide (0 ≤ s.gt ∧ s.gt ≤ s.cu - s.st) && (decide (0 ≤ s.lo ∧ s.lo ≤ s.cu - s.st) && (decide (0 ≤ s.pa ∧ s.pa ≤ s.cu - s.st) && (decide (s.gt + s.lo + s.pa = s.cu - s.st) && okF s.fl))))
def leastAt (sb : List Sb) (k : Nat) : Int := if k = 0 then 0 else (sb.getD (k - 1) ⟨0, 0, 0, 0, 0, 0, []⟩).id + 1
def subsIAt (v : Rv) (i : Nat) : Bool := decide (leastAt v.sb i ≤ (v.sb.getD i ⟨0, 0, 0, 0, 0, 0, []⟩).id ∧ (v.sb.getD i ⟨0, 0, 0, 0, 0, 0, []⟩).id < v.nx) && subI v.se (v.sb.getD i ⟨0, 0, 0, 0, 0, 0, []⟩)
def subsITo (v : Rv) (k : Nat) : Bool := (List.range k).all (subsIAt v)
theorem subsITo_succ (v : Rv) (k : Nat) : subsITo v (k + 1) = (subsITo v k && subsIAt v k) := by
  unfold subsITo
  rw [List.range_succ, List.all_append]
  simp
theorem subsITo_bad {v : Rv} {k n : Nat} (h : subsIAt v k = false) (hk : k < n) : subsITo v n = false := by
  unfold subsITo
  rw [List.all_eq_false]
  exact ⟨k, List.mem_range.2 hk, by simp [h]⟩
def headI (v : Rv) : Bool := decide ((1 ≤ v.cp ∧ v.cp ≤ 16) ∧ (0 ≤ v.se ∧ v.se ≤ 1000000000) ∧ (0 ≤ v.nx ∧ v.nx ≤ 1000000000))
def subsI (v : Rv) : Bool := decide (v.sb.length ≤ 12) && subsITo v v.sb.length
def itemsI (v : Rv) : Bool := decide ((v.it.length : Int) = v.se - oldR v) && msgsR v
def lineI (v : Rv) (y : Int) : Bool := decide (0 ≤ atR v.sb y) && decide (cuR v.sb (atR v.sb y) = v.se)
def grantI (v : Rv) (y : Int) : Bool := decide (0 ≤ atR v.sb y)
def waitI (v : Rv) : Bool := !(v.cl && decide (0 < v.ln.length)) && (v.ln.all (lineI v) && (v.gs.all (grantI v) && decide (dist (v.ln ++ v.gs) = (v.ln ++ v.gs).length)))
def okI (v : Rv) : Bool := headI v && (subsI v && (itemsI v && waitI v))

theorem subsI_eq (v : Rv) : ∀ k, subsITo v k = subsTo v k
  | 0 => rfl
  | k + 1 => by
    rw [subsITo_succ, subsTo_succ, subsI_eq v k]
    cases hs : subsTo v k
    · rfl
    rw [Bool.true_and, Bool.true_and]
    have hp : k = 0 ∨ 0 ≤ (v.sb.getD (k - 1) ⟨0, 0, 0, 0, 0, 0, []⟩).id := by
      rcases Nat.eq_zero_or_pos k with h | h
      · exact .inl h
      · right
        obtain ⟨j, rfl⟩ : ∃ j, k = j + 1 := ⟨k - 1, by omega⟩
        rw [subsTo_succ] at hs
        simp only [Bool.and_eq_true, subR, subHead, decide_eq_true_eq] at hs
        have := hs.2.1.1.1.1.1.1.1.1.1
        simpa using this
    rw [Bool.eq_iff_iff]
    simp only [subsIAt, subI, subR, subHead, subSums, Bool.and_eq_true, Bool.or_eq_true, decide_eq_true_eq]
    unfold leastAt
    rcases Nat.eq_zero_or_pos k with h | h
    · subst h
      simp only [if_true, true_or, and_true]
      constructor
      · rintro ⟨⟨a, b⟩, ⟨c, d, e⟩, ⟨f, g⟩, ⟨i, j⟩, ⟨l, m⟩, n, o⟩
        exact ⟨⟨⟨⟨⟨⟨⟨⟨a, by omega⟩, c⟩, d⟩, e⟩, f⟩, i⟩, l⟩, ⟨⟨⟨g, j⟩, m⟩, n⟩, o⟩
      · rintro ⟨⟨⟨⟨⟨⟨⟨⟨a, b⟩, c⟩, d⟩, e⟩, f⟩, i⟩, l⟩, ⟨⟨⟨g, j⟩, m⟩, n⟩, o⟩
        exact ⟨⟨a, by omega⟩, ⟨c, d, e⟩, ⟨f, g⟩, ⟨i, j⟩, ⟨l, m⟩, n, o⟩
    · have hk : ¬ k = 0 := by omega
      have hp' := hp.resolve_left hk
      simp only [hk, if_false, false_or]
      constructor
      · rintro ⟨⟨a, b⟩, ⟨c, d, e⟩, ⟨f, g⟩, ⟨i, j⟩, ⟨l, m⟩, n, o⟩
        exact ⟨⟨⟨⟨⟨⟨⟨⟨⟨by omega, by omega⟩, c⟩, d⟩, e⟩, f⟩, i⟩, l⟩, ⟨⟨⟨g, j⟩, m⟩, n⟩, o⟩, by omega⟩
      · rintro ⟨⟨⟨⟨⟨⟨⟨⟨⟨a, b⟩, c⟩, d⟩, e⟩, f⟩, i⟩, l⟩, ⟨⟨⟨g, j⟩, m⟩, n⟩, o⟩, q⟩
        exact ⟨⟨by omega, by omega⟩, ⟨c, d, e⟩, ⟨f, g⟩, ⟨i, j⟩, ⟨l, m⟩, n, o⟩
theorem oldR_ge (v : Rv) : v.se - v.cp ≤ oldR v := by
  unfold oldR
  simp only
  split <;> split <;> omega
theorem atR_mem {sb : List Sb} {id : Int} (h : 0 ≤ atR sb id) : id ∈ sb.map (·.id) := by
  unfold atR at h
  cases hf : sb.findIdx? (fun s => s.id == id) with
  | none => rw [hf] at h; simp at h
  | some i =>
    rw [List.findIdx?_eq_some_iff_getElem] at hf
    obtain ⟨hi, he, _⟩ := hf
    exact List.mem_map.2 ⟨sb[i], List.getElem_mem hi, by simpa using he⟩
theorem dist_iff (xs : List Int) : dist xs = xs.length ↔ ∀ i, i < xs.length → hasL (xs.take i) (xs.getD i 0) = false := by
  constructor
  · intro h i hi
    unfold dist at h
    have := filter_len_eq (l := List.range xs.length) (by rw [h]; simp) i (List.mem_range.2 hi)
    simpa using this
  · intro h
    unfold dist
    rw [List.filter_eq_self.2 (fun i hi => by rw [h i (List.mem_range.1 hi)]; rfl)]
    simp
theorem dist_nodup {xs : List Int} (h : dist xs = xs.length) : xs.Nodup := by
  rw [List.nodup_iff_pairwise_ne, List.pairwise_iff_getElem]
  intro i j hi hj hij e
  have := (dist_iff xs).1 h j hj
  simp only [hasL, List.getD_eq_getElem?_getD, List.getElem?_eq_getElem hj, Option.getD_some, List.contains_eq_mem, decide_eq_false_iff_not] at this
  exact this (by rw [← e]; exact List.mem_take_iff_getElem.2 ⟨i, by omega, rfl⟩)
theorem few_wait {v : Rv} (hs : v.sb.length ≤ 12) (hd : dist (v.ln ++ v.gs) = (v.ln ++ v.gs).length) (h : ∀ y, y ∈ v.ln ++ v.gs → 0 ≤ atR v.sb y) : v.ln.length + v.gs.length ≤ 12 := by
  have h1 := (dist_nodup hd).length_le_of_subset (l₂ := v.sb.map (·.id)) (fun y hy => atR_mem (h y hy))
  simp only [List.length_append, List.length_map] at h1
  omega
theorem get_mem {xs : List Int} {i : Nat} (h : i < xs.length) : xs.getD i 0 ∈ xs := by
  rw [List.getD_eq_getElem?_getD, List.getElem?_eq_getElem h]
  exact List.getElem_mem h
theorem get_left {xs ys : List Int} {i : Nat} (h : i < xs.length) : (xs ++ ys).getD i 0 = xs.getD i 0 := by
  simp [List.getD_eq_getElem?_getD, List.getElem?_append_left h]
theorem get_right {xs ys : List Int} {i : Nat} (h : xs.length ≤ i) : (xs ++ ys).getD i 0 = ys.getD (i - xs.length) 0 := by
  simp [List.getD_eq_getElem?_getD, List.getElem?_append_right h]
theorem get_of {xs : List Int} {y : Int} (h : y ∈ xs) : ∃ i, i < xs.length ∧ xs.getD i 0 = y := by
  obtain ⟨i, hi, e⟩ := List.getElem_of_mem h
  exact ⟨i, hi, by rw [List.getD_eq_getElem?_getD, List.getElem?_eq_getElem hi]; exact e⟩
/-- Both ask for the same. -/
theorem okI_eq (v : Rv) : okI v = okR restR v := by
  rw [Bool.eq_iff_iff]
  simp only [okI, okR, headI, headR, subsI, itemsI, waitI, lenR, restR, Bool.and_eq_true, decide_eq_true_eq, subsI_eq]
  constructor
  · rintro ⟨⟨hc, hs, hn⟩, ⟨h12, hsub⟩, ⟨hlen, hmsg⟩, hcl, hln, hgs, hd⟩
    simp only [List.all_eq_true] at hln hgs
    have hat : ∀ y, y ∈ v.ln ++ v.gs → 0 ≤ atR v.sb y := fun y hy => by
      rcases List.mem_append.1 hy with hy | hy
      · have := hln y hy
        simp only [lineI, Bool.and_eq_true, decide_eq_true_eq] at this
        exact this.1
      · have := hgs y hy
        simpa [grantI] using this
    have ho := oldR_ge v
    refine ⟨⟨⟨⟨⟨hc, hs⟩, hn⟩, h12⟩, by omega⟩, hsub, ⟨hlen, few_wait h12 hd hat, hcl⟩, hmsg, ?_⟩
    unfold waitTo
    rw [List.all_eq_true]
    intro i hi
    rw [List.mem_range] at hi
    have hi2 : i < (v.ln ++ v.gs).length := by simpa using hi
    have h1 := hat _ (get_mem hi2)
    have h2 := (dist_iff _).1 hd i hi2
    simp only [waitAt, Bool.and_eq_true, Bool.or_eq_true, decide_eq_true_eq, Bool.not_eq_true']
    refine ⟨h1, h2, ?_⟩
    rcases Nat.lt_or_ge i v.ln.length with h | h
    · right
      have := hln _ (get_mem h)
      simp only [lineI, Bool.and_eq_true, decide_eq_true_eq] at this
      rw [get_left h]
      exact this.2
    · exact .inl h
  · rintro ⟨⟨⟨⟨⟨hc, hs⟩, hn⟩, h12⟩, h16⟩, hsub, ⟨hlen, hfew, hcl⟩, hmsg, hw⟩
    unfold waitTo at hw
    rw [List.all_eq_true] at hw
    have key : ∀ i, i < v.ln.length + v.gs.length → 0 ≤ atR v.sb ((v.ln ++ v.gs).getD i 0) ∧ hasL ((v.ln ++ v.gs).take i) ((v.ln ++ v.gs).getD i 0) = false ∧ (v.ln.length ≤ i ∨ cuR v.sb (atR v.sb ((v.ln ++ v.gs).getD i 0)) = v.se) := fun i hi => by
      have := hw i (List.mem_range.2 hi)
      simpa only [waitAt, Bool.and_eq_true, Bool.or_eq_true, decide_eq_true_eq, Bool.not_eq_true'] using this
    refine ⟨⟨hc, hs, hn⟩, ⟨h12, hsub⟩, ⟨hlen, hmsg⟩, hcl, ?_, ?_, ?_⟩
    · rw [List.all_eq_true]
      intro y hy
      obtain ⟨i, hi, rfl⟩ := get_of hy
      have h := key i (by omega)
      rw [get_left hi] at h
      simp only [lineI, Bool.and_eq_true, decide_eq_true_eq]
      exact ⟨h.1, h.2.2.resolve_left (by omega)⟩
    · rw [List.all_eq_true]
      intro y hy
      obtain ⟨i, hi, rfl⟩ := get_of hy
      have h := key (v.ln.length + i) (by omega)
      rw [get_right (by omega), Nat.add_sub_cancel_left] at h
      simp only [grantI, decide_eq_true_eq]
      exact h.1
    · rw [dist_iff]
      intro i hi
      exact (key i (by simpa using hi)).2.1
end Go.Proofs.Ytihdglmiecifjaa
namespace Go.Proofs.Ytihdglmiecifjaa
open Go.RowKit Pl

theorem l1Plain_any (s : ByteArray) (w : World) (hs : s.size ≤ maxLen) :
    Calls Try.prog 40 #[.string s] w fun e w' => e = .returned (.bool (plainB s)) ∧ w' = w := by
  unfold maxLen at hs
  go_enter Try.func40, Try.ntmps40
  go_wp2
  · go_ret
    exact ⟨ret_bool (plain_long s (by assumption)).symm, rfl⟩
  go_loop [3] (fun i => ∃ k : Nat, k ≤ s.size ∧ i = .int .i64 k ∧ plainL (s.data.toList.take k) = true) (fun i => s.size - (intOf i).toNat)
  case atStart => exact ⟨0, Nat.zero_le _, rfl, rfl⟩
  case round =>
    obtain ⟨k, hk, rfl, hp⟩ := hrel
    by_cases hlt : k < s.size
    · go_wp2
      all_goals first
        | (go_ret; exact ⟨ret_bool (plain_bad s k hlt (good_no _ (by (try simp only [beq_iff_eq] at *); omega))).symm, rfl⟩)
        | (go_round
           case rel => exact ⟨k + 1, by omega, by go_num, plain_step s k hlt hp (good_yes _ (by omega) (by omega) (by (try simp only [beq_eq_false_iff_ne] at *); omega))⟩
           case measure => simp [intOf]; omega)
    · go_wp2
      go_ret
      exact ⟨ret_bool (plain_all s k (by omega) (by omega) hp).symm, rfl⟩

theorem right_text (s : ByteArray) (w : World) (hs : s.size ≤ maxLen) :
    Calls Try.prog 115 #[.string s] w fun e w' => e = .returned (.bool (plainB s)) ∧ w' = w := by
  unfold maxLen at hs
  go_enter Try.func115, Try.ntmps115
  go_wp2
  · go_ret
    exact ⟨ret_bool (plain_long s (by assumption)).symm, rfl⟩
  go_loop [3] (fun i => ∃ k : Nat, k ≤ s.size ∧ i = .int .i64 k ∧ plainL (s.data.toList.take k) = true) (fun i => s.size - (intOf i).toNat)
  case atStart => exact ⟨0, Nat.zero_le _, rfl, rfl⟩
  case round =>
    obtain ⟨k, hk, rfl, hp⟩ := hrel
    by_cases hlt : k < s.size
    · go_wp2
      all_goals first
        | (go_ret; exact ⟨ret_bool (plain_bad s k hlt (good_no _ (by (try simp only [beq_iff_eq] at *); omega))).symm, rfl⟩)
        | (go_round
           case rel => exact ⟨k + 1, by omega, by go_num, plain_step s k hlt hp (good_yes _ (by omega) (by omega) (by (try simp only [beq_eq_false_iff_ne] at *); omega))⟩
           case measure => simp [intOf]; omega)
    · go_wp2
      go_ret
      exact ⟨ret_bool (plain_all s k (by omega) (by omega) hp).symm, rfl⟩

theorem right_num (n : Int) (w : World) :
    Calls Try.prog 112 #[.int .i64 n] w fun e w' => e = .returned (.bool (okNum n)) ∧ w' = w := by
  go_enter Try.func112, Try.ntmps112
  go_wp2
  all_goals go_ret
  all_goals (refine ⟨ret_bool ?_, rfl⟩; simp [okNum]; try omega)

theorem l1In_any (n a b : Int) (w : World) :
    Calls Try.prog 18 #[.int .i64 n, .int .i64 a, .int .i64 b] w fun e w' => e = .returned (.bool (decide (a ≤ n) && decide (n ≤ b))) ∧ w' = w := by
  go_enter Try.func18, Try.ntmps18
  go_wp2
  all_goals go_ret
  all_goals (refine ⟨ret_bool ?_, rfl⟩; simp; try omega)

theorem msg_num (n : Int) (w : World) :
    Calls Try.prog 111 #[.int .i64 n] w fun e w' => e = .returned (.agg #[.int .i64 1, .int .i64 n, .string ⟨#[]⟩]) ∧ w' = w.alloc (.cells #[.int .i64 1, .int .i64 n, .string ⟨#[]⟩] 52) := by
  go_enter Try.func111, Try.ntmps111
  go_wp2
  refine bodyPost_ret (v := .agg #[.int .i64 1, .int .i64 n, .string ⟨#[]⟩]) (by simp [results, Try.results111, go_sem]) rfl ⟨rfl, ?_⟩
  rfl

theorem msg_text (s : ByteArray) (w : World) :
    Calls Try.prog 114 #[.string s] w fun e w' => e = .returned (.agg #[.int .i64 2, .int .i64 0, .string s]) ∧ w' = w.alloc (.cells #[.int .i64 2, .int .i64 0, .string s] 52) := by
  go_enter Try.func114, Try.ntmps114
  go_wp2
  refine bodyPost_ret (v := .agg #[.int .i64 2, .int .i64 0, .string s]) (by simp [results, Try.results114, go_sem]) rfl ⟨rfl, ?_⟩
  rfl

theorem specMsgOk_any (k n : Int) (s : ByteArray) (w : World) (hs : s.size ≤ maxLen) :
    Calls Try.prog 21 #[.agg #[.int .i64 k, .int .i64 n, .string s]] w fun e w' => e = .returned (.bool (okB k n s)) ∧ Below w.heap.size w w' := by
  go_enter Try.func21, Try.ntmps21
  go_wp2_with (first | (go_at_call 18; refine (l1In_any _ _ _ _).mono ?_; rintro e w' ⟨rfl, rfl⟩) | (go_at_call 40; refine (l1Plain_any _ _ hs).mono ?_; rintro e w' ⟨rfl, rfl⟩))
  · go_ret
    exact ⟨ret_bool (ok_num (by assumption) (by assumption)).symm, bl_alloc (Below.refl _ _) _⟩
  · go_ret
    exact ⟨ret_bool (ok_numNo (by assumption) (by assumption)).symm, bl_alloc (Below.refl _ _) _⟩
  · have hn : n = 0 := by assumption
    subst hn
    go_ret
    exact ⟨ret_bool (ok_text (by assumption) (by assumption)).symm, bl_alloc (Below.refl _ _) _⟩
  · go_ret
    exact ⟨ret_bool (ok_textNo (by assumption) (by assumption) (by assumption)).symm, bl_alloc (Below.refl _ _) _⟩
  · go_ret
    exact ⟨ret_bool (ok_none (by assumption) (by assumption)).symm, bl_alloc (Below.refl _ _) _⟩

end Go.Proofs.Ytihdglmiecifjaa
