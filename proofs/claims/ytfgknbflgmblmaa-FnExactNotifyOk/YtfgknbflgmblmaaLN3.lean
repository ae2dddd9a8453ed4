/-
  Walks of the laws' own helpers on notifications: compared, marked, looked at again.
-/
import Derived.Test.YtfgknbflgmblmaaLN2
namespace Go.Proofs.Ytfgknbflgmblmaa
open Go.RowKit Pl Il

set_option maxHeartbeats 1000000 in
theorem eqNotify_any (A A' : Na) (x y : Nt) (w : World) (h1 : NIn w A x) (h2 : NIn w A' y) (hn1 : A.n ≤ 2097152) (hm1 : A.n' ≤ 2097152) (hn2 : A'.n ≤ 2097152) (hm2 : A'.n' ≤ 2097152) :
    Calls Try.prog 32 #[.agg #[.bool x.pm, .slice A.a A.n A.c, .slice A.a' A.n' A.c', .int .i64 x.on, .int .i64 x.sp, .int .i64 x.tk], .agg #[.bool y.pm, .slice A'.a A'.n A'.c, .slice A'.a' A'.n' A'.c', .int .i64 y.on, .int .i64 y.sp, .int .i64 y.tk]] w fun e w' => e = .returned (.bool (sameN x y)) ∧ Below w.heap.size w w' := by
  generalize hW0 : w.alloc (.cells #[.bool x.pm, .slice A.a A.n A.c, .slice A.a' A.n' A.c', .int .i64 x.on, .int .i64 x.sp, .int .i64 x.tk] 27) = W0
  generalize hW1 : W0.alloc (.cells #[.bool y.pm, .slice A'.a A'.n A'.c, .slice A'.a' A'.n' A'.c', .int .i64 y.on, .int .i64 y.sp, .int .i64 y.tk] 27) = W1
  have B0 : Below w.heap.size w W0 := by subst hW0; exact bl_alloc (Below.refl _ _) _
  have B1 : Below w.heap.size w W1 := by subst hW1; exact bl_alloc B0 _
  have s0 : W0.heap.size = w.heap.size + 1 := by subst hW0; simp
  have x0 : NBox w.heap.size A x W1 := by subst hW1 hW0; exact (NBox.new w A x _).alloc _
  have x1 : NBox (w.heap.size + 1) A' y W1 := by subst hW1; rw [← s0]; exact NBox.new W0 A' y _
  have k1 := h1.keep B1
  have k2 := h2.keep B1
  obtain ⟨_, p0, p1, p2, p3, p4, p5, _⟩ := id x0
  obtain ⟨_, q0, q1, q2, q3, q4, q5, _⟩ := id x1
  have X0 := hidOf x0
  have X1 := hidOf x1
  clear h1 h2 x0 x1
  by_cases e0 : x.pm = y.pm
  · have e0' : (!(x.pm == y.pm)) = false := by simp [e0]
    have E0 := hidOf e0
    clear e0
    go_enter Try.func32, Try.ntmps32
    go_wp2_with fail
    refine (eqIntS_any A.a A'.a A.n A'.n A.c A'.c x.ln y.ln _ k1.ints k2.ints hn1 hn2).mono ?_
    rintro e w1 ⟨rfl, hb1⟩
    have hB := bl_trans B1 hb1
    have X0' := hidOf (X0.out.keep hb1)
    have X1' := hidOf (X1.out.keep hb1)
    obtain ⟨_, r0, r1, r2, r3, r4, r5, _⟩ := X0'.out
    obtain ⟨_, t0, t1, t2, t3, t4, t5, _⟩ := X1'.out
    have g1 := k1.grs.keep hb1
    have g2 := k2.grs.keep hb1
    clear k1 k2 X0 X1 hb1 p0 p1 p2 p3 p4 p5 q0 q1 q2 q3 q4 q5 hW0 hW1 B0 B1
    cases he : eqL x.ln y.ln
    · go_wp2
      go_ret
      exact ⟨rbool (by simp [sameN, he]), hB⟩
    · go_wp2_with fail
      refine (eqGrantS_any A.a' A'.a' A.n' A'.n' A.c' A'.c' x.gs y.gs _ g1 g2 hm1 hm2).mono ?_
      rintro e w2 ⟨rfl, hb2⟩
      have hB2 := bl_trans hB hb2
      obtain ⟨_, r0', r1', r2', r3', r4', r5', _⟩ := X0'.out.keep hb2
      obtain ⟨_, t0', t1', t2', t3', t4', t5', _⟩ := X1'.out.keep hb2
      clear X0' X1' r0 r1 r2 r3 r4 r5 t0 t1 t2 t3 t4 t5 hb2 g1 g2
      cases hf : eqGL x.gs y.gs
      · go_wp2
        go_ret
        exact ⟨rbool (by simp [sameN, hf]), hB2⟩
      · by_cases e3 : x.on = y.on
        · have e3' : (x.on != y.on) = false := by simp [e3]
          have E3 := hidOf e3
          clear e3
          by_cases e4 : x.sp = y.sp
          · have e4' : (x.sp != y.sp) = false := by simp [e4]
            have E4 := hidOf e4
            clear e4
            by_cases e5 : x.tk = y.tk
            · have e5' : (x.tk != y.tk) = false := by simp [e5]
              have E5 := hidOf e5
              clear e5
              go_wp2
              go_ret
              exact ⟨rbool (by simp [sameN, he, hf, E0.out, E3.out, E4.out, E5.out]), hB2⟩
            · have e5' : (x.tk != y.tk) = true := by simp [e5]
              have hr := hidOf (show sameN x y = false by simp [sameN, e5])
              clear e5
              go_wp2
              go_ret
              exact ⟨rbool hr.out.symm, hB2⟩
          · have e4' : (x.sp != y.sp) = true := by simp [e4]
            have hr := hidOf (show sameN x y = false by simp [sameN, e4])
            clear e4
            go_wp2
            go_ret
            exact ⟨rbool hr.out.symm, hB2⟩
        · have e3' : (x.on != y.on) = true := by simp [e3]
          have hr := hidOf (show sameN x y = false by simp [sameN, e3])
          clear e3
          go_wp2
          go_ret
          exact ⟨rbool hr.out.symm, hB2⟩
  · have e0' : (!(x.pm == y.pm)) = true := by simp [e0]
    have hr := hidOf (show sameN x y = false by simp [sameN, e0])
    clear e0 k1 k2 X0 X1
    go_enter Try.func32, Try.ntmps32
    go_wp2
    go_ret
    exact ⟨rbool hr.out.symm, B1⟩

/-- Marks for grants: k, k + 1 and so on, two a grant. -/
def marksG (k : Int) (n : Nat) : List (Int × Bool) := (List.range n).map fun (i : Nat) => (k + 2 * (i : Int), (k + 2 * (i : Int) + 1) % 3 == 0)
theorem marksG_len (k : Int) (n : Nat) : (marksG k n).length = n := by simp [marksG]
theorem marksG_get {k : Int} {n j : Nat} (h : j < n) : gg (marksG k n) j = (k + 2 * (j : Int), (k + 2 * (j : Int) + 1) % 3 == 0) := by
  simp [marksG, gg, List.getD, List.getElem?_map, List.getElem?_range h]
/-- Marks are written into a row, place by place. -/
structure MarkG (w : World) (b off n : Nat) (k : Int) (m : Nat) (wr : World) : Prop where
  ex : w.grownBy wr (some b)
  lt : b < wr.heap.size
  cells : ∀ j, j < n → ∃ v0 v1, wr.cell? ⟨b, off + j * 2, none⟩ = some v0 ∧ wr.cell? ⟨b, off + j * 2 + 1, none⟩ = some v1 ∧ (j < m → v0 = .int .i64 (k + 2 * (j : Int)) ∧ v1 = .bool ((k + 2 * (j : Int) + 1) % 3 == 0))
  fr : ∀ j, wr.frozen? ⟨b, j, none⟩ = false
theorem grownS {w w' : World} {b : Nat} (h : w.grownBy w' (some b)) (o : Nat) (x : Value) : w.grownBy (w'.setCell ⟨b, o, none⟩ x) (some b) :=
  ⟨h.os, h.tape, h.output, by simpa using h.size, fun k hk hne => by
    rw [Below.heap_setCell w' ⟨b, o, none⟩ x k (by rintro rfl; exact hne rfl)]
    exact h.block k hk hne⟩
theorem MarkG.step {w : World} {b off n : Nat} {k : Int} {m : Nat} {wr : World} (h : MarkG w b off n k m wr) : MarkG w b off n k (m + 1) ((wr.setCell ⟨b, off + m * 2, none⟩ (.int .i64 (k + 2 * (m : Int)))).setCell ⟨b, off + m * 2 + 1, none⟩ (.bool ((k + 2 * (m : Int) + 1) % 3 == 0))) where
  ex := grownS (grownS h.ex _ _) _ _
  lt := by simpa using h.lt
  cells := fun j hj => by
    obtain ⟨v0, v1, h0, h1, hk⟩ := h.cells j hj
    by_cases e : j = m
    · subst e
      have h1' : (wr.setCell ⟨b, off + j * 2, none⟩ (.int .i64 (k + 2 * (j : Int)))).cell? ⟨b, off + j * 2 + 1, none⟩ = some v1 := by
        rw [World.cell?_setCell_other _ _ _ _ (by intro e'; injection e' with _ e2; omega)]; exact h1
      refine ⟨_, _, ?_, World.cell?_setCell_same _ _ _ h1', fun _ => ⟨rfl, rfl⟩⟩
      rw [World.cell?_setCell_other _ _ _ _ (by intro e'; injection e' with _ e2; omega)]
      exact World.cell?_setCell_same _ _ _ h0
    · refine ⟨v0, v1, ?_, ?_, fun hlt => hk (by omega)⟩
      · rw [World.cell?_setCell_other _ _ _ _ (by intro e'; injection e' with _ e2; omega), World.cell?_setCell_other _ _ _ _ (by intro e'; injection e' with _ e2; omega)]; exact h0
      · rw [World.cell?_setCell_other _ _ _ _ (by intro e'; injection e' with _ e2; omega), World.cell?_setCell_other _ _ _ _ (by intro e'; injection e' with _ e2; omega)]; exact h1
  fr := fun j => by simpa using h.fr j
/-- What a marking leaves. -/
def TurnG (a : Option Addr) (n : Nat) (w w' : World) : Prop := n = 0 ∧ Below w.heap.size w w' ∨ 0 < n ∧ ∃ b off, a = some ⟨b, off, none⟩ ∧ w.grownBy w' (some b)

/-- The list is written over with marks; nothing but its own block turns. -/
theorem markGrantS_any (B : Nat) (a : Option Addr) (n cap : Nat) (ts : List (Int × Bool)) (k : Int) (w : World) (hO : OwnG B w a n ts) (hn : n ≤ 2097152) (k0 : 0 ≤ k) (k1 : k ≤ 1000000000) :
    Calls Try.prog 71 #[.slice a n cap, .int .i64 k] w fun e w' => e = .returned (.int .i64 (k + 2 * (n : Int))) ∧ OwnG B w' a n (marksG k n) ∧ TurnG a n w w' := by
  by_cases h0 : n = 0
  · subst h0
    clear hO
    go_enter Try.func71, Try.ntmps71
    go_wp2
    go_loop [1, 5] (fun x i => x = .int .i64 k ∧ i = .int .i64 0) (fun _ _ => 0)
    case atStart => exact ⟨rfl, rfl⟩
    case round =>
      obtain ⟨rfl, rfl⟩ := hrel
      go_wp2
      go_ret
      exact ⟨rint (by simp), ⟨⟨marksG_len _ _, .inl rfl⟩, .inl rfl⟩, .inl ⟨rfl, Below.refl _ _⟩⟩
  · obtain ⟨⟨hlen, hr | ⟨b, off, rfl, hb, hcell⟩⟩, hown⟩ := hO
    · omega
    obtain ⟨hB, hfr⟩ : B ≤ b ∧ ∀ o, w.frozen? ⟨b, o, none⟩ = false := by
      rcases hown with h0' | ⟨b', off', e, hB, hf⟩
      · omega
      · cases e; exact ⟨hB, hf⟩
    have hS := hidOf (MarkG.mk (k := k) (m := 0) ⟨rfl, rfl, rfl, Nat.le_refl _, fun _ _ _ => rfl⟩ hb (fun j hj => ⟨_, _, (hcell j hj).1, (hcell j hj).2, fun h => by omega⟩) hfr)
    clear hcell hfr hown hlen
    go_enter Try.func71, Try.ntmps71
    go_wp2
    go_loopw [1, 5] (fun x i wr => ∃ m : Nat, m ≤ n ∧ i = .int .i64 m ∧ x = .int .i64 (k + 2 * (m : Int)) ∧ MarkG w b off n k m wr) (fun _ i _ => n - (intOf i).toNat)
    case atStart => exact ⟨0, Nat.zero_le _, rfl, by simp, hS.out⟩
    case round =>
      rename_i wr
      obtain ⟨m, hm, rfl, rfl, hM⟩ := hrel
      clear hS
      by_cases hlt : m < n
      · obtain ⟨v0, v1, hv0, hv1, _⟩ := hM.cells m hlt
        have hf := hM.fr
        have HM := hidOf hM.step
        clear hM
        go_wp2
        go_roundw
        case rel => exact ⟨m + 1, by omega, by go_num, by go_num, HM.out⟩
        case measure => simp [intOf]; omega
      · obtain rfl : m = n := by omega
        go_wp2
        go_ret
        refine ⟨rfl, ⟨⟨marksG_len _ _, .inr ⟨b, off, rfl, hM.lt, fun i hi => ?_⟩⟩, .inr ⟨b, off, rfl, hB, hM.fr⟩⟩, .inr ⟨by omega, b, off, rfl, hM.ex⟩⟩
        obtain ⟨v0, v1, hv0, hv1, hk⟩ := hM.cells i hi
        rw [hv0, hv1, (hk hi).1, (hk hi).2, marksG_get hi]
        exact ⟨rfl, rfl⟩

theorem heldGrantS_marks (a : Option Addr) (n cap : Nat) (k : Int) (w : World) (hI : GrAt w a n (marksG k n)) (hn : n ≤ 2097152) (k0 : 0 ≤ k) (k1 : k ≤ 1000000000) :
    Calls Try.prog 72 #[.slice a n cap, .int .i64 k] w fun e w' => e = .returned (.int .i64 (k + 2 * (n : Int))) ∧ w' = w := by
  obtain ⟨hlen, rfl | ⟨b, off, rfl, hb, hcell⟩⟩ := hI
  · go_enter Try.func72, Try.ntmps72
    go_wp2
    go_loop [1, 5] (fun x i => x = .int .i64 k ∧ i = .int .i64 0) (fun _ _ => 0)
    case atStart => exact ⟨rfl, rfl⟩
    case round =>
      obtain ⟨rfl, rfl⟩ := hrel
      go_wp2
      go_ret
      exact ⟨rint (by simp), rfl⟩
  · clear hlen
    go_enter Try.func72, Try.ntmps72
    go_wp2
    go_loop [1, 5] (fun x i => ∃ m : Nat, m ≤ n ∧ i = .int .i64 m ∧ x = .int .i64 (k + 2 * (m : Int))) (fun _ i => n - (intOf i).toNat)
    case atStart => exact ⟨0, Nat.zero_le _, rfl, by simp⟩
    case round =>
      obtain ⟨m, hm, rfl, rfl⟩ := hrel
      by_cases hlt : m < n
      · obtain ⟨hc, hc2⟩ := hcell m hlt
        rw [marksG_get hlt] at hc hc2
        clear hcell
        go_wp2
        go_round
        case rel => exact ⟨m + 1, by omega, by go_num, by go_num⟩
        case measure => simp [intOf]; omega
      · obtain rfl : m = n := by omega
        clear hcell
        go_wp2
        go_ret
        exact ⟨rfl, rfl⟩

end Go.Proofs.Ytfgknbflgmblmaa
