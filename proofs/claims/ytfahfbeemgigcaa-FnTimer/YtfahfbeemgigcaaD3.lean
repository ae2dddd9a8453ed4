/-
  The specification's draws: a clock and by how much it goes on; a byte of the code.
-/
import Derived.Test.YtfahfbeemgigcaaD2
namespace Go.Proofs.Ytfahfbeemgigcaa
open Go.RowKit Pl Dr Il Th

theorem bytes_up {w : World} {a : Option Addr} {len cap : Nat} (h : Bytes w.heap.size w a len cap) (o : Obj) : Bytes (w.alloc o).heap.size (w.alloc o) a len cap := by
  have hb := bl_alloc (Below.refl w.heap.size w) o
  obtain ⟨hl, hm, k | ⟨b, off, rfl, hlt, hn, hc⟩⟩ := h
  · exact ⟨hl, hm, .inl k⟩
  · refine ⟨hl, hm, .inr ⟨b, off, rfl, by simp; omega, by simp; omega, fun i hi => ?_⟩⟩
    rw [hb.cell (p := ⟨b, off + i, none⟩) hlt]; exact hc i hi
/-- What DrawAdvance hands back. -/
def DrawnAdv (w : World) (e : Ending) (w' : World) : Prop :=
  ∃ nw ra n rc ts d, e = .returned (.tuple #[.agg #[.int .i64 nw, .slice ra n rc], .int .i64 d]) ∧ TimAt w' ra n ts ∧ n ≤ 40 ∧ Below w.heap.size w w'
abbrev BoxS (N : Nat) (v0 v1 : Value) (u : World) : Prop := u.cell? ⟨N, 0, none⟩ = some v0 ∧ u.cell? ⟨N, 1, none⟩ = some v1 ∧ Box2 N v0 v1 u
theorem Box2.sx {N : Nat} {v0 v1 : Value} {u : World} (h : Box2 N v0 v1 u) : BoxS N v0 v1 u := ⟨h.c0, h.c1, h⟩
theorem BoxS.drew {N : Nat} {v0 v1 : Value} {u : World} (h : BoxS N v0 v1 u) : BoxS N v0 v1 u.drew := (h.2.2.keep (Below.refl _ _).drew).sx
theorem BoxS.alloc {N : Nat} {v0 v1 : Value} {u : World} (h : BoxS N v0 v1 u) (o : Obj) : BoxS N v0 v1 (u.alloc o) := (h.2.2.alloc o).sx
theorem BoxS.draw {N : Nat} {v0 v1 : Value} {c : Nat} {a : Option Addr} {len cap : Nat} {u u' : World} (h : BoxS N v0 v1 u) (hd : Drawn c a len cap u u') (hn : N ≠ c) : BoxS N v0 v1 u' := (h.2.2.dr hd hn).sx
theorem BoxS.far2 {N M : Nat} {v0 v1 : Value} {u : World} (h : BoxS N v0 v1 u) (hM : N ≠ M) (x y : Value) : BoxS N v0 v1 ((u.setCell ⟨M, 0, none⟩ x).setCell ⟨M, 1, none⟩ y) := ((h.2.2.far M 0 hM x).far M 1 hM y).sx

set_option maxRecDepth 100000 in
set_option maxHeartbeats 2000000 in
theorem drawAdv_any (a : Option Addr) (len cap : Nat) (w : World) (hB : Bytes w.heap.size w a len cap) :
    Calls Try.prog 10 #[.slice a len cap] w fun e w' => DrawnAdv w e w' := by
  generalize hW0 : w.alloc (.cells #[.int .i64 0, .slice none 0 0] 26) = W0
  have s0 : W0.heap.size = w.heap.size + 1 := by subst hW0; simp
  have b0 : Below w.heap.size w W0 := by subst hW0; exact bl_alloc (Below.refl _ _) _
  have r0 : Box2 w.heap.size (.int .i64 0) (.slice none 0 0) W0 := by subst hW0; exact Box2.new w _ _ _
  have hB0 : Bytes W0.heap.size W0 a len cap := by subst hW0; exact bytes_up hB _
  have HN := hidOf (new_any a len cap W0 hB0)
  have HR := hidOf r0
  have HB0 := hidOf b0
  have HS := hidOf s0
  clear hB hB0 r0 b0 s0
  go_enter Try.func10, Try.ntmps10
  go_wp2_with fail
  refine HN.out.mono ?_
  rintro e w1 ⟨rfl, hC, hb1⟩
  have r1 := HR.out.keep hb1
  have hcl : w.heap.size < W0.heap.size := by rw [HS.out]; omega
  have b1 : Below w.heap.size w w1 := HB0.out.trans (hb1.mono (by omega))
  have HL := hidOf (l4Some_any a len cap W0.heap.size w1 hC)
  have HR1 := hidOf r1
  have HB1 := hidOf b1
  have hC0 := hC.lt
  clear hC hb1 r1 b1 HN
  go_wp2_with fail
  refine HL.out.mono ?_
  rintro e w2 ⟨nw, ra, n, rc, ts, rfl, hO, hn40, hd⟩
  have r2 := HR1.out.dr hd (by omega)
  have b2 : Below w.heap.size w w2 := HB1.out.trans (hd.ex.below (by omega) (Nat.le_of_lt HR1.out.lt))
  generalize hW3 : w2.alloc (.cells #[.int .i64 nw, .slice ra n rc] 26) = W3
  have b23 : Below w2.heap.size w2 W3 := by subst hW3; exact bl_alloc (Below.refl _ _) _
  have t3 : Box2 w2.heap.size (.int .i64 nw) (.slice ra n rc) W3 := by subst hW3; exact Box2.new w2 _ _ _
  have hS3 := t3.sx
  have hNc : w2.heap.size ≠ W0.heap.size := by have := hd.cur.lt; omega
  have hcs : w.heap.size ≠ W0.heap.size := by omega
  have hRN : w2.heap.size ≠ w.heap.size := by have := r2.lt; omega
  have hrow : ∀ i, i < 12 → ∃ v : Int, (W3.alloc (.cells #[.int .i64 0, .int .i64 1, .int .i64 2, .int .i64 3, .int .i64 5, .int .i64 8, .int .i64 15, .int .i64 20, .int .i64 21, .int .i64 (-1), .int .i64 9223372036854775807, .int .i64 1000000000] 3)).drew.cell? ⟨W3.heap.size, i, none⟩ = some (.int .i64 v) := row_ints W3 _ 3 12 (by rfl)
  have hcw := (hd.cur.keep b23).lt
  have hpk := hidOf (pickInt_any a len cap W0.heap.size W3.heap.size 12 (W3.alloc (.cells #[.int .i64 0, .int .i64 1, .int .i64 2, .int .i64 3, .int .i64 5, .int .i64 8, .int .i64 15, .int .i64 20, .int .i64 21, .int .i64 (-1), .int .i64 9223372036854775807, .int .i64 1000000000] 3)).drew (((hd.cur.keep b23).alloc _).drew) (by show W3.heap.size < (W3.alloc _).heap.size; simp) (by omega) (by omega) (by omega) hrow)
  have HO := hidOf (hO.keep b23)
  have HB3 := hidOf (b2.trans (b23.mono b2.size))
  have HR3 := hidOf (r2.keep b23)
  have hcl2 : W0.heap.size < w1.heap.size := hC0
  have hcl3 : w1.heap.size ≤ w2.heap.size := hd.ex.size
  clear hO hd r2 b2 t3 b23 HL hrow
  go_wp2_with fail
  go_region_held3 (fun w' => BoxS w2.heap.size (.int .i64 nw) (.slice ra n rc) w') (first | (with_reducible exact hS3.drew) | (with_reducible exact (hS3.alloc _).drew) | (with_reducible exact BoxS.draw (by assumption) hd4 hNc) | (with_reducible exact BoxS.far2 (by assumption) hRN _ _))
    (first
      | (go_at_call 34; refine hpk.out.mono ?_; rintro e w4 ⟨x, rfl, hd4⟩; have hr4 := (((HR3.out.alloc (.cells #[.int .i64 0, .int .i64 1, .int .i64 2, .int .i64 3, .int .i64 5, .int .i64 8, .int .i64 15, .int .i64 20, .int .i64 21, .int .i64 (-1), .int .i64 9223372036854775807, .int .i64 1000000000] 3)).keep (Below.refl _ _).drew)).dr hd4 hcs; obtain ⟨_, q0, q1, qf⟩ := id hr4))
  all_goals go_wp2
  all_goals
    have hO4 := ((HO.out.keep ((bl_alloc (Below.refl W3.heap.size W3) _).trans (Below.refl _ _).drew)).ex hd4.ex (by omega))
    have hO5 := (hO4.far w.heap.size 0 (by omega) (.int .i64 nw)).far w.heap.size 1 (by omega) (.slice ra n rc)
    have hB5 := ((HB3.out.trans (((bl_alloc (Below.refl W3.heap.size W3) _).trans (Below.refl _ _).drew).mono (by have := HR3.out.lt; omega))).trans (hd4.ex.below (B := w.heap.size) (by omega) (by show w.heap.size ≤ (W3.alloc _).heap.size; have := HR3.out.lt; simp; omega)))
    have hB6 := (hB5.setCell (p := ⟨w.heap.size, 0, none⟩) (Nat.le_refl _) (.int .i64 nw)).setCell (p := ⟨w.heap.size, 1, none⟩) (Nat.le_refl _) (.slice ra n rc)
    exact bodyPost_ret (v := .tuple #[.agg #[.int .i64 nw, .slice ra n rc], .int .i64 x]) (by simp [results, Try.results10, go_sem, q0, q1]) rfl ⟨_, _, _, _, _, _, rfl, hO5.tim, hn40, hB6⟩

theorem at_any (a : Option Addr) (len cap : Nat) (w : World) (hB : Bytes w.heap.size w a len cap) :
    Calls Try.prog 15 #[.slice a len cap, .int .i64 2] w fun e w' => (∃ x : Int, e = .returned (.int .i64 x) ∧ 0 ≤ x ∧ x ≤ 255) ∧ w' = w := by
  obtain ⟨hl, hm, hr⟩ := hB
  by_cases h : 2 < len
  · rcases hr with h0 | ⟨b, off, rfl, hb, hn, hc⟩
    · omega
    obtain ⟨x, hx, x0, x1⟩ := hc 2 h
    have h' : (2 : Int) < (len : Int) := by omega
    have hw : IntKind.i64.wrap x = x := wrap_small (by omega) (by omega)
    clear hc
    go_enter Try.func15, Try.ntmps15
    go_wp2
    go_ret
    exact ⟨⟨_, rfl, by omega, by omega⟩, rfl⟩
  · have h' : ¬ (2 : Int) < (len : Int) := by omega
    clear hr
    go_enter Try.func15, Try.ntmps15
    go_wp2
    go_ret
    exact ⟨⟨_, rfl, by omega, by omega⟩, rfl⟩
end Go.Proofs.Ytfahfbeemgigcaa
