/-
  The specification's draw of a timer to be set: a clock, a time, a token.
-/
import Derived.Test.YtfahfbeemgigcaaD3
namespace Go.Proofs.Ytfahfbeemgigcaa
open Go.RowKit Pl Dr Il Th

/-- What DrawSetTimer hands back. -/
def DrawnSet (w : World) (e : Ending) (w' : World) : Prop :=
  ∃ nw ra n rc ts i tok, e = .returned (.tuple #[.agg #[.int .i64 nw, .slice ra n rc], .int .i64 i, .int .i64 tok]) ∧ TimAt w' ra n ts ∧ n ≤ 40 ∧ Below w.heap.size w w'

set_option maxRecDepth 100000 in
set_option maxHeartbeats 2000000 in
theorem drawSet_any (a : Option Addr) (len cap : Nat) (w : World) (hB : Bytes w.heap.size w a len cap) :
    Calls Try.prog 16 #[.slice a len cap] w fun e w' => DrawnSet w e w' := by
  generalize hW0 : w.alloc (.cells #[.int .i64 0, .slice none 0 0] 26) = W0
  have s0 : W0.heap.size = w.heap.size + 1 := by subst hW0; simp
  have b0 : Below w.heap.size w W0 := by subst hW0; exact bl_alloc (Below.refl _ _) _
  have r0 : Box2 w.heap.size (.int .i64 0) (.slice none 0 0) W0 := by subst hW0; exact Box2.new w _ _ _
  have hB0 : Bytes W0.heap.size W0 a len cap := by subst hW0; exact bytes_up hB _
  have HN := hidOf (new_any a len cap W0 hB0)
  have HR := hidOf r0
  have HB0 := hidOf b0
  have HS := hidOf s0
  clear hB hB0 r0 b0 s0
  go_enter Try.func16, Try.ntmps16
  go_wp2_with fail
  refine HN.out.mono ?_
  rintro e w1 ⟨rfl, hC, hb1⟩
  have r1 := HR.out.keep hb1
  have hcl : w.heap.size < W0.heap.size := by rw [HS.out]; omega
  have b1 : Below w.heap.size w w1 := HB0.out.trans (hb1.mono (by omega))
  have HL := hidOf (l4Some_any a len cap W0.heap.size w1 hC)
  have HR1 := hidOf r1
  have HB1 := hidOf b1
  have hC0 := hC.lt
  clear hC hb1 r1 b1 HN
  go_wp2_with fail
  refine HL.out.mono ?_
  rintro e w2 ⟨nw, ra, n, rc, ts, rfl, hO, hn40, hd⟩
  have r2 := HR1.out.dr hd (by omega)
  have b2 : Below w.heap.size w w2 := HB1.out.trans (hd.ex.below (by omega) (Nat.le_of_lt HR1.out.lt))
  generalize hW3 : w2.alloc (.cells #[.int .i64 nw, .slice ra n rc] 26) = W3
  have b23 : Below w2.heap.size w2 W3 := by subst hW3; exact bl_alloc (Below.refl _ _) _
  have t3 : Box2 w2.heap.size (.int .i64 nw) (.slice ra n rc) W3 := by subst hW3; exact Box2.new w2 _ _ _
  have hNc : w2.heap.size ≠ W0.heap.size := by have := hd.cur.lt; omega
  have hcs : w.heap.size ≠ W0.heap.size := by omega
  have hRN : w2.heap.size ≠ w.heap.size := by have := r2.lt; omega
  have hrow : ∀ i, i < 12 → ∃ v : Int, (W3.alloc (.cells #[.int .i64 0, .int .i64 1, .int .i64 2, .int .i64 5, .int .i64 9, .int .i64 15, .int .i64 20, .int .i64 21, .int .i64 100, .int .i64 1000000000, .int .i64 9223372036854775807, .int .i64 (-1)] 3)).cell? ⟨W3.heap.size, i, none⟩ = some (.int .i64 v) := row_ints W3 _ 3 12 (by rfl)
  have hcw := (hd.cur.keep b23).lt
  have hpk := hidOf (pickInt_any a len cap W0.heap.size W3.heap.size 12 (W3.alloc (.cells #[.int .i64 0, .int .i64 1, .int .i64 2, .int .i64 5, .int .i64 9, .int .i64 15, .int .i64 20, .int .i64 21, .int .i64 100, .int .i64 1000000000, .int .i64 9223372036854775807, .int .i64 (-1)] 3)) ((hd.cur.keep b23).alloc _) (by show W3.heap.size < (W3.alloc _).heap.size; simp) (by omega) (by omega) (by omega) hrow)
  have HO := hidOf (hO.keep b23)
  have HB3 := hidOf (b2.trans (b23.mono b2.size))
  have HR3 := hidOf (r2.keep b23)
  have HT3 := hidOf t3
  have hcl2 : W0.heap.size < w1.heap.size := hC0
  have hcl3 : w1.heap.size ≤ w2.heap.size := hd.ex.size
  clear hO hd r2 b2 t3 b23 HL hrow
  go_wp2_with fail
  refine hpk.out.mono ?_
  rintro e w4 ⟨i4, rfl, hd4⟩
  have hO4 := ((HO.out.keep (bl_alloc (Below.refl W3.heap.size W3) (.cells #[.int .i64 0, .int .i64 1, .int .i64 2, .int .i64 5, .int .i64 9, .int .i64 15, .int .i64 20, .int .i64 21, .int .i64 100, .int .i64 1000000000, .int .i64 9223372036854775807, .int .i64 (-1)] 3))).ex hd4.ex (by omega))
  have hR4 := (HR3.out.alloc (.cells #[.int .i64 0, .int .i64 1, .int .i64 2, .int .i64 5, .int .i64 9, .int .i64 15, .int .i64 20, .int .i64 21, .int .i64 100, .int .i64 1000000000, .int .i64 9223372036854775807, .int .i64 (-1)] 3)).dr hd4 hcs
  have hT4 := (HT3.out.alloc (.cells #[.int .i64 0, .int .i64 1, .int .i64 2, .int .i64 5, .int .i64 9, .int .i64 15, .int .i64 20, .int .i64 21, .int .i64 100, .int .i64 1000000000, .int .i64 9223372036854775807, .int .i64 (-1)] 3)).dr hd4 hNc
  have hs4 : W3.heap.size ≤ w4.heap.size := Nat.le_trans (by simp) hd4.ex.size
  have hB4 := (HB3.out.trans ((bl_alloc (Below.refl W3.heap.size W3) (.cells #[.int .i64 0, .int .i64 1, .int .i64 2, .int .i64 5, .int .i64 9, .int .i64 15, .int .i64 20, .int .i64 21, .int .i64 100, .int .i64 1000000000, .int .i64 9223372036854775807, .int .i64 (-1)] 3)).mono (by have := HR3.out.lt; omega))).trans (hd4.ex.below (B := w.heap.size) (by omega) (by show w.heap.size ≤ (W3.alloc _).heap.size; have := HR3.out.lt; simp; omega))
  have hS4 := hT4.sx
  have hC4 := hd4.cur
  have hrow7 : ∀ i, i < 7 → ∃ v : Int, (w4.alloc (.cells #[.int .i64 0, .int .i64 1, .int .i64 2, .int .i64 3, .int .i64 23, .int .i64 24, .int .i64 (-1)] 3)).drew.cell? ⟨w4.heap.size, i, none⟩ = some (.int .i64 v) := row_ints w4 _ 3 7 (by rfl)
  have hcw4 := hC4.lt
  have hp7 := hidOf (pickInt_any a len cap W0.heap.size w4.heap.size 7 (w4.alloc (.cells #[.int .i64 0, .int .i64 1, .int .i64 2, .int .i64 3, .int .i64 23, .int .i64 24, .int .i64 (-1)] 3)).drew ((hC4.alloc _).drew) (by show w4.heap.size < (w4.alloc _).heap.size; simp) (by omega) (by omega) (by omega) hrow7)
  have HO4 := hidOf hO4
  have HR4 := hidOf hR4
  have HB4 := hidOf hB4
  clear hO4 hR4 hT4 hB4 hd4 hC4 hrow7 hpk HO HB3 HR3 HT3
  go_wp2_with fail
  go_region_held3 (fun w' => BoxS w2.heap.size (.int .i64 nw) (.slice ra n rc) w') (first | (with_reducible exact hS4.drew) | (with_reducible exact (hS4.alloc _).drew) | (with_reducible exact BoxS.draw (by assumption) hd5 hNc) | (with_reducible exact BoxS.far2 (by assumption) hRN _ _))
    (first
      | (go_at_call 34; refine hp7.out.mono ?_; rintro e w5 ⟨x, rfl, hd5⟩; have hr5 := (((HR4.out.alloc (.cells #[.int .i64 0, .int .i64 1, .int .i64 2, .int .i64 3, .int .i64 23, .int .i64 24, .int .i64 (-1)] 3)).keep (Below.refl _ _).drew)).dr hd5 hcs; obtain ⟨_, q0, q1, qf⟩ := id hr5))
  all_goals go_wp2
  all_goals
    have hO5 := ((HO4.out.keep ((bl_alloc (Below.refl w4.heap.size w4) _).trans (Below.refl _ _).drew)).ex hd5.ex (by omega))
    have hO6 := (hO5.far w.heap.size 0 (by omega) (.int .i64 nw)).far w.heap.size 1 (by omega) (.slice ra n rc)
    have hB5 := ((HB4.out.trans (((bl_alloc (Below.refl w4.heap.size w4) _).trans (Below.refl _ _).drew).mono (by have := HR4.out.lt; omega))).trans (hd5.ex.below (B := w.heap.size) (by omega) (by show w.heap.size ≤ (w4.alloc _).heap.size; have := HR4.out.lt; simp; omega)))
    have hB6 := (hB5.setCell (p := ⟨w.heap.size, 0, none⟩) (Nat.le_refl _) (.int .i64 nw)).setCell (p := ⟨w.heap.size, 1, none⟩) (Nat.le_refl _) (.slice ra n rc)
    exact bodyPost_ret (v := .tuple #[.agg #[.int .i64 nw, .slice ra n rc], .int .i64 i4, .int .i64 x]) (by simp [results, Try.results16, go_sem, q0, q1]) rfl ⟨_, _, _, _, _, _, _, rfl, hO6.tim, hn40, hB6⟩
end Go.Proofs.Ytfahfbeemgigcaa
