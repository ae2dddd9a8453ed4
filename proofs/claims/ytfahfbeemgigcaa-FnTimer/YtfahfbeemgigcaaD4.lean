/-
  Walks of what the laws on clocks ask besides: are two clocks the same, a byte of the code.
-/
import Derived.Test.YtfahfbeemgigcaaLC1
import Derived.Test.YtfahfbeemgigcaaW1
import Derived.Laws.StructEq
namespace Go.Proofs.Ytfahfbeemgigcaa
open Go.RowKit Pl Il

theorem eqT36 (a b c d : Int) (w : World) : (Op.equalIn 10000 36 (.agg #[.int .i64 a, .int .i64 b]) (.agg #[.int .i64 c, .int .i64 d])).run Try.prog w = .ok (a == c && b == d) w := by
  have u3 := Try.underlying3
  have a3 := Try.isAgg3
  have z3 := Try.sizeOf3
  have hS : Try.prog.underlying 36 = some (.struct (Try.prog.fieldsOf 36)) := by kernel_rfl
  have hp : Try.prog.stoodInHeld 36 = false := by kernel_rfl
  rw [show (10000 : Nat) = 9999 + 1 from rfl, run_equalIn_agg w 9999 36 _ _ hS hp]
  simp only [Program.fieldsOf, Try.underlying36]
  go_simp
  by_cases h1 : a = c <;> by_cases h2 : b = d <;> simp [h1, h2]
theorem neqT36 (p q : Int × Int) (w : World) : (binOp .neq 36 (.agg #[.int .i64 p.1, .int .i64 p.2]) (.agg #[.int .i64 q.1, .int .i64 q.2])).run Try.prog w = .ok (.bool (!decide (p = q))) w := by
  rw [run_neq_struct, eqT36]
  obtain ⟨a, b⟩ := p
  obtain ⟨c, d⟩ := q
  simp only [Result.andThen]
  congr 2
  by_cases h1 : a = c <;> by_cases h2 : b = d <;> simp [h1, h2]

set_option maxHeartbeats 2000000 in
theorem l15Clock_any (now now' : Int) (a a' : Option Addr) (n n' cap cap' : Nat) (xs ys : List (Int × Int)) (w : World) (hI : TimAt w a n xs) (hJ : TimAt w a' n' ys) (hn : n ≤ 2097152) (hn' : n' ≤ 2097152) :
    Calls Try.prog 40 #[.agg #[.int .i64 now, .slice a n cap], .agg #[.int .i64 now', .slice a' n' cap']] w fun e w' => e = .returned (.bool (decide (now = now') && eqTL xs ys)) ∧ Below w.heap.size w w' := by
  generalize hW0 : w.alloc (.cells #[.int .i64 now, .slice a n cap] 26) = W0
  generalize hW1 : W0.alloc (.cells #[.int .i64 now', .slice a' n' cap'] 26) = W1
  have B0 : Below w.heap.size w W0 := by subst hW0; exact bl_alloc (Below.refl _ _) _
  have B1 : Below w.heap.size w W1 := by subst hW1; exact bl_alloc B0 _
  have s0 : W0.heap.size = w.heap.size + 1 := by subst hW0; simp
  have x0 : Box2 w.heap.size (.int .i64 now) (.slice a n cap) W1 := by subst hW1 hW0; exact (Box2.new w _ _ _).alloc _
  have x1 : Box2 (w.heap.size + 1) (.int .i64 now') (.slice a' n' cap') W1 := by subst hW1; rw [← s0]; exact Box2.new W0 _ _ _
  have k1 := hI.keep B1
  have k2 := hJ.keep B1
  obtain ⟨_, p0, p1, _⟩ := id x0
  obtain ⟨_, q0, q1, _⟩ := id x1
  by_cases hq : now = now'
  · have hq' : (now != now') = false := by simp [hq]
    have hd : decide (now = now') = true := by simp [hq]
    rw [hd, Bool.true_and]
    clear hq hd
    by_cases hl : n = n'
    · subst hl
      have hnn : ((n : Int) != (n : Int)) = false := by simp
      by_cases h0 : n = 0
      · have e1 : xs = [] := List.length_eq_zero_iff.1 (by rw [hI.len]; exact h0)
        have e2 : ys = [] := List.length_eq_zero_iff.1 (by rw [hJ.len]; exact h0)
        subst e1 e2 h0
        clear hI hJ k1 k2 x0 x1
        go_enter Try.func40, Try.ntmps40
        go_wp2
        go_loop [5] (fun i => i = .int .i64 0) (fun _ => 0)
        case atStart => rfl
        case round =>
          subst hrel
          go_wp2
          go_ret
          exact ⟨rfl, B1⟩
      · obtain ⟨hlen, h' | ⟨b, off, rfl, hb, hcell⟩⟩ := k1
        · omega
        obtain ⟨hlen', h' | ⟨b', off', rfl, hb', hcell'⟩⟩ := k2
        · omega
        have HL := hidOf hlen
        have HL' := hidOf hlen'
        have X0 := hidOf x0
        have X1 := hidOf x1
        clear hlen hlen' hI hJ x0 x1
        go_enter Try.func40, Try.ntmps40
        go_wp2
        go_loopw [5] (fun i wr => ∃ k q : Nat, k ≤ n ∧ i = .int .i64 k ∧ xs.take k = ys.take k ∧ wr = W1.drewN q) (fun i _ => n - (intOf i).toNat)
        case atStart => exact ⟨0, 0, Nat.zero_le _, rfl, rfl, rfl⟩
        case round =>
          obtain ⟨k, q, hk, rfl, hno, rfl⟩ := hrel
          have Hno := hidOf hno
          clear hno
          by_cases hlt : k < n
          · obtain ⟨c1, c2⟩ := hcell k hlt
            obtain ⟨d1, d2⟩ := hcell' k hlt
            have hki : (0 : Int) ≤ (k : Int) ∧ (k : Int) < (n : Int) := by omega
            have hne := neqT36 (tg xs k) (tg ys k)
            obtain ⟨x, hx⟩ : ∃ x, tg xs k = x := ⟨_, rfl⟩
            obtain ⟨y, hy⟩ : ∃ y, tg ys k = y := ⟨_, rfl⟩
            rw [hx] at c1 c2 hne
            rw [hy] at d1 d2 hne
            have HX := hidOf hx
            have HY := hidOf hy
            clear hcell hcell' hx hy
            by_cases hxy : x = y
            · have hd : (!decide (x = y)) = false := by simp [hxy]
              rw [hd] at hne
              have Hxy := hidOf hxy
              clear hd hxy
              go_wp2
              go_quiet (fail)
              go_wp2
              go_roundw
              case rel => exact ⟨k + 1, _, by omega, by go_num, eqT_step (by have := HL.out; omega) (by have := HL'.out; omega) Hno.out (by rw [HX.out, HY.out]; exact Hxy.out), rfl⟩
              case measure => simp [intOf]; omega
            · have hd : (!decide (x = y)) = true := by simp [hxy]
              rw [hd] at hne
              have Hxy := hidOf hxy
              clear hd hxy
              go_wp2
              go_quiet (fail)
              go_wp2
              go_ret
              exact ⟨rbool (eqT_no (k := k) (by rw [HX.out, HY.out]; exact Hxy.out)).symm, bl_drewN (bl_drewN B1 _) _⟩
          · clear hcell hcell'
            have hki : ¬ (k : Int) < (n : Int) := by omega
            go_wp2
            go_ret
            exact ⟨rbool (eqT_end (by have := HL.out; have := HL'.out; omega) (by have := HL.out; omega) Hno.out).symm, bl_drewN B1 _⟩
    · have hne : ((n : Int) != (n' : Int)) = true := by simp; omega
      have hq := eqT_len (xs := xs) (ys := ys) (by rw [hI.len, hJ.len]; exact hl)
      clear hI hJ k1 k2 x0 x1
      go_enter Try.func40, Try.ntmps40
      go_wp2
      go_ret
      exact ⟨rbool hq.symm, B1⟩
  · have hq' : (now != now') = true := by simp [hq]
    have hd : decide (now = now') = false := by simp [hq]
    rw [hd, Bool.false_and]
    clear hq hd k1 k2 x0 x1 hI hJ
    go_enter Try.func40, Try.ntmps40
    go_wp2
    go_ret
    exact ⟨rfl, B1⟩
theorem clockSame_any (now now' : Int) (a a' : Option Addr) (n n' cap cap' : Nat) (xs ys : List (Int × Int)) (w : World) (hI : TimAt w a n xs) (hJ : TimAt w a' n' ys) (hn : n ≤ 2097152) (hn' : n' ≤ 2097152) :
    Calls Try.prog 14 #[.agg #[.int .i64 now, .slice a n cap], .agg #[.int .i64 now', .slice a' n' cap']] w fun e w' => e = .returned (.bool (decide (now = now') && eqTL xs ys)) ∧ Below w.heap.size w w' := by
  have B1 : Below w.heap.size w ((w.alloc (.cells #[.int .i64 now, .slice a n cap] 26)).alloc (.cells #[.int .i64 now', .slice a' n' cap'] 26)) := bl_alloc (bl_alloc (Below.refl _ _) _) _
  have hc := hidOf (l15Clock_any now now' a a' n n' cap cap' xs ys _ (hI.keep B1) (hJ.keep B1) hn hn')
  clear hI hJ
  generalize (decide (now = now') && eqTL xs ys) = r at *
  go_enter Try.func14, Try.ntmps14
  go_wp2_with fail
  refine (hc.out).mono ?_
  rintro e w1 ⟨rfl, hb1⟩
  have hB := bl_trans B1 hb1
  clear hc hb1 B1
  go_wp2
  go_ret
  exact ⟨rfl, hB⟩
end Go.Proofs.Ytfahfbeemgigcaa
