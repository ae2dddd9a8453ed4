/-
  Walks of the specification's clocks: right or not, a copy.
-/
import Derived.Test.YtfahfbeemgigcaaCM
import Derived.Test.YtfahfbeemgigcaaCC
namespace Go.Proofs.Ytfahfbeemgigcaa
open Go.RowKit Pl Il Th

/-- Is it between the two? -/
def inB (x lo hi : Int) : Bool := decide (lo ≤ x) && decide (x ≤ hi)
theorem inB_true {x lo hi : Int} : inB x lo hi = true ↔ lo ≤ x ∧ x ≤ hi := by simp [inB]
theorem inB_false {x lo hi : Int} : inB x lo hi = false ↔ ¬ (lo ≤ x ∧ x ≤ hi) := by rw [← inB_true]; simp
theorem l1In_any (x lo hi : Int) (w : World) :
    Calls Try.prog 44 #[.int .i64 x, .int .i64 lo, .int .i64 hi] w fun e w' => e = .returned (.bool (inB x lo hi)) ∧ w' = w := by
  go_enter Try.func44, Try.ntmps44
  go_wp2
  all_goals go_ret
  all_goals (refine ⟨rbool ?_, rfl⟩; rw [Bool.eq_iff_iff]; simp [inB]; try omega)
theorem lastAt_take {m : Int} {ts : List (Int × Int)} {k : Nat} (h : k < ts.length) : lastAt m (ts.take (k + 1)) = (tg ts k).1 := by
  rw [take_tg h, lastAt_snoc]
theorem ok_bad_at {now : Int} {ts : List (Int × Int)} {k : Nat} (hk : k < ts.length) (h : okOne (lastAt (now + 1) (ts.take k)) (tg ts k) = false) : okClock now ts = false := by
  have e : okL (now + 1) (ts.take (k + 1)) = false := by rw [take_tg hk, okL_snoc, h]; simp
  unfold okClock; rw [okL_bad e]; simp
theorem ok_step {now : Int} {ts : List (Int × Int)} {k : Nat} (hk : k < ts.length) (h0 : okL (now + 1) (ts.take k) = true) (h : okOne (lastAt (now + 1) (ts.take k)) (tg ts k) = true) : okL (now + 1) (ts.take (k + 1)) = true := by
  rw [take_tg hk, okL_snoc, h0, h]; rfl
theorem okOne_not {m : Int} {p : Int × Int} (h : ¬ (m ≤ p.1 ∧ p.1 ≤ 1000000000 ∧ 0 ≤ p.2 ∧ p.2 ≤ 23)) : okOne m p = false := by
  cases e : okOne m p with
  | false => rfl
  | true => exact absurd ((okOne_iff m p).1 e) h
theorem okC_no_now {now : Int} {ts : List (Int × Int)} (h : ¬ (0 ≤ now ∧ now ≤ 1000000000) ∨ 40 < ts.length) : okClock now ts = false := by
  unfold okClock
  rcases h with h | h
  · have e : (decide (0 ≤ now) && decide (now ≤ 1000000000)) = false := inB_false.2 h
    rw [e]; simp
  · rw [decide_eq_false (by omega : ¬ ts.length ≤ 40)]; simp
theorem okC_yes {now : Int} {ts : List (Int × Int)} {k : Nat} (h0 : 0 ≤ now ∧ now ≤ 1000000000) (h2 : ts.length ≤ 40) (hk : ts.length ≤ k) (h : okL (now + 1) (ts.take k) = true) : okClock now ts = true := by
  rw [List.take_of_length_le hk] at h
  unfold okClock
  rw [decide_eq_true h0.1, decide_eq_true h0.2, decide_eq_true h2, h]; rfl

set_option maxRecDepth 100000 in
set_option maxHeartbeats 4000000 in
theorem specClockOk_any (now : Int) (a : Option Addr) (n cap : Nat) (ts : List (Int × Int)) (w : World) (hI : TimAt w a n ts) (hn : n ≤ 9223372036854775807) :
    Calls Try.prog 22 #[.agg #[.int .i64 now, .slice a n cap]] w fun e w' => e = .returned (.bool (okClock now ts)) ∧ Below w.heap.size w w' := by
  generalize hW : w.alloc (.cells #[.int .i64 now, .slice a n cap] 26) = W
  have b0 : Below w.heap.size w W := by subst hW; exact bl_alloc (Below.refl _ _) _
  have x0 : Box2 w.heap.size (.int .i64 now) (.slice a n cap) W := by subst hW; exact Box2.new w _ _ _
  obtain ⟨xl, p0, p1, _⟩ := id x0
  have hlen := hI.len
  by_cases hnow : 0 ≤ now ∧ now ≤ 1000000000
  · have hin : inB now 0 1000000000 = true := inB_true.2 hnow
    by_cases h40 : (40 : Int) < (n : Int)
    · have hres := hidOf (okC_no_now (now := now) (ts := ts) (.inr (by omega)))
      clear hI hlen x0 hnow xl
      go_enter Try.func22, Try.ntmps22
      go_wp2_with fail
      refine (l1In_any now 0 1000000000 _).mono ?_
      rintro e w1 ⟨rfl, rfl⟩
      rw [hin]
      go_wp2
      go_ret
      exact ⟨rbool hres.out.symm, b0⟩
    · have HI := hidOf (hI.keep b0)
      have HL := hidOf hlen
      have X0 := hidOf x0
      have HNow := hidOf hnow
      have B0 := hidOf b0
      clear hI hlen x0 hnow xl b0
      go_enter Try.func22, Try.ntmps22
      go_wp2_with fail
      refine (l1In_any now 0 1000000000 _).mono ?_
      rintro e w1 ⟨rfl, rfl⟩
      rw [hin]
      go_wp2_with fail
      clear hin p0 p1 hW
      go_loopw [3] (fun i wr => ∃ (k : Nat), k ≤ n ∧ i = .int .i64 k ∧ okL (now + 1) (ts.take k) = true ∧ Below w1.heap.size w1 wr) (fun i _ => n - (intOf i).toNat)
      case atStart => exact ⟨0, Nat.zero_le _, rfl, rfl, Below.refl _ _⟩
      case round =>
        rename_i wr
        obtain ⟨k, hk, rfl, hok, hB⟩ := hrel
        have HOK := hidOf hok
        have HB := hidOf hB
        obtain ⟨_, q0, q1, _⟩ := X0.out.keep hB
        clear hok
        by_cases hlt : k < n
        · obtain ⟨_, h' | ⟨b, off, e, hb, hcell⟩⟩ := HI.out.keep hB
          · omega
          subst e
          have hkl : k < ts.length := by rw [HL.out]; exact hlt
          have hki : (0 : Int) ≤ (k : Int) ∧ (k : Int) < (n : Int) := by omega
          obtain ⟨c1, c2⟩ := hcell k hlt
          have hla := lastAt_le HOK.out
          have hnok : okOne (lastAt (now + 1) (ts.take k)) (tg ts k) = false → okClock now ts = false := ok_bad_at hkl
          have HNO := hidOf hnok
          have HLa := hidOf hla
          have hBA : Below w1.heap.size w1 (wr.alloc (.cells #[.int .i64 (tg ts k).1, .int .i64 (tg ts k).2] 36)) := bl_trans HB.out (bl_alloc (Below.refl _ _) _)
          obtain ⟨y, hy⟩ : ∃ y, tg ts k = y := ⟨_, rfl⟩
          rw [hy] at c1 c2 hBA
          have HY := hidOf hy
          have HBA := hidOf hBA
          have HCell := hidOf hcell
          have d0 : ∀ o, (wr.alloc o).cell? ⟨w.heap.size, 0, none⟩ = some (.int .i64 now) := fun o => by rw [World.cell?_alloc_old _ _ _ (Nat.ne_of_lt (World.block_lt_of_cell? wr _ q0))]; exact q0
          have d1 : ∀ o, (wr.alloc o).cell? ⟨w.heap.size, 1, none⟩ = some (.slice (some ⟨b, off, none⟩) n cap) := fun o => by rw [World.cell?_alloc_old _ _ _ (Nat.ne_of_lt (World.block_lt_of_cell? wr _ q1))]; exact q1
          clear hcell hy hB hla hnok hBA hkl
          by_cases t1 : y.1 ≤ now
          · have hres := hidOf (HNO.out (okOne_not (by rw [HY.out]; have := HLa.out; omega)))
            go_wp2_with fail
            skip
            go_quiet ((first | (go_at_call 44; exact Calls.quiet_of_same (l1In_any _ _ _ _))))
            go_wp2
            go_ret
            exact ⟨rbool hres.out.symm, B0.out.trans ((bl_drewN HBA.out _).mono B0.out.size)⟩
          · have T1 := hidOf t1
            by_cases t2 : 1000000000 < y.1
            · have hres := hidOf (HNO.out (okOne_not (by rw [HY.out]; omega)))
              go_wp2_with fail
              have u1 : ¬ y.1 ≤ now := (by have := T1.out; omega)
              go_quiet ((first | (go_at_call 44; exact Calls.quiet_of_same (l1In_any _ _ _ _))))
              go_wp2
              go_ret
              exact ⟨rbool hres.out.symm, B0.out.trans ((bl_drewN HBA.out _).mono B0.out.size)⟩
            · have T2 := hidOf t2
              cases t3 : inB y.2 0 23
              · have hres := hidOf (HNO.out (okOne_not (by rw [HY.out]; have := inB_false.1 t3; omega)))
                go_wp2_with fail
                have u1 : ¬ y.1 ≤ now := (by have := T1.out; omega); have u2 : ¬ 1000000000 < y.1 := (by have := T2.out; omega)
                go_quiet ((first | (go_at_call 44; exact Calls.quiet_of_same (l1In_any _ _ _ _))))
                go_wp2
                go_ret
                exact ⟨rbool hres.out.symm, B0.out.trans ((bl_drewN HBA.out _).mono B0.out.size)⟩
              · have ht3 := hidOf (inB_true.1 t3)
                cases k with
                | zero =>
                  simp only [Nat.zero_mul, Nat.add_zero] at c1 c2
                  have hnext := hidOf (ok_step (by have := HL.out; omega) HOK.out (by rw [HY.out]; exact (okOne_iff _ _).2 ⟨by simp [lastAt]; omega, by omega, ht3.out.1, ht3.out.2⟩))
                  go_wp2_with fail
                  have u1 : ¬ y.1 ≤ now := (by have := T1.out; omega)
                  have u2 : ¬ 1000000000 < y.1 := (by have := T2.out; omega)
                  go_quiet ((first | (go_at_call 44; exact Calls.quiet_of_same (l1In_any _ _ _ _))))
                  go_wp2
                  go_roundw
                  case rel => exact ⟨1, by omega, by go_num, hnext.out, bl_drewN HBA.out _⟩
                  case measure => simp [intOf]; omega
                | succ k' =>
                  have hk0 : k' < n := by omega
                  obtain ⟨z1, _⟩ := HCell.out k' hk0
                  have hprev := lastAt_take (m := now + 1) (ts := ts) (k := k') (by have := HL.out; omega)
                  obtain ⟨z, hz⟩ : ∃ z, tg ts k' = z := ⟨_, rfl⟩
                  rw [hz] at z1 hprev
                  have HPr := hidOf hprev
                  have z1' : ∀ o, (wr.alloc o).cell? ⟨b, off + k' * 2, none⟩ = some (.int .i64 z.1) := fun o => by rw [World.cell?_alloc_old _ _ _ (Nat.ne_of_lt (World.block_lt_of_cell? wr _ z1))]; exact z1
                  have hkp : (0 : Int) < ((k' : Int) + 1) := by omega
                  have hkk : (0 : Int) ≤ (k' : Int) ∧ (k' : Int) < (n : Int) := by omega
                  clear hprev hz
                  by_cases t4 : y.1 < z.1
                  · have hres := hidOf (HNO.out (okOne_not (by rw [HY.out, HPr.out]; omega)))
                    go_wp2_with fail
                    have u1 : ¬ y.1 ≤ now := (by have := T1.out; omega); have u2 : ¬ 1000000000 < y.1 := (by have := T2.out; omega)
                    go_quiet ((first | (go_at_call 44; exact Calls.quiet_of_same (l1In_any _ _ _ _))))
                    go_wp2
                    go_ret
                    exact ⟨rbool hres.out.symm, B0.out.trans ((bl_drewN HBA.out _).mono B0.out.size)⟩
                  · have hnext := hidOf (ok_step (by have := HL.out; omega) HOK.out (by rw [HY.out, HPr.out]; exact (okOne_iff _ _).2 ⟨by omega, by omega, ht3.out.1, ht3.out.2⟩))
                    have T4 := hidOf t4
                    go_wp2_with fail
                    have u1 : ¬ y.1 ≤ now := (by have := T1.out; omega)
                    have u2 : ¬ 1000000000 < y.1 := (by have := T2.out; omega)
                    have u4 : ¬ y.1 < z.1 := (by have := T4.out; omega)
                    go_quiet ((first | (go_at_call 44; exact Calls.quiet_of_same (l1In_any _ _ _ _))))
                    go_wp2
                    go_roundw
                    case rel => exact ⟨k' + 1 + 1, by omega, by go_num, hnext.out, bl_drewN HBA.out _⟩
                    case measure => simp [intOf]; omega
        · have hres := hidOf (okC_yes (k := k) HNow.out (by have := HL.out; omega) (by have := HL.out; omega) HOK.out)
          have hki : ¬ (k : Int) < (n : Int) := by omega
          clear hB
          go_wp2
          go_ret
          exact ⟨rbool hres.out.symm, B0.out.trans (HB.out.mono B0.out.size)⟩
  · have hin : inB now 0 1000000000 = false := inB_false.2 hnow
    have hres := hidOf (okC_no_now (now := now) (ts := ts) (.inl hnow))
    clear hI hlen x0 hnow xl
    go_enter Try.func22, Try.ntmps22
    go_wp2_with fail
    refine (l1In_any now 0 1000000000 _).mono ?_
    rintro e w1 ⟨rfl, rfl⟩
    rw [hin]
    go_wp2
    go_ret
    exact ⟨rbool hres.out.symm, b0⟩
end Go.Proofs.Ytfahfbeemgigcaa
