/-
  Walks of the laws' own helpers on lists of numbers: too long, the same, within; and of the specification's.
-/
import Derived.Test.YtigmcbgcdjofjaaH1
namespace Go.Proofs.Ytigmcbgcdjofjaa
open Go.RowKit Pl Il

theorem big_any (a : Option Addr) (n cap : Nat) (w : World) :
    Calls Try.prog 11 #[.slice a n cap] w fun e w' => e = .returned (.bool (decide (1048576 < n))) ∧ w' = w := by
  go_enter Try.func11, Try.ntmps11
  go_wp2
  go_ret
  refine ⟨rbool ?_, rfl⟩
  rw [Bool.eq_iff_iff]; simp; try omega
theorem sameInts_any (a a' : Option Addr) (n n' cap cap' : Nat) (xs ys : List Int) (w : World) (hI : IntsAt w a n xs) (hJ : IntsAt w a' n' ys) (hn : n ≤ 2097152) (hn' : n' ≤ 2097152) :
    Calls Try.prog 15 #[.slice a n cap, .slice a' n' cap'] w fun e w' => e = .returned (.bool (eqL xs ys)) ∧ Below w.heap.size w w' := by
  by_cases hl : n = n'
  · subst hl
    obtain ⟨hlen, rfl | ⟨b, off, rfl, hb, hcell⟩⟩ := hI
    · have : xs = [] := List.length_eq_zero_iff.1 hlen
      have e2 : ys = [] := List.length_eq_zero_iff.1 hJ.len
      subst this e2
      go_enter Try.func15, Try.ntmps15
      go_wp2
      go_loop [5] (fun i => i = .int .i64 0) (fun _ => 0)
      case atStart => rfl
      case round =>
        subst hrel
        go_wp2
        go_ret
        exact ⟨rfl, Below.refl _ _⟩
    · obtain ⟨hlen', rfl | ⟨b', off', rfl, hb', hcell'⟩⟩ := hJ
      · have : xs = [] := List.length_eq_zero_iff.1 hlen
        have e2 : ys = [] := List.length_eq_zero_iff.1 hlen'
        subst this e2
        go_enter Try.func15, Try.ntmps15
        go_wp2
        go_loop [5] (fun i => i = .int .i64 0) (fun _ => 0)
        case atStart => rfl
        case round =>
          subst hrel
          go_wp2
          go_ret
          exact ⟨rfl, Below.refl _ _⟩
      · go_enter Try.func15, Try.ntmps15
        go_wp2
        go_loopw [5] (fun i wr => ∃ k : Nat, k ≤ n ∧ i = .int .i64 k ∧ xs.take k = ys.take k ∧ ∃ q, wr = w.drewN q) (fun i _ => n - (intOf i).toNat)
        case atStart => exact ⟨0, Nat.zero_le _, rfl, rfl, 0, rfl⟩
        case round =>
          obtain ⟨k, hk, rfl, hno, q, rfl⟩ := hrel
          have Hno : Hid _ := hno
          clear hno
          by_cases hlt : k < n
          · have hc := hcell k hlt
            have hc' := hcell' k hlt
            generalize hy : xs.getD k 0 = y at hc
            generalize hz : ys.getD k 0 = z at hc'
            have HY : Hid _ := hy
            have HZ : Hid _ := hz
            clear hy hz hcell hcell'
            have hki : (k : Int) < (n : Int) := by omega
            cases hyz : (y != z)
            · go_wp2
              go_quiet (fail)
              go_wp2
              go_roundw
              case rel => exact ⟨k + 1, by omega, by go_num, eq_step (by omega) (by omega) Hno.out (by rw [HY.out, HZ.out]; exact hyz), _, rfl⟩
              case measure => simp [intOf]; omega
            · go_wp2
              go_quiet (fail)
              go_wp2
              go_ret
              exact ⟨rbool (eq_no (k := k) (by rw [HY.out, HZ.out]; exact hyz)).symm, bl_drewN (bl_drewN (Below.refl _ _) _) _⟩
          · clear hcell hcell'
            go_wp2
            go_ret
            exact ⟨rbool (eq_end (by omega) (by omega) Hno.out).symm, bl_drewN (Below.refl _ _) _⟩
  · have hne : ((n : Int) != (n' : Int)) = true := by simp; omega
    have hq := eq_len (xs := xs) (ys := ys) (by rw [hI.len, hJ.len]; exact hl)
    clear hI hJ
    go_enter Try.func15, Try.ntmps15
    go_wp2
    go_ret
    exact ⟨rbool hq.symm, Below.refl _ _⟩
theorem l15Ints_any (a a' : Option Addr) (n n' cap cap' : Nat) (xs ys : List Int) (w : World) (hI : IntsAt w a n xs) (hJ : IntsAt w a' n' ys) (hn : n ≤ 2097152) (hn' : n' ≤ 2097152) :
    Calls Try.prog 129 #[.slice a n cap, .slice a' n' cap'] w fun e w' => e = .returned (.bool (eqL xs ys)) ∧ Below w.heap.size w w' := by
  by_cases hl : n = n'
  · subst hl
    obtain ⟨hlen, rfl | ⟨b, off, rfl, hb, hcell⟩⟩ := hI
    · have : xs = [] := List.length_eq_zero_iff.1 hlen
      have e2 : ys = [] := List.length_eq_zero_iff.1 hJ.len
      subst this e2
      go_enter Try.func129, Try.ntmps129
      go_wp2
      go_loop [5] (fun i => i = .int .i64 0) (fun _ => 0)
      case atStart => rfl
      case round =>
        subst hrel
        go_wp2
        go_ret
        exact ⟨rfl, Below.refl _ _⟩
    · obtain ⟨hlen', rfl | ⟨b', off', rfl, hb', hcell'⟩⟩ := hJ
      · have : xs = [] := List.length_eq_zero_iff.1 hlen
        have e2 : ys = [] := List.length_eq_zero_iff.1 hlen'
        subst this e2
        go_enter Try.func129, Try.ntmps129
        go_wp2
        go_loop [5] (fun i => i = .int .i64 0) (fun _ => 0)
        case atStart => rfl
        case round =>
          subst hrel
          go_wp2
          go_ret
          exact ⟨rfl, Below.refl _ _⟩
      · go_enter Try.func129, Try.ntmps129
        go_wp2
        go_loopw [5] (fun i wr => ∃ k : Nat, k ≤ n ∧ i = .int .i64 k ∧ xs.take k = ys.take k ∧ ∃ q, wr = w.drewN q) (fun i _ => n - (intOf i).toNat)
        case atStart => exact ⟨0, Nat.zero_le _, rfl, rfl, 0, rfl⟩
        case round =>
          obtain ⟨k, hk, rfl, hno, q, rfl⟩ := hrel
          have Hno : Hid _ := hno
          clear hno
          by_cases hlt : k < n
          · have hc := hcell k hlt
            have hc' := hcell' k hlt
            generalize hy : xs.getD k 0 = y at hc
            generalize hz : ys.getD k 0 = z at hc'
            have HY : Hid _ := hy
            have HZ : Hid _ := hz
            clear hy hz hcell hcell'
            have hki : (k : Int) < (n : Int) := by omega
            cases hyz : (y != z)
            · go_wp2
              go_quiet (fail)
              go_wp2
              go_roundw
              case rel => exact ⟨k + 1, by omega, by go_num, eq_step (by omega) (by omega) Hno.out (by rw [HY.out, HZ.out]; exact hyz), _, rfl⟩
              case measure => simp [intOf]; omega
            · go_wp2
              go_quiet (fail)
              go_wp2
              go_ret
              exact ⟨rbool (eq_no (k := k) (by rw [HY.out, HZ.out]; exact hyz)).symm, bl_drewN (bl_drewN (Below.refl _ _) _) _⟩
          · clear hcell hcell'
            go_wp2
            go_ret
            exact ⟨rbool (eq_end (by omega) (by omega) Hno.out).symm, bl_drewN (Below.refl _ _) _⟩
  · have hne : ((n : Int) != (n' : Int)) = true := by simp; omega
    have hq := eq_len (xs := xs) (ys := ys) (by rw [hI.len, hJ.len]; exact hl)
    clear hI hJ
    go_enter Try.func129, Try.ntmps129
    go_wp2
    go_ret
    exact ⟨rbool hq.symm, Below.refl _ _⟩
end Go.Proofs.Ytigmcbgcdjofjaa
