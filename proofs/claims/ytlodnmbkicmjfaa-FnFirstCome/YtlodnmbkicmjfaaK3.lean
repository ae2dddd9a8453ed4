/-
  Walks of the specification's draws: a line and who joins it; small functions of the laws; the plain mathematics of who comes first.
-/
import Derived.Test.YtlodnmbkicmjfaaK2
import Derived.Test.YtlodnmbkicmjfaaQ7
namespace Go.Proofs.Ytlodnmbkicmjfaa
open Go.RowKit Pl Dr Il

theorem drawJoin_any (a : Option Addr) (len cap : Nat) (w : World) (hB : Bytes w.heap.size w a len cap) :
    Calls Try.prog 10 #[.slice a len cap] w fun e w' => ∃ (g m cp : Nat) (x : Int), e = .returned (.tuple #[.slice (some ⟨g, 0, none⟩) m cp, .int .i64 x]) ∧ (Lit.int .i64 x).wf = true ∧ m ≤ 250 ∧ Below w.heap.size w w' ∧ ∃ xs, Owns w.heap.size w' g m cp xs ∧ wfL xs := by
  go_enter Try.func10, Try.ntmps10
  go_wp2_with fail
  refine (new_any a len cap _ hB).mono ?_
  rintro e w1 ⟨rfl, hC, hb1⟩
  go_wp2_with fail
  refine (l2Some_any a len cap _ _ hC).mono ?_
  rintro e w2 ⟨g, m, cp, rfl, hL⟩
  go_wp2_with fail
  refine (l2Who_any a len cap _ g m cp _ _ hL hC).mono ?_
  rintro e w3 ⟨x, rfl, hx, hd⟩
  obtain ⟨⟨xs, ho, hw⟩, hm, hd2⟩ := hL
  have hb : Below w.heap.size w w3 := hb1.trans ((hd2.trans hd).ex.below (Nat.le_refl _) hb1.size)
  have Ho := hidOf (owns_mono (owns_ex ho hd.ex hC.lt) hb1.size)
  clear ho hd hd2 hC
  go_wp2
  go_ret2
  exact ⟨_, _, _, _, rfl, hx, hm, hb, xs, Ho.out, hw⟩

theorem big_any (a : Option Addr) (n cap : Nat) (w : World) :
    Calls Try.prog 9 #[.slice a n cap] w fun e w' => e = .returned (.bool (decide (1048576 < n))) ∧ w' = w := by
  go_enter Try.func9, Try.ntmps9
  go_wp2
  go_ret
  refine ⟨rbool ?_, rfl⟩
  rw [Bool.eq_iff_iff]; simp; try omega

theorem at0_any (c : Nat) (a : Option Addr) (len cap : Nat) (w : World) (hB : Bytes c w a len cap) :
    Calls Try.prog 15 #[.slice a len cap, .int .i64 0] w fun e w' => ∃ y : Int, e = .returned (.int .i64 y) ∧ 0 ≤ y ∧ y ≤ 255 ∧ w' = w := by
  obtain ⟨hl, _, rfl | ⟨b, off, rfl, _, _, hc⟩⟩ := hB
  · go_enter Try.func15, Try.ntmps15
    go_wp2
    go_ret
    exact ⟨_, rfl, by omega, by omega, rfl⟩
  · by_cases h0 : 0 < len
    · obtain ⟨n, hn, n0, n1⟩ := hc 0 h0
      have hi : (0 : Int) < (len : Int) := by omega
      rw [Nat.add_zero] at hn
      clear hc
      go_enter Try.func15, Try.ntmps15
      go_wp2
      go_ret
      exact ⟨_, rfl, by omega, by omega, rfl⟩
    · have hi : ¬ (0 : Int) < (len : Int) := by omega
      clear hc
      go_enter Try.func15, Try.ntmps15
      go_wp2
      go_ret
      exact ⟨_, rfl, by omega, by omega, rfl⟩

theorem sameInts_any (a a' : Option Addr) (n n' cap cap' : Nat) (xs ys : List Int) (w : World) (hI : IntsAt w a n xs) (hJ : IntsAt w a' n' ys) (hn : n ≤ 2097152) (hn' : n' ≤ 2097152) :
    Calls Try.prog 13 #[.slice a n cap, .slice a' n' cap'] w fun e w' => e = .returned (.bool (eqL xs ys)) ∧ Below w.heap.size w w' := by
  by_cases hl : n = n'
  · subst hl
    obtain ⟨hlen, rfl | ⟨b, off, rfl, hb, hcell⟩⟩ := hI
    · have : xs = [] := List.length_eq_zero_iff.1 hlen
      have e2 : ys = [] := List.length_eq_zero_iff.1 hJ.len
      subst this e2
      go_enter Try.func13, Try.ntmps13
      go_wp2
      go_loop [5] (fun i => i = .int .i64 0) (fun _ => 0)
      case atStart => rfl
      case round =>
        subst hrel
        go_wp2
        go_ret
        exact ⟨rfl, Below.refl _ _⟩
    · obtain ⟨hlen', rfl | ⟨b', off', rfl, hb', hcell'⟩⟩ := hJ
      · have : xs = [] := List.length_eq_zero_iff.1 hlen
        have e2 : ys = [] := List.length_eq_zero_iff.1 hlen'
        subst this e2
        go_enter Try.func13, Try.ntmps13
        go_wp2
        go_loop [5] (fun i => i = .int .i64 0) (fun _ => 0)
        case atStart => rfl
        case round =>
          subst hrel
          go_wp2
          go_ret
          exact ⟨rfl, Below.refl _ _⟩
      · go_enter Try.func13, Try.ntmps13
        go_wp2
        go_loopw [5] (fun i wr => ∃ k : Nat, k ≤ n ∧ i = .int .i64 k ∧ xs.take k = ys.take k ∧ ∃ q, wr = w.drewN q) (fun i _ => n - (intOf i).toNat)
        case atStart => exact ⟨0, Nat.zero_le _, rfl, rfl, 0, rfl⟩
        case round =>
          obtain ⟨k, hk, rfl, hno, q, rfl⟩ := hrel
          have Hno : Hid _ := hno
          clear hno
          by_cases hlt : k < n
          · have hc := hcell k hlt
            have hc' := hcell' k hlt
            generalize hy : xs.getD k 0 = y at hc
            generalize hz : ys.getD k 0 = z at hc'
            have HY : Hid _ := hy
            have HZ : Hid _ := hz
            clear hy hz hcell hcell'
            have hki : (k : Int) < (n : Int) := by omega
            cases hyz : (y != z)
            · go_wp2
              go_quiet (fail)
              go_wp2
              go_roundw
              case rel => exact ⟨k + 1, by omega, by go_num, eq_step (by omega) (by omega) Hno.out (by rw [HY.out, HZ.out]; exact hyz), _, rfl⟩
              case measure => simp [intOf]; omega
            · go_wp2
              go_quiet (fail)
              go_wp2
              go_ret
              exact ⟨rbool (eq_no (k := k) (by rw [HY.out, HZ.out]; exact hyz)).symm, bl_drewN (bl_drewN (Below.refl _ _) _) _⟩
          · clear hcell hcell'
            go_wp2
            go_ret
            exact ⟨rbool (eq_end (by omega) (by omega) Hno.out).symm, bl_drewN (Below.refl _ _) _⟩
  · have hne : ((n : Int) != (n' : Int)) = true := by simp; omega
    have hq := eq_len (xs := xs) (ys := ys) (by rw [hI.len, hJ.len]; exact hl)
    clear hI hJ
    go_enter Try.func13, Try.ntmps13
    go_wp2
    go_ret
    exact ⟨rbool hq.symm, Below.refl _ _⟩

theorem join_same {xs : List Int} {x : Int} (h : ¬ (joinL xs x).2 = 0) : (joinL xs x).1 = xs := by
  unfold joinL at h ⊢
  split
  · rfl
  · split
    · rfl
    · split
      · rfl
      · simp_all
theorem join_zero {xs : List Int} {x : Int} (h : (joinL xs x).2 = 0) : lineL xs = true ∧ clientL x = true ∧ hasL xs x = false ∧ xs.length < 32 ∧ (joinL xs x).1 = xs ++ [x] := by
  unfold joinL at h ⊢
  split at h
  · simp at h
  · split at h
    · simp at h
    · split at h
      · simp at h
      · rename_i h1 h2 h3
        simp only [Bool.or_eq_true, Bool.not_eq_true', not_or, Bool.not_eq_false] at h1
        simp only [Bool.not_eq_true] at h2
        refine ⟨h1.1, h1.2, h2, by omega, ?_⟩
        simp [h1.1, h1.2, h2, h3]
theorem line_snoc {xs : List Int} {x : Int} (h1 : lineL xs = true) (h2 : clientL x = true) (h3 : hasL xs x = false) (h4 : xs.length < 32) : lineL (xs ++ [x]) = true := by
  have ht : ∀ i, i < xs.length → clientL (xs.getD i 0) = true ∧ hasL (xs.take i) (xs.getD i 0) = false := by
    simp only [lineL, lineTo, Bool.and_eq_true, List.all_eq_true, List.mem_range] at h1
    exact fun i hi => ⟨(h1.2 i hi).1, by simpa using (h1.2 i hi).2⟩
  simp only [lineL, lineTo, Bool.and_eq_true, List.all_eq_true, List.mem_range, decide_eq_true_eq]
  refine ⟨by simp; omega, fun i hi => ?_⟩
  rw [List.length_append, List.length_singleton] at hi
  by_cases e : i = xs.length
  · subst e
    have e1 : (xs ++ [x]).getD xs.length 0 = x := by simp [List.getD]
    have e2 : (xs ++ [x]).take xs.length = xs := by simp
    rw [e1, e2]
    exact ⟨h2, by rw [h3]; rfl⟩
  · have hi' : i < xs.length := by omega
    have e1 : (xs ++ [x]).getD i 0 = xs.getD i 0 := by simp [List.getD, List.getElem?_append_left hi']
    rw [e1, List.take_append_of_le_length (Nat.le_of_lt hi')]
    exact ⟨(ht i hi').1, by rw [(ht i hi').2]; rfl⟩
theorem leave_back {xs : List Int} {x : Int} (h1 : lineL xs = true) (h2 : clientL x = true) (h3 : hasL xs x = false) (h4 : xs.length < 32) : leaveL (xs ++ [x]) x = (xs, 0) := by
  have hm : x ∉ xs := by simpa [hasL] using h3
  rw [leave_done (line_snoc h1 h2 h3 h4) (by simp [hasL]), lessL, List.erase_append_right _ hm]
  simp
theorem place_last {xs : List Int} {x : Int} (h3 : hasL xs x = false) : placeL (xs ++ [x]) x = (xs.length : Int) :=
  (place_hit (xs := xs ++ [x]) (k := xs.length) (by simp) (by simpa using h3) (by simp [List.getD])).symm
theorem wakeN_nat {xs : List Int} {k : Nat} (h : k ≤ xs.length) : wakeN xs (k : Int) = k := by
  rw [wakeN_in (by omega)]; simp
theorem wake_nat {xs : List Int} {k : Nat} (h1 : lineL xs = true) (h : k ≤ xs.length) : wakeRest xs (k : Int) = xs.drop k ∧ wakeOut xs (k : Int) = xs.take k := by
  have := wake_good (k := (k : Int)) h1 (by omega)
  rw [wakeN_nat h] at this
  exact this
end Go.Proofs.Ytlodnmbkicmjfaa
