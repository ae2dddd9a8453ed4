/-
  Walks of the specification's waiters: are a line and those that were told right?
-/
import Derived.Test.YtbbhaekmjnincaaWM
namespace Go.Proofs.Ytbbhaekmjnincaa
open Go.RowKit Pl Il

theorem l6Waits_any (a : Option Addr) (n cap : Nat) (ls : List Int) (a' : Option Addr) (n' cap' : Nat) (ts : List Int) (w : World) (hI : IntsAt w a n ls) (hJ : IntsAt w a' n' ts) (hn : n ≤ 2097152) (hn' : n' ≤ 2097152) (hcap : n ≤ cap) (hcap' : n' ≤ cap') :
    Calls Try.prog 24 #[.slice a n cap, .slice a' n' cap'] w fun e w' => e = .returned (.bool (waitL ls ts)) ∧ Below w.heap.size w w' := by
  go_enter Try.func24, Try.ntmps24
  go_wp2_with fail
  refine (specLineOk_any a n cap ls _ hI hn hcap).mono ?_
  rintro e w1 ⟨rfl, hb1⟩
  cases h1 : lineL ls
  · go_wp2
    go_ret
    exact ⟨rbool (by simp [waitL, h1]), hb1⟩
  · go_wp2_with fail
    refine (specLineOk_any a' n' cap' ts _ (hJ.keep hb1) hn' hcap').mono ?_
    rintro e w2 ⟨rfl, hb2⟩
    have hB2 := bl_trans hb1 hb2
    cases h2 : lineL ts
    · go_wp2
      go_ret
      exact ⟨rbool (by simp [waitL, h2]), hB2⟩
    · have H1 := hidOf h1
      have H2 := hidOf h2
      have HI2 := hidOf (hI.keep hB2)
      have hJ2 := hJ.keep hB2
      have HB2 := hidOf hB2
      clear hI hJ h1 h2 hB2 hb1 hb2
      obtain ⟨hlen, h0 | ⟨b, off, rfl, hb, hcell⟩⟩ := hJ2
      · subst h0
        have : ts = [] := List.length_eq_zero_iff.1 hlen
        subst this
        go_wp2_with fail
        go_loop [5] (fun i => i = .int .i64 0) (fun _ => 0)
        case atStart => rfl
        case round =>
          subst hrel
          go_wp2
          go_ret
          exact ⟨rbool (by simp [waitL, H1.out, H2.out, apartL]), HB2.out⟩
      · have HL := hidOf hlen
        clear hlen
        go_wp2_with fail
        go_loop [5] (fun i => ∃ k : Nat, k ≤ n' ∧ i = .int .i64 k ∧ apartL ls (ts.take k) = true) (fun i => n' - (intOf i).toNat)
        case atStart => exact ⟨0, Nat.zero_le _, rfl, rfl⟩
        case round =>
          obtain ⟨k, hk, rfl, hap⟩ := hrel
          have HAp := hidOf hap
          clear hap
          by_cases hlt : k < n'
          · have hc := hcell k hlt
            have hkl : k < ts.length := by rw [HL.out]; exact hlt
            generalize hy : ts.getD k 0 = y at hc
            have HY := hidOf hy
            have hki : (0 : Int) ≤ (k : Int) ∧ (k : Int) < (n' : Int) := by omega
            clear hy hcell
            cases hh : hasL ls y
            · go_wp2_with (go_at_call 39; refine (l2Has_any a n cap ls y _ HI2.out hn).mono ?_; rintro e w3 ⟨rfl, rfl⟩; rw [hh])
              go_round
              case rel => exact ⟨k + 1, by omega, by go_num, apart_step hkl HY.out HAp.out hh⟩
              case measure => simp [intOf]; omega
            · go_wp2_with (go_at_call 39; refine (l2Has_any a n cap ls y _ HI2.out hn).mono ?_; rintro e w3 ⟨rfl, rfl⟩; rw [hh])
              go_ret
              exact ⟨rbool (by rw [waitL, apart_bad hkl HY.out hh]; simp), HB2.out⟩
          · obtain rfl : k = n' := by omega
            clear hcell
            go_wp2
            go_ret
            exact ⟨rbool (by rw [waitL, H1.out, H2.out, apart_end (by rw [HL.out]; exact Nat.le_refl _) HAp.out]; rfl), HB2.out⟩
theorem inCnt_any (x : Int) (w : World) :
    Calls Try.prog 23 #[.int .i64 x, .int .i64 0, .int .i64 1000000000] w fun e w' => e = .returned (.bool (cnt x)) ∧ w' = w := in_any x 0 1000000000 w
end Go.Proofs.Ytbbhaekmjnincaa
