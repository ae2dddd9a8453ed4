/-
  The program's waiters: are a line and those that were told right?
-/
import Derived.Test.YtfgknbflgmblmaaWM
import Derived.Test.YtfgknbflgmblmaaQ7
namespace Go.Proofs.Ytfgknbflgmblmaa
open Go.RowKit Go.Maps Pl Il

theorem ownsRow_keep {B : Nat} {w w' : World} {v : Value} {n s : Nat} {t : TypeId} {xs : List Value} (h : w.ownsRow B t s v n xs) (hb : Below w.heap.size w w') : w'.ownsRow B t s v n xs := by
  obtain ⟨hl, hn | ⟨g, cap, cur, rfl, hB, hg, hr⟩⟩ := h
  · exact ⟨hl, .inl hn⟩
  · have hlt : g < w.heap.size := by
      rcases Nat.lt_or_ge g w.heap.size with k | k
      · exact k
      · rw [Array.getElem?_eq_none k] at hg; cases hg
    exact ⟨hl, .inr ⟨g, cap, cur, rfl, hB, by rw [hb.block g hlt]; exact hg, hr⟩⟩
theorem isCount_any (x : Int) (w : World) :
    Calls Try.prog 68 #[.int .i64 x] w fun e w' => e = .returned (.bool (cnt x)) ∧ w' = w := by
  go_enter Try.func68, Try.ntmps68
  go_wp2
  all_goals go_ret
  all_goals (refine ⟨rbool ?_, rfl⟩; simp [cnt]; try omega)
theorem waitersOk_any (a : Option Addr) (n cap : Nat) (ls : List Int) (a' : Option Addr) (n' cap' : Nat) (ts : List Int) (w : World) (hI : IntsAt w a n ls) (hJ : IntsAt w a' n' ts) (hn : n ≤ 2097152) (hn' : n' ≤ 2097152) (hw : wfL ls) (hw' : wfL ts) :
    Calls Try.prog 66 #[.slice a n cap, .slice a' n' cap'] w fun e w' => e = .returned (.bool (waitL ls ts)) ∧ Below w.heap.size w w' := by
  go_enter Try.func66, Try.ntmps66
  go_wp2_with fail
  refine (lineQueue_any a n cap ls _ hI hn hw).mono ?_
  rintro e w1 ⟨p, rfl, hq, hb1⟩
  cases h1 : lineL ls
  · clear hq
    go_wp2
    go_ret
    exact ⟨rbool (by simp [waitL, h1]), hb1⟩
  · obtain ⟨qb, rfl, hQ⟩ := hq h1
    go_wp2_with fail
    refine (implLineOk_any a' n' cap' ts _ (hJ.keep hb1) hn' hw').mono ?_
    rintro e w2 ⟨rfl, hb2⟩
    have hB2 := bl_trans hb1 hb2
    cases h2 : lineL ts
    · clear hq hQ
      go_wp2
      go_ret
      exact ⟨rbool (by simp [waitL, h2]), hB2⟩
    · have HQ := hidOf (hQ)
      have H1 := hidOf h1
      have H2 := hidOf h2
      have HB2 := hidOf hB2
      have hQ2 : QAt w.heap.size w2 qb ls [] := QAt.keep hQ hb2
      have HQ2 := hidOf hQ2
      have hJ2 := hJ.keep hB2
      clear hq hQ hQ2 HQ hI hJ h1 h2 hB2 hb1
      obtain ⟨hlen, h0 | ⟨b, off, rfl, hb, hcell⟩⟩ := hJ2
      · subst h0
        have : ts = [] := List.length_eq_zero_iff.1 hlen
        subst this
        go_wp2_with fail
        go_loop [25] (fun i => i = .int .i64 0) (fun _ => 0)
        case atStart => rfl
        case round =>
          subst hrel
          go_wp2
          go_ret
          exact ⟨rbool (by simp [waitL, H1.out, H2.out, apartL]), HB2.out⟩
      · have HL := hidOf hlen
        clear hlen
        go_wp2_with fail
        go_loop [25] (fun i => ∃ k : Nat, k ≤ n' ∧ i = .int .i64 k ∧ apartL ls (ts.take k) = true) (fun i => n' - (intOf i).toNat)
        case atStart => exact ⟨0, Nat.zero_le _, rfl, rfl⟩
        case round =>
          obtain ⟨k, hk, rfl, hap⟩ := hrel
          have HAp := hidOf hap
          clear hap
          by_cases hlt : k < n'
          · have hc := hcell k hlt
            have hkl : k < ts.length := by rw [HL.out]; exact hlt
            have hwf := wf_at hw' (k := k) hkl
            generalize hy : ts.getD k 0 = y at hc hwf
            have HY := hidOf hy
            have hki : (0 : Int) ≤ (k : Int) ∧ (k : Int) < (n' : Int) := by omega
            have hps := place_isSome ls y
            have HPs := hidOf hps
            clear hy hcell hps
            cases hpl : placeG ls [] y with
            | none =>
              go_wp2_with (go_at_call 78; refine (placeOf_any _ qb ls [] y _ HQ2.out hwf).mono ?_; rintro e w3 ⟨rfl, rfl⟩; rw [hpl])
              go_round
              case rel => exact ⟨k + 1, by omega, by go_num, apart_step hkl HY.out HAp.out (by rw [← HPs.out, hpl]; rfl)⟩
              case measure => simp [intOf]; omega
            | some j =>
              go_wp2_with (go_at_call 78; refine (placeOf_any _ qb ls [] y _ HQ2.out hwf).mono ?_; rintro e w3 ⟨rfl, rfl⟩; rw [hpl])
              go_ret
              exact ⟨rbool (by rw [waitL, apart_bad hkl HY.out (by rw [← HPs.out, hpl]; rfl)]; simp), HB2.out⟩
          · obtain rfl : k = n' := by omega
            clear hcell
            go_wp2
            go_ret
            exact ⟨rbool (by rw [waitL, H1.out, H2.out, apart_end (by rw [HL.out]; exact Nat.le_refl _) HAp.out]; rfl), HB2.out⟩
end Go.Proofs.Ytfgknbflgmblmaa
