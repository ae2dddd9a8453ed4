/-
  Walks of the specification's lines.
-/
import Derived.Test.YtfgknbflgmblmaaH2
namespace Go.Proofs.Ytfgknbflgmblmaa
open Go.RowKit Pl Il

/-- The first k clients of a line: each a client, none twice. -/
def lineTo (xs : List Int) (k : Nat) : Bool := (List.range k).all fun i => clientL (xs.getD i 0) && !hasL (xs.take i) (xs.getD i 0)
/-- A right line. -/
def lineL (xs : List Int) : Bool := decide (xs.length ≤ 32) && lineTo xs xs.length
theorem lineTo_zero (xs : List Int) : lineTo xs 0 = true := by simp [lineTo]
theorem lineTo_step {xs : List Int} {k : Nat} {y : Int} (h : lineTo xs k = true) (hy : xs.getD k 0 = y) (hc : clientL y = true) (hh : hasL (xs.take k) y = false) : lineTo xs (k + 1) = true := by
  simp only [lineTo, List.range_succ, List.all_append, List.all_cons, List.all_nil, Bool.and_true, Bool.and_eq_true] at h ⊢
  exact ⟨h, by rw [hy]; exact hc, by rw [hy, hh]; rfl⟩
theorem line_bad {xs : List Int} {k : Nat} {y : Int} (hk : k < xs.length) (hy : xs.getD k 0 = y) (h : clientL y = false ∨ hasL (xs.take k) y = true) : lineL xs = false := by
  have : lineTo xs xs.length = false := by
    unfold lineTo
    rw [List.all_eq_false]
    refine ⟨k, List.mem_range.2 hk, ?_⟩
    rw [hy]
    rcases h with h | h <;> simp [h]
  simp [lineL, this]
theorem line_long {xs : List Int} (h : ¬ xs.length ≤ 32) : lineL xs = false := by simp [lineL, h]
theorem line_end {xs : List Int} (h : xs.length ≤ 32) (ht : lineTo xs xs.length = true) : lineL xs = true := by simp [lineL, h, ht]

theorem in_any (n a b : Int) (w : World) :
    Calls Try.prog 56 #[.int .i64 n, .int .i64 a, .int .i64 b] w fun e w' => e = .returned (.bool (decide (a ≤ n) && decide (n ≤ b))) ∧ w' = w := by
  go_enter Try.func56, Try.ntmps56
  go_wp2
  all_goals go_ret
  all_goals (refine ⟨rbool ?_, rfl⟩; simp; try omega)
theorem client_any (x : Int) (w : World) :
    Calls Try.prog 57 #[.int .i64 x] w fun e w' => e = .returned (.bool (clientL x)) ∧ w' = w := by
  go_enter Try.func57, Try.ntmps57
  go_wp2_with fail
  refine (in_any x _ _ _).mono ?_
  rintro e w1 ⟨rfl, rfl⟩
  go_wp2
  go_ret
  exact ⟨rfl, rfl⟩

theorem specLineOk_any (a : Option Addr) (n cap : Nat) (xs : List Int) (w : World) (hI : IntsAt w a n xs) (hn : n ≤ 2097152) (hcap : n ≤ cap) :
    Calls Try.prog 55 #[.slice a n cap] w fun e w' => e = .returned (.bool (lineL xs)) ∧ Below w.heap.size w w' := by
  by_cases h32 : n ≤ 32
  · have h32' : ¬ 32 < (n : Int) := by omega
    obtain ⟨hlen, rfl | ⟨b, off, rfl, hb, hcell⟩⟩ := id hI
    · have hx : xs = [] := List.length_eq_zero_iff.1 hlen
      subst hx
      go_enter Try.func55, Try.ntmps55
      go_wp2
      go_loop [3] (fun i => i = .int .i64 0) (fun _ => 0)
      case atStart => rfl
      case round =>
        subst hrel
        go_wp2
        go_ret
        exact ⟨rfl, Below.refl _ _⟩
    · go_enter Try.func55, Try.ntmps55
      go_wp2
      go_loopw [3] (fun i wr => ∃ k : Nat, k ≤ n ∧ i = .int .i64 k ∧ lineTo xs k = true ∧ Below w.heap.size w wr) (fun i _ => n - (intOf i).toNat)
      case atStart => exact ⟨0, Nat.zero_le _, rfl, lineTo_zero _, Below.refl _ _⟩
      case round =>
        rename_i wr
        obtain ⟨k, hk, rfl, hto, hbr⟩ := hrel
        have Hto : Hid _ := hto
        clear hto
        by_cases hlt : k < n
        · have hc : wr.cell? ⟨b, off + k, none⟩ = some (.int .i64 (xs.getD k 0)) := by rw [hbr.cell (p := ⟨b, off + k, none⟩) hb]; exact hcell k hlt
          have hT : ∀ q, IntsAt (wr.drewN q) (some ⟨b, off, none⟩) k (xs.take k) := fun q => (hI.take k hk).keep (bl_drewN hbr q)
          have HT : Hid _ := hT
          generalize hy : xs.getD k 0 = y at hc
          have HY : Hid _ := hy
          have hki : (k : Int) < (n : Int) := by omega
          have hkc : (k : Int) ≤ (cap : Int) := by omega
          clear hy hcell hT hI
          cases hcl : clientL y
          · go_wp2
            go_quiet ((first | (go_at_call 57; exact Calls.quiet_of_same (client_any _ _)) | (go_at_call 48; exact Calls.quiet_of_same (l2Has_any _ _ _ _ _ _ (HT.out _) (by omega)))))
            go_wp2
            go_ret
            exact ⟨rbool (line_bad (by omega) HY.out (.inl hcl)).symm, bl_drewN hbr _⟩
          · cases hhs : hasL (xs.take k) y
            · go_wp2
              go_quiet ((first | (go_at_call 57; exact Calls.quiet_of_same (client_any _ _)) | (go_at_call 48; exact Calls.quiet_of_same (l2Has_any _ _ _ _ _ _ (HT.out _) (by omega)))))
              go_wp2
              go_roundw
              case rel => exact ⟨k + 1, by omega, by go_num, lineTo_step Hto.out HY.out hcl hhs, bl_drewN hbr _⟩
              case measure => simp [intOf]; omega
            · go_wp2
              go_quiet ((first | (go_at_call 57; exact Calls.quiet_of_same (client_any _ _)) | (go_at_call 48; exact Calls.quiet_of_same (l2Has_any _ _ _ _ _ _ (HT.out _) (by omega)))))
              go_wp2
              go_ret
              exact ⟨rbool (line_bad (by omega) HY.out (.inr hhs)).symm, bl_drewN hbr _⟩
        · obtain rfl : k = n := by omega
          clear hcell hI
          go_wp2
          go_ret
          exact ⟨rbool (line_end (by omega) (by rw [hlen]; exact Hto.out)).symm, hbr⟩
  · have h32' : 32 < (n : Int) := by omega
    have hq := line_long (xs := xs) (by rw [hI.len]; exact h32)
    clear hI
    go_enter Try.func55, Try.ntmps55
    go_wp2
    go_ret
    exact ⟨rbool hq.symm, Below.refl _ _⟩
end Go.Proofs.Ytfgknbflgmblmaa
