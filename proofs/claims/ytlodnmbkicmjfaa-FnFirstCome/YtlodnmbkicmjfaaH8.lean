/-
  Walks of the specification's lines: who is woken.
-/
import Derived.Test.YtlodnmbkicmjfaaH7
namespace Go.Proofs.Ytlodnmbkicmjfaa
open Go.RowKit Pl Il

/-- How many Wake wakes. -/
def wakeN (xs : List Int) (n : Int) : Nat := if n > (xs.length : Int) then xs.length else n.toNat
theorem wakeN_le (xs : List Int) (n : Int) (h : 0 ≤ n) : wakeN xs n ≤ xs.length := by
  unfold wakeN
  split <;> omega
theorem wakeN_over {xs : List Int} {n : Int} (h : n > (xs.length : Int)) : wakeN xs n = xs.length := by simp [wakeN, h]
theorem wakeN_in {xs : List Int} {n : Int} (h : ¬ n > (xs.length : Int)) : wakeN xs n = n.toNat := by simp only [wakeN, h, if_false]

theorem specWake_bad (a : Option Addr) (n cap : Nat) (xs : List Int) (k : Int) (w : World) (hI : IntsAt w a n xs) (hn : n ≤ 2097152) (hcap : n ≤ cap) (hbad : lineL xs = false ∨ k < 0) :
    Calls Try.prog 25 #[.slice a n cap, .int .i64 k] w fun e w' => ∃ g c, e = .returned (.tuple #[.slice (some ⟨g, 0, none⟩) n c, .slice none 0 0]) ∧ Owns w.heap.size w' g n c xs ∧ Below w.heap.size w w' := by
  go_enter Try.func25, Try.ntmps25
  go_wp2_with fail
  refine (specLineOk_any a n cap xs _ hI hn hcap).mono ?_
  rintro e w1 ⟨rfl, hb1⟩
  have hI1 := hI.keep hb1
  have hle := hb1.size
  clear hI
  cases hl : lineL xs
  · go_wp2_with fail
    refine (l2Copy_any a n cap xs _ hI1 hn).mono ?_
    rintro e w2 ⟨g, c, rfl, ho2, hb2⟩
    have hb := bl_trans hb1 hb2
    have ho := owns_mono ho2 hle
    clear ho2 hb2 hb1 hI1
    have Ho : Hid _ := ho
    clear ho
    go_wp2
    go_ret2
    exact ⟨g, c, rfl, Ho.out, hb⟩
  · have hk : k < 0 := by
      rcases hbad with h | h
      · rw [hl] at h; cases h
      · exact h
    go_wp2_with fail
    refine (l2Copy_any a n cap xs _ hI1 hn).mono ?_
    rintro e w2 ⟨g, c, rfl, ho2, hb2⟩
    have hb := bl_trans hb1 hb2
    have ho := owns_mono ho2 hle
    clear ho2 hb2 hb1 hI1
    have Ho : Hid _ := ho
    clear ho
    go_wp2
    go_ret2
    exact ⟨g, c, rfl, Ho.out, hb⟩

theorem line_len {xs : List Int} (h : lineL xs = true) : xs.length ≤ 32 := by
  unfold lineL at h
  simp at h
  exact h.1

/-- Two lists that the call has made, apart from one another. -/
structure Both (w : World) (g1 m1 c1 : Nat) (xs : List Int) (g2 m2 c2 : Nat) (ys : List Int) (w' : World) : Prop where
  one : Owns w.heap.size w' g1 m1 c1 xs
  two : Owns w.heap.size w' g2 m2 c2 ys
  apart : g1 ≠ g2
  below : Below w.heap.size w w'
theorem both_of {w w1 w2 w3 : World} {g1 m1 c1 : Nat} {xs : List Int} {g2 m2 c2 : Nat} {ys : List Int} (h1 : Below w.heap.size w w1) (o1 : Owns w1.heap.size w2 g1 m1 c1 xs) (h2 : Below w1.heap.size w1 w2) (o2 : Owns w2.heap.size w3 g2 m2 c2 ys) (h3 : Below w2.heap.size w2 w3) :
    Both w g1 m1 c1 xs g2 m2 c2 ys w3 where
  one := owns_keep (owns_mono o1 h1.size) h3
  two := owns_mono o2 (Nat.le_trans h1.size h2.size)
  apart := by
    have a := (owns_parts o1).2.2.1
    have b := (owns_parts o2).2.1
    omega
  below := bl_trans (bl_trans h1 h2) h3

/-- A line with no room behind it, all of it woken. -/
theorem specWake_full (b off n : Nat) (xs : List Int) (k : Int) (w : World) (hI : IntsAt w (some ⟨b, off, none⟩) n xs) (hl : lineL xs = true) (hk : k = (n : Int) ∨ (n : Int) < k) :
    Calls Try.prog 25 #[.slice (some ⟨b, off, none⟩) n n, .int .i64 k] w fun e w' => ∃ g1 c1 g2 c2, e = .returned (.tuple #[.slice (some ⟨g1, 0, none⟩) 0 c1, .slice (some ⟨g2, 0, none⟩) n c2]) ∧ Both w g1 0 c1 [] g2 n c2 xs w' := by
  have hn : n ≤ 32 := by rw [← hI.len]; exact line_len hl
  go_enter Try.func25, Try.ntmps25
  go_wp2_with fail
  refine (specLineOk_any _ n n xs _ hI (by omega) (Nat.le_refl _)).mono ?_
  rintro e w1 ⟨rfl, hb1⟩
  have hm0 : (0 : Int) ≤ (n : Int) := by omega
  have hm1 : (n : Int) ≤ (n : Int) := by omega
  have hm3 : (n : Int) ≤ (n : Int) := by omega
  have hm5 : (n : Int) ≤ (n : Int) := by omega
  have hle := hb1.size
  have Hb := hidOf hb1
  have hT := hI.keep hb1
  have C2 := hidOf (fun (w' : World) (h : Below w1.heap.size w1 w') => l2Copy_any (some ⟨b, off, none⟩) n n xs w' (hT.keep h) (by omega))
  have C1 := hidOf (l2Copy_any (some ⟨b, off, none⟩) 0 0 [] w1.drew (IntsAt.nil _ _) (by omega))
  clear hI hb1 hT
  rw [hl]
  rcases hk with rfl | hk
  · have hm2 : ¬ (n : Int) < (n : Int) := by omega
    have hm4 : ¬ (n : Int) < 0 := by omega
    go_wp2_with fail
    go_region_with (first
      | (go_at_call_of 36 (#[.slice (some ⟨b, off, none⟩) 0 0] : Array Value); refine C1.out.mono ?_; rintro e w2 ⟨g1, c1, rfl, ho1, hb2⟩; replace hb2 : Below w1.heap.size w1 w2 := bl_trans (Below.refl _ _).drew hb2)
      | (go_at_call 36; refine (C2.out _ (by assumption)).mono ?_; rintro e w3 ⟨g2, c2, rfl, ho2, hb3⟩))
    go_wp2
    go_ret2
    exact ⟨g1, c1, g2, c2, rfl, both_of Hb.out ho1 hb2 ho2 hb3⟩
  · have hk0 : ¬ k < 0 := by omega
    go_wp2_with fail
    go_region_with (first
      | (go_at_call_of 36 (#[.slice (some ⟨b, off, none⟩) 0 0] : Array Value); refine C1.out.mono ?_; rintro e w2 ⟨g1, c1, rfl, ho1, hb2⟩; replace hb2 : Below w1.heap.size w1 w2 := bl_trans (Below.refl _ _).drew hb2)
      | (go_at_call 36; refine (C2.out _ (by assumption)).mono ?_; rintro e w3 ⟨g2, c2, rfl, ho2, hb3⟩))
    go_wp2
    go_ret2
    exact ⟨g1, c1, g2, c2, rfl, both_of Hb.out ho1 hb2 ho2 hb3⟩

/-- A line with room behind it, all of it woken, and more asked for. -/
theorem specWake_over (b off n cap : Nat) (xs : List Int) (k : Int) (w : World) (hI : IntsAt w (some ⟨b, off, none⟩) n xs) (hcap : n < cap) (hl : lineL xs = true) (hk : (n : Int) < k) :
    Calls Try.prog 25 #[.slice (some ⟨b, off, none⟩) n cap, .int .i64 k] w fun e w' => ∃ g1 c1 g2 c2, e = .returned (.tuple #[.slice (some ⟨g1, 0, none⟩) 0 c1, .slice (some ⟨g2, 0, none⟩) n c2]) ∧ Both w g1 0 c1 [] g2 n c2 xs w' := by
  have hn : n ≤ 32 := by rw [← hI.len]; exact line_len hl
  go_enter Try.func25, Try.ntmps25
  go_wp2_with fail
  refine (specLineOk_any _ n cap xs _ hI (by omega) (Nat.le_of_lt hcap)).mono ?_
  rintro e w1 ⟨rfl, hb1⟩
  have hm0 : (0 : Int) ≤ (n : Int) := by omega
  have hm1 : (n : Int) ≤ (n : Int) := by omega
  have hm3 : (n : Int) ≤ (cap : Int) := by omega
  have hm5 : (n : Int) ≤ (cap : Int) := by omega
  have hle := hb1.size
  have Hb := hidOf hb1
  have hT := hI.keep hb1
  have C2 := hidOf (fun (w' : World) (h : Below w1.heap.size w1 w') => l2Copy_any (some ⟨b, off, none⟩) n cap xs w' (hT.keep h) (by omega))
  have C1 := hidOf (l2Copy_any (some ⟨b, off + n, none⟩) 0 (cap - n) [] w1.drew (IntsAt.nil _ _) (by omega))
  clear hI hb1 hT
  rw [hl]
  have hcm : ¬ cap = n := by omega
  have hcm' : ¬ n = cap := by omega
  have hk0 : ¬ k < 0 := by omega
  go_wp2_with fail
  go_region_with (first
    | (go_at_call_of 36 (#[.slice (some ⟨b, off + n, none⟩) 0 (cap - n)] : Array Value); refine C1.out.mono ?_; rintro e w2 ⟨g1, c1, rfl, ho1, hb2⟩; replace hb2 : Below w1.heap.size w1 w2 := bl_trans (Below.refl _ _).drew hb2)
    | (go_at_call 36; refine (C2.out _ (by assumption)).mono ?_; rintro e w3 ⟨g2, c2, rfl, ho2, hb3⟩))
  go_wp2
  go_ret2
  exact ⟨g1, c1, g2, c2, rfl, both_of Hb.out ho1 hb2 ho2 hb3⟩

/-- The line's first m are woken. -/
theorem specWake_some (b off n cap : Nat) (xs : List Int) (m : Nat) (w : World) (hI : IntsAt w (some ⟨b, off, none⟩) n xs) (hcap : n ≤ cap) (hl : lineL xs = true) (hm : m ≤ n) (hc : m < cap) :
    Calls Try.prog 25 #[.slice (some ⟨b, off, none⟩) n cap, .int .i64 m] w fun e w' => ∃ g1 c1 g2 c2, e = .returned (.tuple #[.slice (some ⟨g1, 0, none⟩) (n - m) c1, .slice (some ⟨g2, 0, none⟩) m c2]) ∧ Both w g1 (n - m) c1 (xs.drop m) g2 m c2 (xs.take m) w' := by
  have hn : n ≤ 32 := by rw [← hI.len]; exact line_len hl
  go_enter Try.func25, Try.ntmps25
  go_wp2_with fail
  refine (specLineOk_any _ n cap xs _ hI (by omega) hcap).mono ?_
  rintro e w1 ⟨rfl, hb1⟩
  have hm0 : (0 : Int) ≤ (m : Int) := by omega
  have hm1 : (m : Int) ≤ (n : Int) := by omega
  have hm3 : (m : Int) ≤ (cap : Int) := by omega
  have hm5 : (n : Int) ≤ (cap : Int) := by omega
  have hle := hb1.size
  have Hb := hidOf hb1
  have hD := (hI.drop m hm).keep hb1
  have hT := (hI.take m hm).keep hb1
  have C2 := hidOf (fun (w' : World) (h : Below w1.heap.size w1 w') => l2Copy_any (some ⟨b, off, none⟩) m cap (xs.take m) w' (hT.keep h) (by omega))
  have C1 := hidOf (l2Copy_any (some ⟨b, off + m, none⟩) (n - m) (cap - m) (xs.drop m) w1.drew (hD.keep (Below.refl _ _).drew) (by omega))
  clear hI hb1 hT hD
  rw [hl]
  have hcm : ¬ cap = m := by omega
  have hcm' : ¬ m = cap := by omega
  have hm2 : ¬ (n : Int) < (m : Int) := by omega
  have hm4 : ¬ (m : Int) < 0 := by omega
  go_wp2_with fail
  go_region_with (first
    | (go_at_call_of 36 (n - m); refine C1.out.mono ?_; rintro e w2 ⟨g1, c1, rfl, ho1, hb2⟩; replace hb2 : Below w1.heap.size w1 w2 := bl_trans (Below.refl _ _).drew hb2)
    | (go_at_call 36; refine (C2.out _ (by assumption)).mono ?_; rintro e w3 ⟨g2, c2, rfl, ho2, hb3⟩))
  go_wp2
  go_ret2
  exact ⟨g1, c1, g2, c2, rfl, both_of Hb.out ho1 hb2 ho2 hb3⟩

set_option maxHeartbeats 1000000 in
/-- An empty line. -/
theorem specWake_none (a : Option Addr) (cap : Nat) (k : Int) (w : World) (hk : 0 ≤ k) :
    Calls Try.prog 25 #[.slice a 0 cap, .int .i64 k] w fun e w' => ∃ g1 c1 g2 c2, e = .returned (.tuple #[.slice (some ⟨g1, 0, none⟩) 0 c1, .slice (some ⟨g2, 0, none⟩) 0 c2]) ∧ Both w g1 0 c1 [] g2 0 c2 [] w' := by
  go_enter Try.func25, Try.ntmps25
  go_wp2_with fail
  refine (specLineOk_any a 0 cap [] _ (IntsAt.nil _ _) (by omega) (Nat.zero_le _)).mono ?_
  rintro e w1 ⟨rfl, hb1⟩
  have Hb := hidOf hb1
  have C1 := hidOf (fun (a : Option Addr) (c : Nat) => l2Copy_any a 0 c [] w1.drew (IntsAt.nil _ _) (by omega))
  have C2 := hidOf (fun (a : Option Addr) (c : Nat) (w' : World) (_ : Below w1.heap.size w1 w') => l2Copy_any a 0 c [] w' (IntsAt.nil _ _) (by omega))
  clear hb1
  have hl : lineL [] = true := rfl
  rw [hl]
  have hk0 : ¬ k < 0 := by omega
  rcases Int.lt_or_eq_of_le hk with hp | rfl
  · have hp' : (0 : Int) < k := hp
    rcases a with _ | ad
    · go_wp2_with fail
      go_region_with (first
        | (go_at_call 36; refine (C1.out _ _).mono ?_; rintro e w2 ⟨g1, c1, rfl, ho1, hb2⟩; replace hb2 : Below w1.heap.size w1 w2 := bl_trans (Below.refl _ _).drew hb2)
        | (go_at_call 36; refine (C2.out _ _ _ (by assumption)).mono ?_; rintro e w3 ⟨g2, c2, rfl, ho2, hb3⟩))
      go_wp2
      go_ret2
      exact ⟨g1, c1, g2, c2, rfl, both_of Hb.out ho1 hb2 ho2 hb3⟩
    · go_wp2_with fail
      go_region_with (first
        | (go_at_call 36; refine (C1.out _ _).mono ?_; rintro e w2 ⟨g1, c1, rfl, ho1, hb2⟩; replace hb2 : Below w1.heap.size w1 w2 := bl_trans (Below.refl _ _).drew hb2)
        | (go_at_call 36; refine (C2.out _ _ _ (by assumption)).mono ?_; rintro e w3 ⟨g2, c2, rfl, ho2, hb3⟩))
      go_wp2
      go_ret2
      exact ⟨g1, c1, g2, c2, rfl, both_of Hb.out ho1 hb2 ho2 hb3⟩
  · rcases a with _ | ad
    · go_wp2_with fail
      go_region_with (first
        | (go_at_call 36; refine (C1.out _ _).mono ?_; rintro e w2 ⟨g1, c1, rfl, ho1, hb2⟩; replace hb2 : Below w1.heap.size w1 w2 := bl_trans (Below.refl _ _).drew hb2)
        | (go_at_call 36; refine (C2.out _ _ _ (by assumption)).mono ?_; rintro e w3 ⟨g2, c2, rfl, ho2, hb3⟩))
      go_wp2
      go_ret2
      exact ⟨g1, c1, g2, c2, rfl, both_of Hb.out ho1 hb2 ho2 hb3⟩
    · go_wp2_with fail
      go_region_with (first
        | (go_at_call 36; refine (C1.out _ _).mono ?_; rintro e w2 ⟨g1, c1, rfl, ho1, hb2⟩; replace hb2 : Below w1.heap.size w1 w2 := bl_trans (Below.refl _ _).drew hb2)
        | (go_at_call 36; refine (C2.out _ _ _ (by assumption)).mono ?_; rintro e w3 ⟨g2, c2, rfl, ho2, hb3⟩))
      go_wp2
      go_ret2
      exact ⟨g1, c1, g2, c2, rfl, both_of Hb.out ho1 hb2 ho2 hb3⟩
end Go.Proofs.Ytlodnmbkicmjfaa
