/-
  Walks of Wake, the specification's and the program's.
-/
import Derived.Test.YtlodnmbkicmjfaaQ6
namespace Go.Proofs.Ytlodnmbkicmjfaa
open Go.RowKit Go.Maps Pl Il

/-- What Wake leaves of the line. -/
def wakeRest (xs : List Int) (k : Int) : List Int := if lineL xs && decide (0 ≤ k) then xs.drop (wakeN xs k) else xs
/-- Whom Wake wakes. -/
def wakeOut (xs : List Int) (k : Int) : List Int := if lineL xs && decide (0 ≤ k) then xs.take (wakeN xs k) else []
theorem wake_bad {xs : List Int} {k : Int} (h : lineL xs = false ∨ k < 0) : wakeRest xs k = xs ∧ wakeOut xs k = [] := by
  rcases h with h | h
  · simp [wakeRest, wakeOut, h]
  · have : ¬ 0 ≤ k := by omega
    simp [wakeRest, wakeOut, this]
theorem wake_good {xs : List Int} {k : Int} (h : lineL xs = true) (hk : 0 ≤ k) : wakeRest xs k = xs.drop (wakeN xs k) ∧ wakeOut xs k = xs.take (wakeN xs k) := by
  simp [wakeRest, wakeOut, h, hk]

/-- Two lists that the call has made, apart from one another. -/
structure Apart (w : World) (a1 : Option Addr) (m1 : Nat) (ys : List Int) (a2 : Option Addr) (m2 : Nat) (zs : List Int) (w' : World) : Prop where
  one : Il.OwnAt w.heap.size w' a1 m1 ys
  two : Il.OwnAt w.heap.size w' a2 m2 zs
  apart : m1 = 0 ∨ m2 = 0 ∨ ∀ b off b' off', a1 = some ⟨b, off, none⟩ → a2 = some ⟨b', off', none⟩ → b ≠ b'
  below : Below w.heap.size w w'
theorem Both.toApart {w w' : World} {g1 m1 c1 g2 m2 c2 : Nat} {xs ys : List Int} (h : Both w g1 m1 c1 xs g2 m2 c2 ys w') : Apart w (some ⟨g1, 0, none⟩) m1 xs (some ⟨g2, 0, none⟩) m2 ys w' :=
  ⟨(owns_parts h.one).2.2.2.2.2, (owns_parts h.two).2.2.2.2.2, .inr (.inr fun b off b' off' e e' => by cases e; cases e'; exact h.apart), h.below⟩

theorem specWake_any (b off n : Nat) (xs : List Int) (k : Int) (w : World) (hI : IntsAt w (some ⟨b, off, none⟩) n xs) (hn : n ≤ 2097152) :
    Calls Try.prog 25 #[.slice (some ⟨b, off, none⟩) n n, .int .i64 k] w fun e w' => ∃ a1 m1 c1 a2 m2 c2, e = .returned (.tuple #[.slice a1 m1 c1, .slice a2 m2 c2]) ∧ Apart w a1 m1 (wakeRest xs k) a2 m2 (wakeOut xs k) w' := by
  by_cases hbad : lineL xs = false ∨ k < 0
  · obtain ⟨e1, e2⟩ := wake_bad hbad
    rw [e1, e2]
    refine (specWake_bad _ n n xs k w hI hn (Nat.le_refl _) hbad).mono ?_
    rintro e w' ⟨g, c, rfl, ho, hb⟩
    exact ⟨_, _, _, _, _, _, rfl, (owns_parts ho).2.2.2.2.2, ⟨⟨rfl, .inl rfl⟩, .inl rfl⟩, .inr (.inl rfl), hb⟩
  · have hl : lineL xs = true := by
      cases h : lineL xs
      · exact absurd (.inl h) hbad
      · rfl
    have hk : 0 ≤ k := by
      rcases Int.lt_or_le k 0 with h | h
      · exact absurd (.inr h) hbad
      · exact h
    obtain ⟨e1, e2⟩ := wake_good hl hk
    have hlen := hI.len
    rw [e1, e2]
    by_cases hkn : k < (n : Int)
    · obtain ⟨m, rfl⟩ := Int.eq_ofNat_of_zero_le hk
      have hm : wakeN xs (m : Int) = m := by rw [wakeN_in (by omega)]; simp
      rw [hm]
      refine (specWake_some b off n n xs m w hI (Nat.le_refl _) hl (by omega) (by omega)).mono ?_
      rintro e w' ⟨g1, c1, g2, c2, rfl, hB⟩
      exact ⟨_, _, _, _, _, _, rfl, hB.toApart⟩
    · have hm : wakeN xs k = n := by
        by_cases h : k > (xs.length : Int)
        · rw [wakeN_over h]; exact hlen
        · rw [wakeN_in h]; omega
      rw [hm, ← hlen, List.drop_length, List.take_length, hlen]
      refine (specWake_full b off n xs k w hI hl (by omega)).mono ?_
      rintro e w' ⟨g1, c1, g2, c2, rfl, hB⟩
      exact ⟨_, _, _, _, _, _, rfl, hB.toApart⟩

theorem implWake_any (a : Option Addr) (n cap : Nat) (xs : List Int) (k : Int) (w : World) (hI : IntsAt w a n xs) (hn : n ≤ 2097152) (hw : wfL xs) :
    Calls Try.prog 16 #[.slice a n cap, .int .i64 k] w fun e w' => ∃ a1 m1 c1 a2 m2 c2, e = .returned (.tuple #[.slice a1 m1 c1, .slice a2 m2 c2]) ∧ Apart w a1 m1 (wakeRest xs k) a2 m2 (wakeOut xs k) w' := by
  have hlen := hI.len
  go_enter Try.func16, Try.ntmps16
  go_wp2_with fail
  refine (lineQueue_any a n cap xs _ hI hn hw).mono ?_
  rintro e w1 ⟨p, rfl, hq, hb⟩
  have HI := hidOf (hI.keep hb)
  clear hI
  cases hl : lineL xs
  · clear hq
    go_wp2_with fail
    refine (copied_any a n cap xs _ HI.out hn).mono ?_
    rintro e w2 ⟨a', c', rfl, ho, hb2⟩
    have HB := hidOf (Back.of hb ho hb2)
    have HW := hidOf (wake_bad (k := k) (.inl hl))
    clear ho hb2
    go_wp2
    go_ret2
    rw [HW.out.1, HW.out.2]
    exact ⟨_, _, _, _, _, _, rfl, HB.out.own, ⟨⟨rfl, .inl rfl⟩, .inl rfl⟩, .inr (.inl rfl), HB.out.below⟩
  · obtain ⟨qb, rfl, hQ⟩ := hq hl
    have hnd := nodup_line hl
    have h32 := line_len hl
    by_cases hk : k < 0
    · have HW := hidOf (wake_bad (xs := xs) (.inr hk))
      clear hQ hq
      go_wp2_with fail
      refine (copied_any a n cap xs _ HI.out hn).mono ?_
      rintro e w2 ⟨a', c', rfl, ho, hb2⟩
      have HB := hidOf (Back.of hb ho hb2)
      clear ho hb2
      go_wp2
      go_ret2
      rw [HW.out.1, HW.out.2]
      exact ⟨_, _, _, _, _, _, rfl, HB.out.own, ⟨⟨rfl, .inl rfl⟩, .inl rfl⟩, .inr (.inl rfl), HB.out.below⟩
    · have hk0 : 0 ≤ k := by omega
      have HW := hidOf (wake_good hl hk0)
      have hwk := wake_any _ qb xs (wakeN xs k) w1 hQ hw hnd h32 (wakeN_le xs k hk0) k (by
        by_cases h : k > (xs.length : Int)
        · right; rw [wakeN_over h]; omega
        · left; rw [wakeN_in h]; omega)
      have HWk := hidOf hwk
      clear hwk hQ hq
      go_wp2_with fail
      refine HWk.out.mono ?_
      rintro e w2 ⟨a2, c2, rfl, ho2, hQ2, hb2⟩
      have hS := standing_any _ qb xs (xs.take (wakeN xs k)) w2 hQ2 hw (by omega)
      rw [stand_rest hnd] at hS
      have HS := hidOf hS
      have HO2 := hidOf ho2
      clear hS hQ2 HWk ho2
      generalize wakeN xs k = m at *
      go_wp2_with fail
      refine HS.out.mono ?_
      rintro e w3 ⟨v, rfl, ho, hb3⟩
      generalize (xs.drop m).length = ml at ho
      obtain ⟨a1, c1, rfl, hO⟩ := own_of ho _ rfl
      have hb12 : Below w.heap.size w w2 := hb.trans hb2
      have hAp : Apart w a1 ml (xs.drop m) a2 m (xs.take m) w3 := by
        refine ⟨hO.mono hb12.size, (HO2.out.keep hb3).mono hb.size, ?_, bl_trans hb12 hb3⟩
        rcases hO.own with h0 | ⟨b, off, rfl, hB, _⟩
        · exact .inl h0
        · rcases HO2.out.ints.row with h0 | ⟨b', off', rfl, hlt, _⟩
          · exact .inr (.inl h0)
          · refine .inr (.inr fun x ox y oy e e' => ?_)
            cases e; cases e'
            omega
      have HB := hidOf hAp
      clear ho hO hAp
      go_wp2
      go_ret2
      rw [HW.out.1, HW.out.2]
      exact ⟨_, _, _, _, _, _, rfl, HB.out⟩
end Go.Proofs.Ytlodnmbkicmjfaa
