/-
  Walks of Wake, the specification's and the program's.
-/
import Derived.Test.YtfgknbflgmblmaaQ6
namespace Go.Proofs.Ytfgknbflgmblmaa
open Go.RowKit Go.Maps Pl Il

/-- What Wake leaves of the line. -/
def wakeRest (xs : List Int) (k : Int) : List Int := if lineL xs && decide (0 ≤ k) then xs.drop (wakeN xs k) else xs
/-- Whom Wake wakes. -/
def wakeOut (xs : List Int) (k : Int) : List Int := if lineL xs && decide (0 ≤ k) then xs.take (wakeN xs k) else []
theorem wake_bad {xs : List Int} {k : Int} (h : lineL xs = false ∨ k < 0) : wakeRest xs k = xs ∧ wakeOut xs k = [] := by
  rcases h with h | h
  · simp [wakeRest, wakeOut, h]
  · have : ¬ 0 ≤ k := by omega
    simp [wakeRest, wakeOut, this]
theorem wake_good {xs : List Int} {k : Int} (h : lineL xs = true) (hk : 0 ≤ k) : wakeRest xs k = xs.drop (wakeN xs k) ∧ wakeOut xs k = xs.take (wakeN xs k) := by
  simp [wakeRest, wakeOut, h, hk]

/-- Two lists that the call has made, apart from one another. -/
structure Apart (w : World) (a1 : Option Addr) (m1 : Nat) (ys : List Int) (a2 : Option Addr) (m2 : Nat) (zs : List Int) (w' : World) : Prop where
  one : Il.OwnAt w.heap.size w' a1 m1 ys
  two : Il.OwnAt w.heap.size w' a2 m2 zs
  apart : m1 = 0 ∨ m2 = 0 ∨ ∀ b off b' off', a1 = some ⟨b, off, none⟩ → a2 = some ⟨b', off', none⟩ → b ≠ b'
  below : Below w.heap.size w w'
theorem implWake_any2 (a : Option Addr) (n cap : Nat) (xs : List Int) (k : Int) (w : World) (hI : IntsAt w a n xs) (hn : n ≤ 2097152) (hw : wfL xs) :
    Calls Try.prog 76 #[.slice a n cap, .int .i64 k] w fun e w' => ∃ a1 m1 c1 a2 m2 c2, e = .returned (.tuple #[.slice a1 m1 c1, .slice a2 m2 c2]) ∧ Apart w a1 m1 (wakeRest xs k) a2 m2 (wakeOut xs k) w' ∧ m1 ≤ c1 := by
  have hlen := hI.len
  go_enter Try.func76, Try.ntmps76
  go_wp2_with fail
  refine (lineQueue_any a n cap xs _ hI hn hw).mono ?_
  rintro e w1 ⟨p, rfl, hq, hb⟩
  have HI := hidOf (hI.keep hb)
  clear hI
  cases hl : lineL xs
  · clear hq
    go_wp2_with fail
    refine (copied_any2 a n cap xs _ HI.out hn).mono ?_
    rintro e w2 ⟨a', c', rfl, ho, hb2, hcp⟩
    have HB := hidOf (Back.of hb ho hb2)
    have HW := hidOf (wake_bad (k := k) (.inl hl))
    clear ho hb2
    go_wp2
    go_ret2
    rw [HW.out.1, HW.out.2]
    exact ⟨_, _, _, _, _, _, rfl, ⟨HB.out.own, ⟨⟨rfl, .inl rfl⟩, .inl rfl⟩, .inr (.inl rfl), HB.out.below⟩, hcp⟩
  · obtain ⟨qb, rfl, hQ⟩ := hq hl
    have hnd := nodup_line hl
    have h32 := line_len hl
    by_cases hk : k < 0
    · have HW := hidOf (wake_bad (xs := xs) (.inr hk))
      clear hQ hq
      go_wp2_with fail
      refine (copied_any2 a n cap xs _ HI.out hn).mono ?_
      rintro e w2 ⟨a', c', rfl, ho, hb2, hcp⟩
      have HB := hidOf (Back.of hb ho hb2)
      clear ho hb2
      go_wp2
      go_ret2
      rw [HW.out.1, HW.out.2]
      exact ⟨_, _, _, _, _, _, rfl, ⟨HB.out.own, ⟨⟨rfl, .inl rfl⟩, .inl rfl⟩, .inr (.inl rfl), HB.out.below⟩, hcp⟩
    · have hk0 : 0 ≤ k := by omega
      have HW := hidOf (wake_good hl hk0)
      have hwk := wake_any _ qb xs (wakeN xs k) w1 hQ hw hnd h32 (wakeN_le xs k hk0) k (by
        by_cases h : k > (xs.length : Int)
        · right; rw [wakeN_over h]; omega
        · left; rw [wakeN_in h]; omega)
      have HWk := hidOf hwk
      clear hwk hQ hq
      go_wp2_with fail
      refine HWk.out.mono ?_
      rintro e w2 ⟨a2, c2, rfl, ho2, hQ2, hb2⟩
      have hS := standing_any _ qb xs (xs.take (wakeN xs k)) w2 hQ2 hw (by omega)
      rw [stand_rest hnd] at hS
      have HS := hidOf hS
      have HO2 := hidOf ho2
      clear hS hQ2 HWk ho2
      generalize wakeN xs k = m at *
      go_wp2_with fail
      refine HS.out.mono ?_
      rintro e w3 ⟨v, rfl, ho, hb3⟩
      generalize (xs.drop m).length = ml at ho
      obtain ⟨a1, c1, rfl, hO⟩ := own_of ho _ rfl
      have hcp := own_cap ho
      have hb12 : Below w.heap.size w w2 := hb.trans hb2
      have hAp : Apart w a1 ml (xs.drop m) a2 m (xs.take m) w3 := by
        refine ⟨hO.mono hb12.size, (HO2.out.keep hb3).mono hb.size, ?_, bl_trans hb12 hb3⟩
        rcases hO.own with h0 | ⟨b, off, rfl, hB, _⟩
        · exact .inl h0
        · rcases HO2.out.ints.row with h0 | ⟨b', off', rfl, hlt, _⟩
          · exact .inr (.inl h0)
          · refine .inr (.inr fun x ox y oy e e' => ?_)
            cases e; cases e'
            omega
      have HB := hidOf hAp
      clear ho hO hAp
      go_wp2
      go_ret2
      rw [HW.out.1, HW.out.2]
      exact ⟨_, _, _, _, _, _, rfl, HB.out, hcp⟩
theorem implWake_any (a : Option Addr) (n cap : Nat) (xs : List Int) (k : Int) (w : World) (hI : IntsAt w a n xs) (hn : n ≤ 2097152) (hw : wfL xs) :
    Calls Try.prog 76 #[.slice a n cap, .int .i64 k] w fun e w' => ∃ a1 m1 c1 a2 m2 c2, e = .returned (.tuple #[.slice a1 m1 c1, .slice a2 m2 c2]) ∧ Apart w a1 m1 (wakeRest xs k) a2 m2 (wakeOut xs k) w' :=
  (implWake_any2 a n cap xs k w hI hn hw).mono fun _ _ ⟨a1, m1, c1, a2, m2, c2, h1, h2, _⟩ => ⟨a1, m1, c1, a2, m2, c2, h1, h2⟩
end Go.Proofs.Ytfgknbflgmblmaa
