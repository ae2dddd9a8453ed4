/-
  Changes turned about: plain mathematics.
-/
import Derived.Test.YtigmcbgcdjofjaaBX3
namespace Go.Proofs.Ytigmcbgcdjofjaa
open Go.RowKit Pl Il

theorem lt_irr {k n : Int} {s : ByteArray} : ltB k n s k n s = false := by
  cases h : ltB k n s k n s with
  | false => rfl
  | true => have := lt_asymm h; rw [h] at this; cases this
theorem ch_put {k n : Int} {s : ByteArray} {k' n' : Int} {s' : ByteArray} (h0 : okB k n s = true) (h1 : okB k' n' s' = true) : changedM k n s 1 k' n' s' = (k', n', s', true) := by
  rw [ch_some h0 h1 (raw1 k n s k' n' s'), if_pos h1]
theorem ch_most {k n : Int} {s : ByteArray} {k' n' : Int} {s' : ByteArray} (h0 : okB k n s = true) (h1 : okB k' n' s' = true) :
    ∃ a b c, changedM k n s 4 k' n' s' = (a, b, c, true) ∧ changedM k' n' s' 4 k n s = (a, b, c, true) ∧ ltB a b c k n s = false ∧ c.size ≤ 40 := by
  have sz : ∀ {k n : Int} {s : ByteArray}, okB k n s = true → s.size ≤ 40 := fun h => by
    rcases ok_cases h with ⟨_, rfl, _⟩ | ⟨_, _, h⟩
    · decide
    · exact h
  cases hl : ltB k n s k' n' s' with
  | true =>
    refine ⟨k', n', s', ?_, ?_, lt_asymm hl, sz h1⟩
    · rw [ch_some h0 h1 (raw4n (lt_asymm hl)), if_pos h1]
    · rw [ch_some h1 h0 (raw4y hl), if_pos h1]
  | false =>
    cases hr : ltB k' n' s' k n s with
    | true =>
      refine ⟨k, n, s, ?_, ?_, lt_irr, sz h0⟩
      · rw [ch_some h0 h1 (raw4y hr), if_pos h0]
      · rw [ch_some h1 h0 (raw4n hl), if_pos h0]
    | false =>
      obtain ⟨rfl, rfl, hs⟩ := lt_tri h0 h1 hl hr
      have := ba_extC hs
      subst this
      exact ⟨k, n, s, by rw [ch_some h0 h1 (raw4n hr), if_pos h0], by rw [ch_some h0 h1 (raw4n hr), if_pos h0], lt_irr, sz h0⟩
theorem ch_add {k n : Int} {s : ByteArray} {k' n' : Int} {s' : ByteArray} (h0 : okB k n s = true) (h1 : okB k' n' s' = true) : changedM k n s 2 k' n' s' = changedM k' n' s' 2 k n s := by
  by_cases h : k = 1 ∧ k' = 1
  · rw [ch_some h0 h1 (raw2 h), ch_some h1 h0 (raw2 ⟨h.2, h.1⟩)]
    rcases ok_cases h0 with ⟨rfl, rfl, _⟩ | ⟨h2, _⟩
    · rcases ok_cases h1 with ⟨rfl, rfl, _⟩ | ⟨h2, _⟩
      · rw [Int.add_comm]
      · omega
    · omega
  · rw [ch_none h0 h1 (raw2n h), ch_none h1 h0 (raw2n (fun e => h ⟨e.2, e.1⟩))]
/-- What is told as done is right. -/
theorem ch_fine {k n : Int} {s : ByteArray} {kind k' n' : Int} {s' : ByteArray} {a b : Int} {c : ByteArray} (h : changedM k n s kind k' n' s' = (a, b, c, true)) : okB a b c = true := by
  unfold changedM at h
  split at h
  · simp [noCh] at h
  · split at h
    · simp [noCh] at h
    · split at h
      · simp [noCh] at h
      · split at h
        · rename_i ho
          simp at h
          obtain ⟨rfl, rfl, rfl⟩ := h
          exact ho
        · simp [noCh] at h
theorem ch_size {k n : Int} {s : ByteArray} {kind k' n' : Int} {s' : ByteArray} : (changedM k n s kind k' n' s').2.2.1.size ≤ 40 := by
  obtain ⟨⟨a, b, c, d⟩, hx⟩ : ∃ x, changedM k n s kind k' n' s' = x := ⟨_, rfl⟩
  rw [hx]
  cases d with
  | true =>
    rcases ok_cases (ch_fine hx) with ⟨_, rfl, _⟩ | ⟨_, _, h⟩
    · exact (by decide : (0 : Nat) ≤ 40)
    · exact h
  | false =>
    unfold changedM at hx
    split at hx
    · simp [noCh] at hx; obtain ⟨_, _, rfl⟩ := hx; exact (by decide : (0 : Nat) ≤ 40)
    · split at hx
      · simp [noCh] at hx; obtain ⟨_, _, rfl⟩ := hx; exact (by decide : (0 : Nat) ≤ 40)
      · split at hx
        · simp [noCh] at hx; obtain ⟨_, _, rfl⟩ := hx; exact (by decide : (0 : Nat) ≤ 40)
        · split at hx
          · simp at hx
          · simp [noCh] at hx; obtain ⟨_, _, rfl⟩ := hx; exact (by decide : (0 : Nat) ≤ 40)
/-- Of a message that is not right nothing is made. -/
theorem ch_bad {k n : Int} {s : ByteArray} {kind k' n' : Int} {s' : ByteArray} (h : okB k n s = false ∨ okB k' n' s' = false) : changedM k n s kind k' n' s' = noCh := by
  rcases h with h | h
  · exact ch_no1 h
  · unfold changedM
    rw [if_pos h]
    split <;> rfl
end Go.Proofs.Ytigmcbgcdjofjaa
