/-
  The plain mathematics of a number's text (no program in it): which texts are read, and that just they are written.
-/
import Derived.Lib.AtoiAll
import Derived.Lib.ItoaNum
namespace Go.Proofs.YtljecghkechcaaaDoor.Nu
open Go.Lib

/-- The value of digits, or none. -/
def valL (acc : Nat) : List UInt8 → Option Nat
  | [] => some acc
  | c :: r => if 48 ≤ c.toNat ∧ c.toNat ≤ 57 then valL (acc * 10 + (c.toNat - 48)) r else none
/-- The digits behind the sign: one to nine, no needless nought ahead (behind a sign none at all). -/
def magL (below : Bool) (l : List UInt8) : Option Nat :=
  if 1 ≤ l.length ∧ l.length ≤ 9 ∧ ¬ (l.head? = some 48 ∧ (1 < l.length ∨ below = true)) then valL 0 l else none
/-- A number's text. -/
def numL (l : List UInt8) : Option Int :=
  if l.head? = some 45 then (magL true l.tail).map fun (u : Nat) => -(u : Int) else (magL false l).map fun (u : Nat) => (u : Int)

theorem valL_snoc (c : UInt8) : ∀ (l : List UInt8) (acc : Nat), valL acc (l ++ [c]) = (valL acc l).bind fun u => if 48 ≤ c.toNat ∧ c.toNat ≤ 57 then some (u * 10 + (c.toNat - 48)) else none
  | [], acc => by simp [valL]
  | b :: r, acc => by
    simp only [List.cons_append, valL]
    split
    · exact valL_snoc c r _
    · rfl
theorem valL_ge : ∀ (l : List UInt8) (acc u : Nat), valL acc l = some u → acc ≤ u
  | [], acc, u, h => by simp [valL] at h; omega
  | c :: r, acc, u, h => by
    simp only [valL] at h
    split at h
    · have := valL_ge r _ u h; omega
    · cases h
theorem valL_lt : ∀ (l : List UInt8) (acc u : Nat), valL acc l = some u → u < (acc + 1) * 10 ^ l.length
  | [], acc, u, h => by simp [valL] at h; simp; omega
  | c :: r, acc, u, h => by
    simp only [valL] at h
    split at h
    · have := valL_lt r _ u h
      simp only [List.length_cons, Nat.pow_succ]
      have e : (acc + 1) * (10 ^ r.length * 10) = ((acc + 1) * 10) * 10 ^ r.length := by rw [Nat.mul_comm (10 ^ r.length) 10, Nat.mul_assoc]
      rw [e]
      refine Nat.lt_of_lt_of_le this (Nat.mul_le_mul_right _ ?_)
      omega
    · cases h
theorem parse_valL : ∀ (l : List UInt8) (acc u : Nat), valL acc l = some u → u < 1000000000 → parseUint10 acc l = .ok u
  | [], acc, u, h, _ => by simp [valL] at h; simp [parseUint10, h]
  | c :: r, acc, u, h, hu => by
    simp only [valL] at h
    split at h
    · rename_i hc
      have := valL_ge r _ u h
      simp only [parseUint10]
      rw [if_pos hc, if_neg (by omega), if_neg (by omega)]
      exact parse_valL r _ u h hu
    · cases h

theorem head_app (l r : List UInt8) (h : l ≠ []) : (l ++ r).head? = l.head? := by
  cases l with
  | nil => exact absurd rfl h
  | cons a b => rfl
theorem dig_toNat (d : Nat) (h : d < 10) : (UInt8.ofNat (48 + d)).toNat = 48 + d := by
  simp [UInt8.toNat_ofNat']; omega
theorem dd_small {u : Nat} (h : u < 10) : decDigits u = [UInt8.ofNat (48 + u)] := by rw [decDigits, dif_pos h]
theorem dd_big {u : Nat} (h : ¬ u < 10) : decDigits u = decDigits (u / 10) ++ [UInt8.ofNat (48 + u % 10)] := by rw [decDigits, dif_neg h]

theorem dd_val (u : Nat) : valL 0 (decDigits u) = some u := by
  induction u using Nat.strongRecOn with
  | ind u ih =>
    by_cases h : u < 10
    · rw [dd_small h]
      have := dig_toNat u h
      simp only [valL]
      rw [if_pos (by omega)]
      congr 1; omega
    · rw [dd_big h, valL_snoc, ih (u / 10) (by omega)]
      have := dig_toNat (u % 10) (by omega)
      simp only [Option.bind_some]
      rw [if_pos (by omega)]
      congr 1; omega
theorem dd_ne (u : Nat) : decDigits u ≠ [] := by
  by_cases h : u < 10
  · rw [dd_small h]; simp
  · rw [dd_big h]; simp
theorem dd_head (u : Nat) (h : (decDigits u).head? = some 48) : u = 0 := by
  induction u using Nat.strongRecOn with
  | ind u ih =>
    by_cases hu : u < 10
    · rw [dd_small hu] at h
      simp only [List.head?_cons, Option.some.injEq] at h
      have := dig_toNat u hu
      rw [h] at this
      have e : (48 : UInt8).toNat = 48 := rfl
      omega
    · rw [dd_big hu, head_app _ _ (dd_ne _)] at h
      have := ih (u / 10) (by omega) h
      omega
theorem dd_len (k : Nat) : ∀ u : Nat, u < 10 ^ (k + 1) → (decDigits u).length ≤ k + 1 := by
  induction k with
  | zero => intro u h; rw [dd_small (by simpa using h)]; simp
  | succ k ih =>
    intro u h
    by_cases hu : u < 10
    · rw [dd_small hu]; simp
    · rw [dd_big hu]
      have := ih (u / 10) (by rw [Nat.pow_succ] at h; omega)
      simp; omega
theorem dd_len1 (u : Nat) : 1 ≤ (decDigits u).length := by
  have := dd_ne u
  cases h : decDigits u with
  | nil => exact absurd h this
  | cons a r => simp

theorem dd_of (n : Nat) : ∀ (l : List UInt8) (u : Nat), l.length = n → l ≠ [] → (l.head? ≠ some 48 ∨ l.length = 1) → valL 0 l = some u → decDigits u = l := by
  induction n with
  | zero => intro l u hl hn; exact absurd (List.length_eq_zero_iff.1 hl) hn
  | succ n ih =>
    intro l u hl hn hh hv
    rcases List.eq_nil_or_concat l with rfl | ⟨r, c, rfl⟩
    · exact absurd rfl hn
    · rw [List.concat_eq_append] at *
      rw [valL_snoc] at hv
      cases hr : valL 0 r with
      | none => rw [hr] at hv; cases hv
      | some v =>
        rw [hr] at hv
        simp only [Option.bind_some] at hv
        split at hv
        · rename_i hc
          have hv' : v * 10 + (c.toNat - 48) = u := by simpa using hv
          cases hrl : r with
          | nil =>
            subst hrl
            simp [valL] at hr
            subst hr
            rw [dd_small (by omega)]
            have : UInt8.ofNat (48 + u) = c := by
              apply UInt8.toNat_inj.1
              rw [dig_toNat u (by omega)]; omega
            rw [this]; rfl
          | cons a r' =>
            have hr0 : r ≠ [] := by rw [hrl]; simp
            have hlen : r.length = n := by simp at hl; omega
            have hhead : r.head? ≠ some 48 := by
              rcases hh with hh | hh
              · rwa [head_app _ _ hr0] at hh
              · rw [hrl] at hh; simp at hh
            have e := ih r v hlen hr0 (.inl hhead) hr
            have hv1 : 1 ≤ v := by
              rcases Nat.eq_zero_or_pos v with h0 | h0
              · subst h0
                rw [dd_small (by omega)] at e
                rw [← e] at hhead
                exact absurd rfl hhead
              · exact h0
            rw [← hrl, dd_big (by omega)]
            have e1 : u / 10 = v := by omega
            have e2 : UInt8.ofNat (48 + u % 10) = c := by
              apply UInt8.toNat_inj.1
              rw [dig_toNat _ (by omega)]; omega
            rw [e1, e2, e]
        · cases hv
theorem dd_pos {u : Nat} (h : u ≠ 0) : (decDigits u).head? ≠ some 48 := fun e => h (dd_head u e)

theorem mag_of {b : Bool} {l : List UInt8} {u : Nat} (h : magL b l = some u) : decDigits u = l ∧ u < 1000000000 ∧ valL 0 l = some u ∧ (b = true → u ≠ 0) := by
  unfold magL at h
  split at h
  · rename_i hc
    obtain ⟨h1, h9, hn⟩ := hc
    have hne : l ≠ [] := by intro e; subst e; simp at h1
    have hh : l.head? ≠ some 48 ∨ l.length = 1 := by
      by_cases e : l.head? = some 48
      · exact .inr (by rcases Nat.lt_or_ge 1 l.length with g | g; exact absurd ⟨e, .inl g⟩ hn; omega)
      · exact .inl e
    have e := dd_of l.length l u rfl hne hh h
    refine ⟨e, ?_, h, ?_⟩
    · have := valL_lt l 0 u h
      have m : (0 + 1) * 10 ^ l.length ≤ 1000000000 := by
        have := Nat.pow_le_pow_right (show 0 < 10 by decide) h9
        omega
      omega
    · rintro rfl rfl
      rw [dd_small (by omega)] at e
      exact hn ⟨by rw [← e]; rfl, .inr rfl⟩
  · cases h
theorem mag_dd {b : Bool} {u : Nat} (h : u < 1000000000) (hb : b = true → u ≠ 0) : magL b (decDigits u) = some u := by
  unfold magL
  have h9 := dd_len 8 u (by simpa using h)
  have hc : ¬ ((decDigits u).head? = some 48 ∧ (1 < (decDigits u).length ∨ b = true)) := by
    rintro ⟨e, k⟩
    have hz := dd_head u e
    subst hz
    rcases k with k | k
    · rw [dd_small (by omega)] at k; simp at k
    · exact hb k rfl
  rw [if_pos ⟨dd_len1 u, h9, hc⟩]
  exact dd_val u

theorem num_of {l : List UInt8} {n : Int} (h : numL l = some n) : itoa n = l ∧ -999999999 ≤ n ∧ n ≤ 999999999 ∧ atoiAll l = .ok n := by
  unfold numL at h
  split at h
  · rename_i h45
    cases hm : magL true l.tail with
    | none => rw [hm] at h; cases h
    | some u =>
      rw [hm] at h
      have h : -(u : Int) = n := Option.some.inj h
      subst h
      obtain ⟨e, hu, hv, h0⟩ := mag_of hm
      have h0 := h0 rfl
      cases l with
      | nil => simp at h45
      | cons c r =>
        simp only [List.head?_cons, Option.some.injEq] at h45
        subst h45
        simp only [List.tail_cons] at e hv
        refine ⟨?_, by omega, by omega, ?_⟩
        · unfold itoa
          rw [if_pos (by omega)]
          have : (-(u : Int)).natAbs = u := by omega
          rw [this, e]
        · have hr : r ≠ [] := by intro er; rw [er] at e; exact dd_ne u e
          have c45 : (45 : UInt8).toNat = 45 := rfl
          simp only [atoiAll, c45]
          rw [if_pos (Or.inr trivial)]
          unfold parseMag
          rw [if_neg hr, parse_valL r 0 u hv hu]
          simp only
          rw [if_neg (fun h => h.1 trivial), if_neg (by rintro ⟨_, h⟩; omega)]
          simp
  · rename_i h45
    cases hm : magL false l with
    | none => rw [hm] at h; cases h
    | some u =>
      rw [hm] at h
      have h : (u : Int) = n := Option.some.inj h
      subst h
      obtain ⟨e, hu, hv, _⟩ := mag_of hm
      refine ⟨?_, by omega, by omega, ?_⟩
      · unfold itoa
        rw [if_neg (by omega)]
        have : ((u : Int)).toNat = u := by omega
        rw [this, e]
      · cases l with
        | nil => exact absurd e (dd_ne u)
        | cons c r =>
          have hc : 48 ≤ c.toNat ∧ c.toNat ≤ 57 := by
            simp only [valL] at hv
            split at hv
            · assumption
            · cases hv
          simp only [atoiAll]
          rw [if_neg (by omega)]
          unfold parseMag
          rw [if_neg (by simp), parse_valL (c :: r) 0 u hv hu]
          simp only
          rw [if_neg (by omega), if_neg (by omega), if_neg (by omega)]
theorem num_itoa {n : Int} (h0 : -999999999 ≤ n) (h1 : n ≤ 999999999) : numL (itoa n) = some n := by
  unfold itoa
  split
  · rename_i hn
    unfold numL
    rw [if_pos (by rfl)]
    simp only [List.tail_cons]
    rw [mag_dd (by omega) (fun _ => by omega)]
    show some (-(n.natAbs : Int)) = some n
    congr 1; omega
  · rename_i hn
    unfold numL
    have hh : ¬ (decDigits n.toNat).head? = some 45 := by
      intro e
      have hv := dd_val n.toNat
      cases hd : decDigits n.toNat with
      | nil => exact dd_ne _ hd
      | cons c r =>
        rw [hd] at e hv
        simp only [List.head?_cons, Option.some.injEq] at e
        subst e
        simp [valL] at hv
    rw [if_neg hh, mag_dd (by omega) (fun e => by cases e)]
    show some (n.toNat : Int) = some n
    congr 1; omega
end Go.Proofs.YtljecghkechcaaaDoor.Nu
