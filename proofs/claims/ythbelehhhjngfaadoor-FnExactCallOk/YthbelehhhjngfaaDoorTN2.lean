/-
  Names and patterns: the walks of what is a plain part.
-/
import Derived.Test.YthbelehhhjngfaaDoorTN1
import Derived.Test.YthbelehhhjngfaaDoorPlain
import Derived.Test.YthbelehhhjngfaaDoorProg
namespace Go.Proofs.YthbelehhhjngfaaDoor
open Go.RowKit Pl Tn

theorem rboolT {a b : Bool} (h : a = b) : Ending.returned (.bool a) = .returned (.bool b) := by rw [h]
theorem ba_empty {s : ByteArray} (h : s.size = 0) : s = ⟨#[]⟩ := dat_inj (by rw [show dat ⟨#[]⟩ = [] from rfl]; exact List.length_eq_zero_iff.1 (by rw [dat_len]; exact h))
theorem tl_len (s : ByteArray) : s.toList.length = s.size := by rw [ByteArray.toList_eq]; rfl
theorem tl_ne {s : ByteArray} (h : s.size ≠ 0) : s.toList.isEmpty = false := by
  cases he : s.toList.isEmpty with
  | false => rfl
  | true =>
    exfalso
    have e : s.toList = [] := by simpa using he
    exact h (by have := tl_len s; rw [e] at this; simpa using this.symm)
theorem ranges (c : Int) : (c < 48) ∨ (48 ≤ c ∧ c ≤ 57) ∨ (57 < c ∧ c < 97) ∨ (97 ≤ c ∧ c ≤ 122) ∨ 122 < c := by omega
theorem dle {a b : Int} (h : a ≤ b) : decide (a ≤ b) = true := by simpa using h
theorem dgt {a b : Int} (h : b < a) : decide (a ≤ b) = false := by simp; omega
set_option maxHeartbeats 1000000 in
theorem isPlainPart_any (s : ByteArray) (w : World) (hs : s.size ≤ maxLen) :
    Calls Tryd.prog 39 #[.string s] w fun e w' => e = .returned (.bool (plainP s)) ∧ w' = w := by
  unfold maxLen at hs
  by_cases h0 : s.size = 0
  · obtain rfl := ba_empty h0
    clear h0
    go_enter Tryd.func39, Tryd.ntmps39
    go_wp2
    go_loop [3] (fun i => i = .int .i64 0) (fun _ => 0)
    case atStart => rfl
    case round =>
      subst hrel
      go_wp2
      go_ret
      exact ⟨rfl, rfl⟩
  have hne := tl_ne h0
  go_enter Tryd.func39, Tryd.ntmps39
  go_wp2
  go_loop [3] (fun i => ∃ k : Nat, k ≤ s.size ∧ i = .int .i64 k ∧ ((dat s).take k).all lowB = true) (fun i => s.size - (intOf i).toNat)
  case atStart => exact ⟨0, Nat.zero_le _, rfl, rfl⟩
  case round =>
    obtain ⟨k, hk, rfl, hp⟩ := hrel
    by_cases hlt : k < s.size
    · rcases ranges (s[k].toNat : Int) with hr | ⟨hr, hr'⟩ | ⟨hr, hr'⟩ | ⟨hr, hr'⟩ | hr
      all_goals
        first | have q1 := dle (show (97 : Int) ≤ (s[k].toNat : Int) by omega) | have q1 := dgt (show (s[k].toNat : Int) < 97 by omega)
        first | have q2 := dle (show (s[k].toNat : Int) ≤ 122 by omega) | have q2 := dgt (show (122 : Int) < (s[k].toNat : Int) by omega)
        first | have q3 := dle (show (48 : Int) ≤ (s[k].toNat : Int) by omega) | have q3 := dgt (show (s[k].toNat : Int) < 48 by omega)
        first | have q4 := dle (show (s[k].toNat : Int) ≤ 57 by omega) | have q4 := dgt (show (57 : Int) < (s[k].toNat : Int) by omega)
        go_wp2
        first
        | (go_ret; exact ⟨rboolT (plain_not hlt (low_no _ (by omega))).symm, rfl⟩)
        | (go_round
           case rel => exact ⟨k + 1, by omega, by go_num, plain_upto hlt hp (low_yes _ (by omega))⟩
           case measure => simp [intOf]; omega)
    · obtain rfl : k = s.size := by omega
      have hq := plain_yes hp h0
      go_wp2
      go_ret
      first | exact ⟨rfl, rfl⟩ | exact ⟨rboolT hq.symm, rfl⟩
set_option maxHeartbeats 1000000 in
theorem specPlain_any (s : ByteArray) (w : World) (hs : s.size ≤ maxLen) :
    Calls Tryd.prog 33 #[.string s] w fun e w' => e = .returned (.bool (plainP s)) ∧ w' = w := by
  unfold maxLen at hs
  by_cases h0 : s.size = 0
  · obtain rfl := ba_empty h0
    clear h0
    go_enter Tryd.func33, Tryd.ntmps33
    go_wp2
    go_ret
    exact ⟨rfl, rfl⟩
  have hne := tl_ne h0
  go_enter Tryd.func33, Tryd.ntmps33
  go_wp2
  go_loop [3] (fun i => ∃ k : Nat, k ≤ s.size ∧ i = .int .i64 k ∧ ((dat s).take k).all lowB = true) (fun i => s.size - (intOf i).toNat)
  case atStart => exact ⟨0, Nat.zero_le _, rfl, rfl⟩
  case round =>
    obtain ⟨k, hk, rfl, hp⟩ := hrel
    by_cases hlt : k < s.size
    · rcases ranges (s[k].toNat : Int) with hr | ⟨hr, hr'⟩ | ⟨hr, hr'⟩ | ⟨hr, hr'⟩ | hr
      all_goals
        first | have q1 := dle (show (97 : Int) ≤ (s[k].toNat : Int) by omega) | have q1 := dgt (show (s[k].toNat : Int) < 97 by omega)
        first | have q2 := dle (show (s[k].toNat : Int) ≤ 122 by omega) | have q2 := dgt (show (122 : Int) < (s[k].toNat : Int) by omega)
        first | have q3 := dle (show (48 : Int) ≤ (s[k].toNat : Int) by omega) | have q3 := dgt (show (s[k].toNat : Int) < 48 by omega)
        first | have q4 := dle (show (s[k].toNat : Int) ≤ 57 by omega) | have q4 := dgt (show (57 : Int) < (s[k].toNat : Int) by omega)
        go_wp2
        first
        | (go_ret; exact ⟨rboolT (plain_not hlt (low_no _ (by omega))).symm, rfl⟩)
        | (go_round
           case rel => exact ⟨k + 1, by omega, by go_num, plain_upto hlt hp (low_yes _ (by omega))⟩
           case measure => simp [intOf]; omega)
    · obtain rfl : k = s.size := by omega
      have hq := plain_yes hp h0
      go_wp2
      go_ret
      first | exact ⟨rfl, rfl⟩ | exact ⟨rboolT hq.symm, rfl⟩
end Go.Proofs.YthbelehhhjngfaaDoor
