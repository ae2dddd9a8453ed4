/-
  Walks: which word it is, as the program finds it.
-/
import Derived.Test.YtljecghkechcaaaGreatDoorTXi0
import Derived.Test.YtljecghkechcaaaGreatDoorTYm
namespace Go.Proofs.YtljecghkechcaaaGreatDoor
open Go.RowKit Pl Il Tn

theorem beqX {a b : ByteArray} (h : a = b) : (a.toList == b.toList) = true := by simp [h]
theorem bneX {a b : ByteArray} (h : ¬ a = b) : (a.toList == b.toList) = false := by
  cases hh : (a.toList == b.toList)
  · rfl
  · exfalso
    apply h
    have := beq_iff_eq.1 hh
    rw [ByteArray.toList_eq, ByteArray.toList_eq] at this
    exact baE this
theorem opT_at {s : ByteArray} {k : Nat} (hk : k < 11) (h : ∀ j, j < k → ¬ wordsT.getD j ⟨#[]⟩ = s) (he : wordsT.getD k ⟨#[]⟩ = s) : opT s = k := by
  have hl : wordsT.length = 11 := by decide
  unfold opT
  have : wordsT.findIdx? (fun x => decide (x = s)) = some k := by
    rw [List.findIdx?_eq_some_iff_getElem]
    refine ⟨by omega, ?_, fun j hj => ?_⟩
    · rw [List.getD_eq_getElem?_getD, List.getElem?_eq_getElem (by omega)] at he
      simpa using he
    · have := h j hj
      rw [List.getD_eq_getElem?_getD, List.getElem?_eq_getElem (by omega)] at this
      simpa using this
  rw [this]; rfl
theorem opT_none {s : ByteArray} (h : ∀ j, j < 11 → ¬ wordsT.getD j ⟨#[]⟩ = s) : opT s = 0 := by
  have hl : wordsT.length = 11 := by decide
  unfold opT
  have : wordsT.findIdx? (fun x => decide (x = s)) = none := by
    rw [List.findIdx?_eq_none_iff]
    intro x hx
    obtain ⟨j, hj, rfl⟩ := List.getElem_of_mem hx
    have := h j (by omega)
    rw [List.getD_eq_getElem?_getD, List.getElem?_eq_getElem (by omega)] at this
    simpa using this
  rw [this]; rfl
theorem lt_le {k : Nat} {p : Nat → Prop} (h : ∀ j, j < k → p j) (hk : p k) : ∀ j, j < k + 1 → p j := by
  intro j hj
  rcases Nat.lt_succ_iff_lt_or_eq.1 hj with g | rfl
  · exact h j g
  · exact hk
theorem rintO {n : Nat} {m : Int} (h : m = (n : Int)) : Ending.returned (.int .i64 m) = .returned (.int .i64 (n : Int)) := by rw [h]

set_option maxRecDepth 100000 in
set_option maxHeartbeats 2000000 in
theorem opOf_any (s : ByteArray) (w : World) (hL : LaidT w) :
    Calls Tryz.prog 36 #[.string s] w fun e w' => e = .returned (.int .i64 (opT s : Int)) ∧ Below w.heap.size w w' := by
  obtain ⟨x, hx⟩ : ∃ x : Nat → ByteArray, x = fun k => wordsT.getD k ⟨#[]⟩ := ⟨_, rfl⟩
  have hw : ∀ k, k < 11 → w.cell? ⟨0, k, none⟩ = some (.string (x k)) := by rw [hx]; exact hL.wrd
  have c0 := hw 0 (by decide)
  have c1 := hw 1 (by decide)
  have c2 := hw 2 (by decide)
  have c3 := hw 3 (by decide)
  have c4 := hw 4 (by decide)
  have c5 := hw 5 (by decide)
  have c6 := hw 6 (by decide)
  have c7 := hw 7 (by decide)
  have c8 := hw 8 (by decide)
  have c9 := hw 9 (by decide)
  have c10 := hw 10 (by decide)
  have HX := hidOf hx
  clear hx hw hL
  go_enter Tryz.func36, Tryz.ntmps36
  go_wp2
  go_loopw [6] (fun i wr => ∃ k : Nat, k ≤ 11 ∧ i = .int .i64 (k : Int) ∧ (∀ j, j < k → ¬ x j = s) ∧ wr = w) (fun i _ => 11 - (intOf i).toNat)
  case atStart => exact ⟨0, Nat.zero_le _, rfl, fun j hj => absurd hj (Nat.not_lt_zero _), rfl⟩
  case round =>
    obtain ⟨k, hk, rfl, hn, rfl⟩ := hrel
    have HN := hidOf hn
    clear hn c0 c1 c2 c3 c4 c5 c6 c7 c8 c9 c10
    have hc : k = 11 ∨ k = 0 ∨ k = 1 ∨ k = 2 ∨ k = 3 ∨ k = 4 ∨ k = 5 ∨ k = 6 ∨ k = 7 ∨ k = 8 ∨ k = 9 ∨ k = 10 := by omega
    rcases hc with rfl | rfl | rfl | rfl | rfl | rfl | rfl | rfl | rfl | rfl | rfl | rfl
    · go_wp2
      go_ret
      exact ⟨rintO (by rw [opT_none (by have := HN.out; rw [HX.out] at this; exact this)]; rfl), Below.refl _ _⟩
    · have hix : ∀ u : World, (Instr.index 55 (.agg #[.string (x 0), .string (x 1), .string (x 2), .string (x 3), .string (x 4), .string (x 5), .string (x 6), .string (x 7), .string (x 8), .string (x 9), .string (x 10)]) (.int .i64 0)).run Tryz.prog u = .ok (.string (x 0)) u := fun u => by kernel_rfl
      by_cases he : x 0 = s
      · have hb := beqX he
        have HE := hidOf he
        clear he
        go_wp2
        go_ret
        exact ⟨rintO (by rw [opT_at (k := 0) (by decide) (by have := HN.out; rw [HX.out] at this; exact this) (by have := HE.out; rw [HX.out] at this; exact this)]), Below.refl _ _⟩
      · have hb := bneX he
        have HE := hidOf he
        clear he
        go_wp2
        go_roundw
        case rel => exact ⟨1, by decide, rfl, lt_le HN.out HE.out, (by first | rfl | trivial)⟩
        case measure => simp [intOf]
    · have hix : ∀ u : World, (Instr.index 55 (.agg #[.string (x 0), .string (x 1), .string (x 2), .string (x 3), .string (x 4), .string (x 5), .string (x 6), .string (x 7), .string (x 8), .string (x 9), .string (x 10)]) (.int .i64 1)).run Tryz.prog u = .ok (.string (x 1)) u := fun u => by kernel_rfl
      by_cases he : x 1 = s
      · have hb := beqX he
        have HE := hidOf he
        clear he
        go_wp2
        go_ret
        exact ⟨rintO (by rw [opT_at (k := 1) (by decide) (by have := HN.out; rw [HX.out] at this; exact this) (by have := HE.out; rw [HX.out] at this; exact this)]), Below.refl _ _⟩
      · have hb := bneX he
        have HE := hidOf he
        clear he
        go_wp2
        go_roundw
        case rel => exact ⟨2, by decide, rfl, lt_le HN.out HE.out, (by first | rfl | trivial)⟩
        case measure => simp [intOf]
    · have hix : ∀ u : World, (Instr.index 55 (.agg #[.string (x 0), .string (x 1), .string (x 2), .string (x 3), .string (x 4), .string (x 5), .string (x 6), .string (x 7), .string (x 8), .string (x 9), .string (x 10)]) (.int .i64 2)).run Tryz.prog u = .ok (.string (x 2)) u := fun u => by kernel_rfl
      by_cases he : x 2 = s
      · have hb := beqX he
        have HE := hidOf he
        clear he
        go_wp2
        go_ret
        exact ⟨rintO (by rw [opT_at (k := 2) (by decide) (by have := HN.out; rw [HX.out] at this; exact this) (by have := HE.out; rw [HX.out] at this; exact this)]), Below.refl _ _⟩
      · have hb := bneX he
        have HE := hidOf he
        clear he
        go_wp2
        go_roundw
        case rel => exact ⟨3, by decide, rfl, lt_le HN.out HE.out, (by first | rfl | trivial)⟩
        case measure => simp [intOf]
    · have hix : ∀ u : World, (Instr.index 55 (.agg #[.string (x 0), .string (x 1), .string (x 2), .string (x 3), .string (x 4), .string (x 5), .string (x 6), .string (x 7), .string (x 8), .string (x 9), .string (x 10)]) (.int .i64 3)).run Tryz.prog u = .ok (.string (x 3)) u := fun u => by kernel_rfl
      by_cases he : x 3 = s
      · have hb := beqX he
        have HE := hidOf he
        clear he
        go_wp2
        go_ret
        exact ⟨rintO (by rw [opT_at (k := 3) (by decide) (by have := HN.out; rw [HX.out] at this; exact this) (by have := HE.out; rw [HX.out] at this; exact this)]), Below.refl _ _⟩
      · have hb := bneX he
        have HE := hidOf he
        clear he
        go_wp2
        go_roundw
        case rel => exact ⟨4, by decide, rfl, lt_le HN.out HE.out, (by first | rfl | trivial)⟩
        case measure => simp [intOf]
    · have hix : ∀ u : World, (Instr.index 55 (.agg #[.string (x 0), .string (x 1), .string (x 2), .string (x 3), .string (x 4), .string (x 5), .string (x 6), .string (x 7), .string (x 8), .string (x 9), .string (x 10)]) (.int .i64 4)).run Tryz.prog u = .ok (.string (x 4)) u := fun u => by kernel_rfl
      by_cases he : x 4 = s
      · have hb := beqX he
        have HE := hidOf he
        clear he
        go_wp2
        go_ret
        exact ⟨rintO (by rw [opT_at (k := 4) (by decide) (by have := HN.out; rw [HX.out] at this; exact this) (by have := HE.out; rw [HX.out] at this; exact this)]), Below.refl _ _⟩
      · have hb := bneX he
        have HE := hidOf he
        clear he
        go_wp2
        go_roundw
        case rel => exact ⟨5, by decide, rfl, lt_le HN.out HE.out, (by first | rfl | trivial)⟩
        case measure => simp [intOf]
    · have hix : ∀ u : World, (Instr.index 55 (.agg #[.string (x 0), .string (x 1), .string (x 2), .string (x 3), .string (x 4), .string (x 5), .string (x 6), .string (x 7), .string (x 8), .string (x 9), .string (x 10)]) (.int .i64 5)).run Tryz.prog u = .ok (.string (x 5)) u := fun u => by kernel_rfl
      by_cases he : x 5 = s
      · have hb := beqX he
        have HE := hidOf he
        clear he
        go_wp2
        go_ret
        exact ⟨rintO (by rw [opT_at (k := 5) (by decide) (by have := HN.out; rw [HX.out] at this; exact this) (by have := HE.out; rw [HX.out] at this; exact this)]), Below.refl _ _⟩
      · have hb := bneX he
        have HE := hidOf he
        clear he
        go_wp2
        go_roundw
        case rel => exact ⟨6, by decide, rfl, lt_le HN.out HE.out, (by first | rfl | trivial)⟩
        case measure => simp [intOf]
    · have hix : ∀ u : World, (Instr.index 55 (.agg #[.string (x 0), .string (x 1), .string (x 2), .string (x 3), .string (x 4), .string (x 5), .string (x 6), .string (x 7), .string (x 8), .string (x 9), .string (x 10)]) (.int .i64 6)).run Tryz.prog u = .ok (.string (x 6)) u := fun u => by kernel_rfl
      by_cases he : x 6 = s
      · have hb := beqX he
        have HE := hidOf he
        clear he
        go_wp2
        go_ret
        exact ⟨rintO (by rw [opT_at (k := 6) (by decide) (by have := HN.out; rw [HX.out] at this; exact this) (by have := HE.out; rw [HX.out] at this; exact this)]), Below.refl _ _⟩
      · have hb := bneX he
        have HE := hidOf he
        clear he
        go_wp2
        go_roundw
        case rel => exact ⟨7, by decide, rfl, lt_le HN.out HE.out, (by first | rfl | trivial)⟩
        case measure => simp [intOf]
    · have hix : ∀ u : World, (Instr.index 55 (.agg #[.string (x 0), .string (x 1), .string (x 2), .string (x 3), .string (x 4), .string (x 5), .string (x 6), .string (x 7), .string (x 8), .string (x 9), .string (x 10)]) (.int .i64 7)).run Tryz.prog u = .ok (.string (x 7)) u := fun u => by kernel_rfl
      by_cases he : x 7 = s
      · have hb := beqX he
        have HE := hidOf he
        clear he
        go_wp2
        go_ret
        exact ⟨rintO (by rw [opT_at (k := 7) (by decide) (by have := HN.out; rw [HX.out] at this; exact this) (by have := HE.out; rw [HX.out] at this; exact this)]), Below.refl _ _⟩
      · have hb := bneX he
        have HE := hidOf he
        clear he
        go_wp2
        go_roundw
        case rel => exact ⟨8, by decide, rfl, lt_le HN.out HE.out, (by first | rfl | trivial)⟩
        case measure => simp [intOf]
    · have hix : ∀ u : World, (Instr.index 55 (.agg #[.string (x 0), .string (x 1), .string (x 2), .string (x 3), .string (x 4), .string (x 5), .string (x 6), .string (x 7), .string (x 8), .string (x 9), .string (x 10)]) (.int .i64 8)).run Tryz.prog u = .ok (.string (x 8)) u := fun u => by kernel_rfl
      by_cases he : x 8 = s
      · have hb := beqX he
        have HE := hidOf he
        clear he
        go_wp2
        go_ret
        exact ⟨rintO (by rw [opT_at (k := 8) (by decide) (by have := HN.out; rw [HX.out] at this; exact this) (by have := HE.out; rw [HX.out] at this; exact this)]), Below.refl _ _⟩
      · have hb := bneX he
        have HE := hidOf he
        clear he
        go_wp2
        go_roundw
        case rel => exact ⟨9, by decide, rfl, lt_le HN.out HE.out, (by first | rfl | trivial)⟩
        case measure => simp [intOf]
    · have hix : ∀ u : World, (Instr.index 55 (.agg #[.string (x 0), .string (x 1), .string (x 2), .string (x 3), .string (x 4), .string (x 5), .string (x 6), .string (x 7), .string (x 8), .string (x 9), .string (x 10)]) (.int .i64 9)).run Tryz.prog u = .ok (.string (x 9)) u := fun u => by kernel_rfl
      by_cases he : x 9 = s
      · have hb := beqX he
        have HE := hidOf he
        clear he
        go_wp2
        go_ret
        exact ⟨rintO (by rw [opT_at (k := 9) (by decide) (by have := HN.out; rw [HX.out] at this; exact this) (by have := HE.out; rw [HX.out] at this; exact this)]), Below.refl _ _⟩
      · have hb := bneX he
        have HE := hidOf he
        clear he
        go_wp2
        go_roundw
        case rel => exact ⟨10, by decide, rfl, lt_le HN.out HE.out, (by first | rfl | trivial)⟩
        case measure => simp [intOf]
    · have hix : ∀ u : World, (Instr.index 55 (.agg #[.string (x 0), .string (x 1), .string (x 2), .string (x 3), .string (x 4), .string (x 5), .string (x 6), .string (x 7), .string (x 8), .string (x 9), .string (x 10)]) (.int .i64 10)).run Tryz.prog u = .ok (.string (x 10)) u := fun u => by kernel_rfl
      by_cases he : x 10 = s
      · have hb := beqX he
        have HE := hidOf he
        clear he
        go_wp2
        go_ret
        exact ⟨rintO (by rw [opT_at (k := 10) (by decide) (by have := HN.out; rw [HX.out] at this; exact this) (by have := HE.out; rw [HX.out] at this; exact this)]), Below.refl _ _⟩
      · have hb := bneX he
        have HE := hidOf he
        clear he
        go_wp2
        go_roundw
        case rel => exact ⟨11, by decide, rfl, lt_le HN.out HE.out, (by first | rfl | trivial)⟩
        case measure => simp [intOf]
end Go.Proofs.YtljecghkechcaaaGreatDoor
