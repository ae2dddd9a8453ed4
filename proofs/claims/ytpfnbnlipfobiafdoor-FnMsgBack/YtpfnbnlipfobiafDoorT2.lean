/-
  Walks: a message's text, as the specification writes it: some text, not long.
-/
import Derived.Test.YtpfnbnlipfobiafDoorA1
import Derived.Laws.BytesArg
namespace Go.Proofs.YtpfnbnlipfobiafDoor
open Go.RowKit Pl

theorem conv1 (w : World) (x : Int) : (convert 22 9 (.slice (some ⟨w.heap.size, 0, none⟩) 1 1)).run Tryd.prog (w.alloc (.cells #[.int .u8 x] 5)) = .ok (.string (strOfNums [x])) (w.alloc (.cells #[.int .u8 x] 5)) :=
  run_convert_bytes_arg _ 22 5 Tryd.underlying22 Tryd.underlying5 w.heap.size 0 1 1 [x] rfl (fun i hi => by
    obtain rfl : i = 0 := by omega
    simp) 9 Tryd.underlying9
theorem one_size (x : Int) (t : ByteArray) : (strOfNums [x] ++ t).size = t.size + 1 := by
  rw [ByteArray.size_append]
  have : (strOfNums [x]).size = 1 := rfl
  omega
theorem small_one (x : Int) : (strOfNums [x]).size = 1 := rfl

/-- What is still to be written, and what is written: not long. -/
def Dig (m : Int) (t : ByteArray) : Prop := m.natAbs * 10 ^ t.size ≤ 999999999 ∧ t.size ≤ 9
theorem tdiv_le (m : Int) : (m.tdiv 10).natAbs * 10 ≤ m.natAbs := by
  rw [Int.natAbs_tdiv]
  show m.natAbs / 10 * 10 ≤ m.natAbs
  omega
theorem tdiv_lt (m : Int) (h : ¬ m = 0) : (m.tdiv 10).natAbs < m.natAbs := by
  have := tdiv_le m
  omega
theorem Dig.low {m : Int} {t : ByteArray} (h : Dig m t) : -999999999 ≤ m := by
  have : m.natAbs ≤ 999999999 := Nat.le_trans (Nat.le_mul_of_pos_right _ (Nat.pow_pos (by decide))) h.1
  omega
theorem Dig.high {m : Int} {t : ByteArray} (h : Dig m t) : m ≤ 999999999 := by
  have : m.natAbs ≤ 999999999 := Nat.le_trans (Nat.le_mul_of_pos_right _ (Nat.pow_pos (by decide))) h.1
  omega
theorem Dig.next {m : Int} {t : ByteArray} (h : Dig m t) (hm : ¬ m = 0) (m' : Int) (hm' : m'.natAbs * 10 ≤ m.natAbs) (t' : ByteArray) (ht : t'.size = t.size + 1) : Dig m' t' := by
  have h8 : t.size ≤ 8 := by
    rcases Nat.lt_or_ge t.size 9 with k | k
    · omega
    · have e : t.size = 9 := by have := h.2; omega
      have := h.1
      rw [e] at this
      have one : 1 ≤ m.natAbs := by omega
      have : 1 * 10 ^ 9 ≤ m.natAbs * 10 ^ 9 := Nat.mul_le_mul_right _ one
      omega
  refine ⟨?_, by omega⟩
  rw [ht, Nat.pow_succ, Nat.mul_comm (10 ^ t.size) 10, ← Nat.mul_assoc]
  exact Nat.le_trans (Nat.mul_le_mul_right _ hm') h.1

set_option maxRecDepth 20000 in
set_option maxHeartbeats 1000000 in
theorem digits_some (n : Int) (w : World) (h0 : -999999999 ≤ n) (h1 : n ≤ 999999999) :
    Calls Tryd.prog 27 #[.int .i64 n] w fun e w' => ∃ o : ByteArray, e = .returned (.string o) ∧ o.size ≤ 10 ∧ Below w.heap.size w w' := by
  by_cases hz : n = 0
  · subst hz
    go_enter Tryd.func27, Tryd.ntmps27
    go_wp2
    go_ret
    exact ⟨_, rfl, by decide, Below.refl _ _⟩
  · have hz' : (n == 0) = false := by simp [hz]
    go_enter Tryd.func27, Tryd.ntmps27
    go_wp2
    go_loopw [0, 3] (fun x o wr => ∃ (m : Int) (t : ByteArray), x = .int .i64 m ∧ o = .string t ∧ Dig m t ∧ Below w.heap.size w wr) (fun x _ _ => (intOf x).natAbs)
    case atStart => exact ⟨n, ⟨#[]⟩, rfl, rfl, ⟨by have : (ByteArray.mk #[]).size = 0 := rfl; rw [this]; omega, by decide⟩, Below.refl _ _⟩
    case round =>
      rename_i wr
      obtain ⟨m, t, rfl, rfl, hD, hb⟩ := hrel
      have hz9 : t.size ≤ 9 := hD.2
      by_cases hm : m = 0
      · subst hm
        go_wp2
        all_goals go_ret
        · exact ⟨_, rfl, by rw [ByteArray.size_append]; have : (ByteArray.mk #[45]).size = 1 := rfl; omega, hb⟩
        · exact ⟨_, rfl, by omega, hb⟩
      · have hm' : (m != 0) = true := by simp [hm]
        have b0 := hD.low
        have b1 := hD.high
        have Hm : Hid _ := hm
        clear hm
        have cv := conv1
        have s1 := small_one
        go_wp2
        all_goals exact ⟨⟨_, _, rfl, rfl, hD.next Hm.out _ (tdiv_le m) _ (one_size _ _), bl_alloc hb _⟩, by simp only [intOf]; exact tdiv_lt m Hm.out⟩

theorem specText_some (k n : Int) (t : ByteArray) (w : World) (ht : t.size ≤ 41) :
    Calls Tryd.prog 18 #[.agg #[.int .i64 k, .int .i64 n, .string t]] w fun e w' => ∃ o : ByteArray, e = .returned (.string o) ∧ o.size ≤ 60 ∧ Below w.heap.size w w' := by
  have hm : t.size ≤ maxLen := by unfold maxLen; omega
  go_enter Tryd.func18, Tryd.ntmps18
  go_wp2_with fail
  refine (specMsgOk_any k n t _ hm).mono ?_
  rintro e w1 ⟨rfl, hb1⟩
  obtain ⟨hc1, hf1⟩ := bcell hb1
  have hb := bl_trans (bl_alloc (Below.refl _ _) _) hb1
  clear hb1
  cases ho : okB k n t
  · go_wp2
    go_ret
    exact ⟨_, rfl, by decide, hb⟩
  · by_cases h1 : k = 1
    · subst h1
      have hn : -999999999 ≤ n ∧ n ≤ 999999999 := by
        simp only [okB, if_true, Bool.and_eq_true, okNum, decide_eq_true_eq] at ho
        exact ho.2
      have h0 := hn.1
      have h9 := hn.2
      go_wp2_with fail
      refine (digits_some n _ h0 h9).mono ?_
      rintro e w2 ⟨o, rfl, hz, hb2⟩
      have hb' := bl_trans hb hb2
      clear hb2 hc1 hf1
      go_wp2
      go_ret
      exact ⟨_, rfl, by omega, hb'⟩
    · have h1' : (k == 1) = false := by simp [h1]
      go_wp2
      go_ret
      refine ⟨_, rfl, ?_, hb⟩
      rw [ByteArray.size_append, ByteArray.size_append]
      have : (ByteArray.mk #[34]).size = 1 := rfl
      omega
end Go.Proofs.YtpfnbnlipfobiafDoor
