/-
  The program's tests: each term that takes nothing.
-/
import Derived.Test.YtedaleonmcllkaaBF6
namespace Go.Proofs.Ytedaleonmcllkaa
open Go.RowKit Pl Il

theorem num_2 (c : Nat) (n : Int) (W : World) (hc : W.cell? ⟨c, 0, none⟩ = some (.func (.func 67) #[] #[])) : Calls Try.prog 76 #[bdV (.inl n), .pointer (some ⟨c, 0, none⟩)] W fun e W' => e = .returned (.bool true) ∧ Below W.heap.size W W' := by
  have a1 := as_nn n
  unfold bdV
  go_enter Try.func76, Try.ntmps76
  go_wp2
  go_ret
  exact ⟨rfl, Below.refl _ _⟩
theorem num_4 (c x : Nat) (n num : Int) (W : World) (hc : W.cell? ⟨c, 0, none⟩ = some (.func (.func 70) #[] #[.pointer (some ⟨x, 0, none⟩)])) (hx : W.cell? ⟨x, 1, none⟩ = some (.int .i64 num)) : Calls Try.prog 76 #[bdV (.inl n), .pointer (some ⟨c, 0, none⟩)] W fun e W' => e = .returned (.bool (decide (n < num))) ∧ Below W.heap.size W W' := by
  have a1 := as_nn n
  unfold bdV
  go_enter Try.func76, Try.ntmps76
  go_wp2
  all_goals go_ret
  all_goals exact ⟨by simp_all, Below.refl _ _⟩
theorem num_5 (c x : Nat) (n num : Int) (W : World) (hnum : 1 ≤ num) (hc : W.cell? ⟨c, 0, none⟩ = some (.func (.func 71) #[] #[.pointer (some ⟨x, 0, none⟩)])) (hx : W.cell? ⟨x, 1, none⟩ = some (.int .i64 num)) : Calls Try.prog 76 #[bdV (.inl n), .pointer (some ⟨c, 0, none⟩)] W fun e W' => e = .returned (.bool (decide (n.tmod num = 0))) ∧ Below W.heap.size W W' := by
  have a1 := as_nn n
  have h0 : ¬ num = 0 := by omega
  have h1 : ¬ num = -1 := by omega
  unfold bdV
  go_enter Try.func76, Try.ntmps76
  go_wp2
  all_goals go_ret
  all_goals exact ⟨rbool (by rw [Bool.eq_iff_iff]; simp), Below.refl _ _⟩
theorem ext_take (s : ByteArray) (k : Nat) : (s.extract 0 k).toList = s.toList.take k := by
  rw [ByteArray.toList_eq, ByteArray.toList_eq, ByteArray.data_extract, Array.toList_extract]
  simp [List.extract]
theorem beg_eq (s t : ByteArray) : ((s.extract 0 t.size).toList == t.toList) = begB s t := by
  have hl : t.toList.length = t.size := by rw [ByteArray.toList_eq]; rfl
  rw [ext_take s t.size, Bool.eq_iff_iff]
  unfold begB
  rw [List.isPrefixOf_iff_prefix, List.prefix_iff_eq_take, hl]
  simp only [beq_iff_eq]
  exact eq_comm
theorem beg_no {s t : ByteArray} (h : ¬ t.size ≤ s.size) : begB s t = false := by
  have hl : t.toList.length = t.size := by rw [ByteArray.toList_eq]; rfl
  have hl' : s.toList.length = s.size := by rw [ByteArray.toList_eq]; rfl
  unfold begB
  rw [Bool.eq_false_iff]
  intro e
  have := (List.isPrefixOf_iff_prefix.1 e).length_le
  omega
theorem txt_3 (c : Nat) (s : ByteArray) (W : World) (hc : W.cell? ⟨c, 0, none⟩ = some (.func (.func 69) #[] #[])) : Calls Try.prog 77 #[bdV (.inr s), .pointer (some ⟨c, 0, none⟩)] W fun e W' => e = .returned (.bool true) ∧ Below W.heap.size W W' := by
  have a1 := as_tt s
  unfold bdV
  go_enter Try.func77, Try.ntmps77
  go_wp2
  go_ret
  exact ⟨rfl, Below.refl _ _⟩
theorem cont_eq : ∀ (l sub : List UInt8), Lib.contains l sub = inL sub l
  | [], sub => by
    cases sub <;> simp [Lib.contains, Lib.index, inL]
  | x :: l, sub => by
    have ih := cont_eq l sub
    unfold Lib.contains at ih ⊢
    unfold Lib.index inL
    rw [← ih]
    by_cases h : sub.isPrefixOf (x :: l) = true
    · simp [h]
    · simp only [h, Bool.false_or]
      by_cases h2 : Lib.index l sub = -1
      · simp [h2]
      · have : -1 ≤ Lib.index l sub := Lib.index_ge l sub
        have e : (Lib.index l sub == -1) = false := by simp [h2]
        simp only [e]
        simp
        omega
theorem txt_7 (c x : Nat) (s t : ByteArray) (W : World) (hs : s.size ≤ 40) (hG : GOk W) (hc : W.cell? ⟨c, 0, none⟩ = some (.func (.func 74) #[] #[.pointer (some ⟨x, 0, none⟩)])) (hx : W.cell? ⟨x, 2, none⟩ = some (.string t)) : Calls Try.prog 77 #[bdV (.inr s), .pointer (some ⟨c, 0, none⟩)] W fun e W' => e = .returned (.bool (inL t.toList s.toList)) ∧ Below W.heap.size W W' := by
  have a1 := as_tt s
  obtain ⟨m, hm⟩ := hG
  have HC : ∀ w, w.cell? ⟨0, 0, none⟩ = some (.int .i64 m) → Calls Try.prog 75 #[.string s, .string t] w fun e w' => e = .returned (.bool (Lib.contains s.data.toList t.data.toList)) ∧ w' = w := fun w hw => Any.strings_Contains Try.lays144 s t m w (by omega) hw
  rw [ByteArray.toList_eq, ByteArray.toList_eq, ← cont_eq]
  have HH := hidOf (HC W hm)
  clear HC
  unfold bdV
  go_enter Try.func77, Try.ntmps77
  go_wp2_with (first | (go_at_call 75; refine (HH.out).mono ?_; rintro e w1 ⟨rfl, rfl⟩) | go_in)
  all_goals go_ret
  all_goals exact ⟨rfl, Below.refl _ _⟩
theorem txt_6 (c x : Nat) (s t : ByteArray) (W : World) (hc : W.cell? ⟨c, 0, none⟩ = some (.func (.func 72) #[] #[.pointer (some ⟨x, 0, none⟩)])) (hx : W.cell? ⟨x, 2, none⟩ = some (.string t)) : Calls Try.prog 77 #[bdV (.inr s), .pointer (some ⟨c, 0, none⟩)] W fun e W' => e = .returned (.bool (begB s t)) ∧ Below W.heap.size W W' := by
  have a1 := as_tt s
  unfold bdV
  go_enter Try.func77, Try.ntmps77
  go_wp2
  all_goals go_ret
  all_goals refine ⟨rbool ?_, Below.refl _ _⟩
  all_goals first | exact beg_eq s t | exact (beg_no (by assumption)).symm
end Go.Proofs.Ytedaleonmcllkaa
