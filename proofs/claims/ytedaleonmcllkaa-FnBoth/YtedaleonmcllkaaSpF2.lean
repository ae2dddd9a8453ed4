/-
  Walks of the specification's filters: what a term that takes nothing says.
-/
import Derived.Test.YtedaleonmcllkaaBF8
import Derived.Test.YtedaleonmcllkaaSpF1
import Derived.Deep.QuietTactic
import Derived.BigQuiet
namespace Go.Proofs.Ytedaleonmcllkaa
open Go.RowKit Pl Il

theorem inL_short : ∀ (l sub : List UInt8), l.length < sub.length → inL sub l = false
  | [], sub, h => by
    cases sub with
    | nil => simp at h
    | cons _ _ => rfl
  | x :: l, sub, h => by
    unfold inL
    rw [inL_short l sub (by simp at h; omega), Bool.or_false, Bool.eq_false_iff]
    intro e
    have := (List.isPrefixOf_iff_prefix.1 e).length_le
    omega
theorem inL_step {l sub : List UInt8} {i : Nat} (h : ¬ sub.isPrefixOf (l.drop i) = true) : inL sub (l.drop i) = inL sub (l.drop (i + 1)) := by
  rcases Nat.lt_or_ge i l.length with hi | hi
  · have e : inL sub (l.drop i) = (sub.isPrefixOf (l[i] :: l.drop (i + 1)) || inL sub (l.drop (i + 1))) := by
      conv => lhs; rw [List.drop_eq_getElem_cons hi]
      rfl
    rw [List.drop_eq_getElem_cons hi] at h
    rw [e, Bool.eq_false_iff.2 h, Bool.false_or]
  · rw [List.drop_of_length_le hi, List.drop_of_length_le (by omega)]
theorem inL_hit {l sub : List UInt8} (h : sub.isPrefixOf l = true) : inL sub l = true := by
  cases l with
  | nil =>
    cases sub with
    | nil => rfl
    | cons _ _ => simp at h
  | cons x l => unfold inL; simp [h]
theorem ext_drop (s : ByteArray) (i k : Nat) : (s.extract i (i + k)).toList = (s.toList.drop i).take k := by
  rw [ByteArray.toList_eq, ByteArray.toList_eq, ByteArray.data_extract, Array.toList_extract]
  simp [List.extract]
theorem pre_eq {s t : ByteArray} {i : Nat} : ((s.extract i (i + t.size)).toList == t.toList) = t.toList.isPrefixOf (s.toList.drop i) := by
  have hl : t.toList.length = t.size := by rw [ByteArray.toList_eq]; rfl
  rw [ext_drop, Bool.eq_iff_iff, List.isPrefixOf_iff_prefix, List.prefix_iff_eq_take, hl]
  simp only [beq_iff_eq]
  exact eq_comm
set_option maxHeartbeats 1000000 in
theorem l8Holds_any (s t : ByteArray) (w : World) (hs : s.size ≤ 40) (ht : t.size ≤ 10) :
    Calls Try.prog 65 #[.string s, .string t] w fun e w' => e = .returned (.bool (inL t.toList s.toList)) ∧ w' = w := by
  go_enter Try.func65, Try.ntmps65
  go_wp2
  go_loop [5] (fun x => ∃ i : Nat, i ≤ s.size + 1 ∧ x = .int .i64 i ∧ inL t.toList (s.toList.drop i) = inL t.toList s.toList ∧ (0 < i → 0 < t.size)) (fun x => s.size + 1 - (intOf x).toNat)
  case atStart => exact ⟨0, Nat.zero_le _, rfl, rfl, fun h => by omega⟩
  case round =>
    obtain ⟨i, hi, rfl, hp, hpos⟩ := hrel
    have hl : s.toList.length = s.size := by rw [ByteArray.toList_eq]; rfl
    have hl' : t.toList.length = t.size := by rw [ByteArray.toList_eq]; rfl
    have HP := hidOf hp
    have HL := hidOf (And.intro hl hl')
    clear hp hl hl'
    by_cases hle : i + t.size ≤ s.size
    · have h1 : (i : Int) + (t.size : Int) ≤ (s.size : Int) := by omega
      have hpe := @pre_eq s t i
      cases hq : t.toList.isPrefixOf (s.toList.drop i)
      · rw [hq] at hpe
        have HQ := hidOf (inL_step (l := s.toList) (sub := t.toList) (i := i) (by rw [hq]; simp))
        have HN : 0 < t.size := by
          rcases Nat.eq_zero_or_pos t.size with h0 | h0
          · have : t.toList = [] := List.length_eq_zero_iff.1 (by rw [HL.out.2, h0])
            rw [this] at hq
            simp at hq
          · exact h0
        clear hq
        go_wp2
        go_round
        case rel => exact ⟨i + 1, by omega, by go_num, by rw [← HP.out, HQ.out], fun _ => HN⟩
        case measure => simp [intOf]; omega
      · rw [hq] at hpe
        have HQ := hidOf (inL_hit hq)
        clear hq
        go_wp2
        go_ret
        exact ⟨rbool (by rw [← HP.out, HQ.out]), rfl⟩
    · have h1 : ¬ (i : Int) + (t.size : Int) ≤ (s.size : Int) := by omega
      have HQ := hidOf (inL_short (s.toList.drop i) t.toList (by rw [List.length_drop, HL.out.1, HL.out.2]; omega))
      go_wp2
      go_ret
      exact ⟨rbool (by rw [← HP.out, HQ.out]), rfl⟩
theorem okB_two {k n : Int} {s : ByteArray} (h : okB k n s = true) : k = 1 ∨ k = 2 ∧ s.size ≤ 40 := by
  by_cases h1 : k = 1
  · exact .inl h1
  · by_cases h2 : k = 2
    · subst h2
      simp [okB, plainB] at h
      exact .inr ⟨rfl, h.2.1⟩
    · simp [okB, h1, h2] at h
theorem ok_67 {op n : Int} {t : ByteArray} (h : okTm (op, n, t) = true) (ho : op = 6 ∨ op = 7) : t.size ≤ 10 := by
  rcases ho with rfl | rfl
  · simp [okTm, partB] at h; omega
  · simp [okTm, partB] at h; omega
abbrev SayR (w0 : World) (x : Nat) (op num : Int) (t : ByteArray) (y : Nat) (k n : Int) (s : ByteArray) (w : World) : Prop :=
  w.cell? ⟨x, 0, none⟩ = some (.int .i64 op) ∧ w.cell? ⟨x, 1, none⟩ = some (.int .i64 num) ∧ w.cell? ⟨x, 2, none⟩ = some (.string t) ∧ w.cell? ⟨y, 0, none⟩ = some (.int .i64 k) ∧ w.cell? ⟨y, 1, none⟩ = some (.int .i64 n) ∧ w.cell? ⟨y, 2, none⟩ = some (.string s) ∧ Below w0.heap.size w0 w
set_option maxHeartbeats 4000000 in
theorem l8Says_any (t : Tm) (k n : Int) (s : ByteArray) (w : World) (hok : okTm t = true) (hc : cntM t.1 = 0) (hm : okB k n s = true) :
    Calls Try.prog 54 #[.agg #[.int .i64 t.1, .int .i64 t.2.1, .string t.2.2], .agg #[.int .i64 k, .int .i64 n, .string s]] w fun e w' => e = .returned (.bool (leafP t (bdOf k n s))) ∧ Below w.heap.size w w' := by
  obtain ⟨op, num, t⟩ := t
  have h := leaf_ops hok hc
  simp only at h ⊢
  have hb : ∀ op : Int, Below w.heap.size w ((w.alloc (.cells #[.int .i64 op, .int .i64 num, .string t] 57)).alloc (.cells #[.int .i64 k, .int .i64 n, .string s] 26)) := fun _ => bl_alloc (bl_alloc (Below.refl _ _) _) _
  rcases okB_two hm with rfl | ⟨rfl, hs⟩
  · have HB := fun op => hidOf (hb op)
    have h5 : op = 5 → ¬ num = 0 ∧ ¬ num = -1 := fun e => by subst e; have := ok_5 hok; omega
    clear hb hm hok hc
    rcases h with rfl | rfl | rfl | rfl | rfl | rfl | rfl
    all_goals (try (obtain ⟨n0, n1⟩ := h5 rfl))
    all_goals clear h5
    all_goals go_enter Try.func54, Try.ntmps54
    all_goals go_wp2_with fail
    all_goals (try go_quiet (fail))
    all_goals (try go_wp2)
    all_goals (try go_ret)
    all_goals first | (refine ⟨rbool ?_, (HB _).out⟩; simp [leafP, bdOf]; done) | (refine ⟨rbool ?_, bl_drewN (HB _).out _⟩; simp [leafP, bdOf]; done) | (refine ⟨rbool ?_, (HB _).out⟩; simp [leafP, bdOf]; rw [Bool.eq_iff_iff]; simp)
  · have HB := fun op => hidOf (hb op)
    have ht : op = 6 ∨ op = 7 → t.size ≤ 10 := fun e => ok_67 hok e
    clear hb hm hok hc
    rcases h with rfl | rfl | rfl | rfl | rfl | rfl | rfl
    iterate 5
      · clear ht
        go_enter Try.func54, Try.ntmps54
        go_wp2_with fail
        (try go_ret)
        exact ⟨rbool (by simp [leafP, bdOf]), (HB _).out⟩
    · have ht' := ht (.inl rfl)
      clear ht
      by_cases hle : t.size ≤ s.size
      · have hd : decide ((t.size : Int) ≤ (s.size : Int)) = true := by simp; omega
        have hbe := beg_eq s t
        go_enter Try.func54, Try.ntmps54
        go_wp2_with fail
        go_quiet (fail)
        (try go_wp2)
        (try go_ret)
        exact ⟨rbool (by simp [leafP, bdOf]), bl_drewN (HB _).out _⟩
      · have hd : decide ((t.size : Int) ≤ (s.size : Int)) = false := by simp; omega
        have hbe := beg_no hle
        go_enter Try.func54, Try.ntmps54
        go_wp2_with fail
        go_quiet (fail)
        (try go_wp2)
        (try go_ret)
        exact ⟨rbool (by simp [leafP, bdOf, hbe]), bl_drewN (HB _).out _⟩
    · have ht' := ht (.inr rfl)
      have HH := fun u => hidOf (l8Holds_any s t u hs ht')
      clear ht
      go_enter Try.func54, Try.ntmps54
      go_wp2_with (first | (go_at_call 65; refine ((HH _).out).mono ?_; rintro e w1 ⟨rfl, rfl⟩))
      go_ret
      exact ⟨rbool (by simp [leafP, bdOf]), (HB _).out⟩
end Go.Proofs.Ytedaleonmcllkaa
