/-
  Walks: a number's text read by the program itself; a message's body read.
-/
import Derived.Test.YtljecghkechcaaaGreatDoorG2
import Derived.Lib.AtoiBound
namespace Go.Proofs.YtljecghkechcaaaGreatDoor
open Go.RowKit Pl Nu

theorem itoaS_list (n : Int) : (itoaS n).data.toList = Lib.itoa n := by simp [itoaS]
theorem same_text {n : Int} {s : ByteArray} (h : Lib.itoa n = s.data.toList) : itoaS n = s := by
  cases s with
  | mk d => simp only [itoaS] at h ⊢; rw [h]
theorem readNumber_yes (s : ByteArray) (n : Int) (w : World) (hL : Laid w) (hs : s.size ≤ 1048576) (hn : numL s.data.toList = some n) :
    Calls Tryz.prog 35 #[.string s] w fun e w' => e = .returned (numV (numL s.data.toList)) ∧ Below w.heap.size w w' := by
  obtain ⟨h1, h2, h3, h4⟩ := num_of hn
  have Hn : Hid _ := hn
  have He : Hid _ := same_text h1
  have H4 : Hid _ := h4
  have hok : okNum n = true := by simp [okNum, h2, h3]
  clear hn h1 h4
  go_enter Tryz.func35, Tryz.ntmps35
  go_wp2_with fail
  refine (atoi_ok s n _ hs H4.out).mono ?_
  rintro e w1 ⟨rfl, hb1⟩
  have hL1 := hL.keep hb1
  go_wp2_with fail
  refine (itoa_any n _ hL1 (by omega) (by omega)).mono ?_
  rintro e w2 ⟨rfl, hb2⟩
  have hb := bl_trans hb1 hb2
  clear hb1 hb2 hL1 hL
  rw [He.out]
  go_wp2_with fail
  refine (right_num n _).mono ?_
  rintro e w3 ⟨rfl, rfl⟩
  go_wp2
  go_ret2
  exact ⟨ret_some Hn.out, hb⟩

theorem readNumber_err (s : ByteArray) (w : World) (hL : Laid w) (hs : s.size ≤ 1048576) (hn : numL s.data.toList = none) (h : ∀ v, Lib.atoiAll s.data.toList ≠ .ok v) :
    Calls Tryz.prog 35 #[.string s] w fun e w' => e = .returned (numV (numL s.data.toList)) ∧ Below w.heap.size w w' := by
  have Hn : Hid _ := hn
  have H : Hid _ := h
  clear hn h
  go_enter Tryz.func35, Tryz.ntmps35
  go_wp2_with fail
  refine (atoi_no s _ hL hs H.out).mono ?_
  rintro e w1 ⟨v, tp, p, rfl, hb1⟩
  go_wp2
  go_ret2
  exact ⟨ret_none Hn.out, hb1⟩

theorem readNumber_other (s : ByteArray) (v : Int) (w : World) (hL : Laid w) (hs : s.size ≤ 1048576) (hn : numL s.data.toList = none) (h : Lib.atoiAll s.data.toList = .ok v) (hne : ((itoaS v).toList == s.toList) = false) :
    Calls Tryz.prog 35 #[.string s] w fun e w' => e = .returned (numV (numL s.data.toList)) ∧ Below w.heap.size w w' := by
  have hbd := Lib.atoiAll_bounds h
  have Hn : Hid _ := hn
  have H : Hid _ := h
  clear hn h
  go_enter Tryz.func35, Tryz.ntmps35
  go_wp2_with fail
  refine (atoi_ok s v _ hs H.out).mono ?_
  rintro e w1 ⟨rfl, hb1⟩
  have hL1 := hL.keep hb1
  go_wp2_with fail
  refine (itoa_any v _ hL1 (by omega) (by omega)).mono ?_
  rintro e w2 ⟨rfl, hb2⟩
  have hb := bl_trans hb1 hb2
  clear hb1 hb2 hL1 hL
  go_wp2
  go_ret2
  exact ⟨ret_none Hn.out, hb⟩

theorem readNumber_far (s : ByteArray) (v : Int) (w : World) (hL : Laid w) (hs : s.size ≤ 1048576) (hn : numL s.data.toList = none) (h : Lib.atoiAll s.data.toList = .ok v) (he : itoaS v = s) (hok : okNum v = false) :
    Calls Tryz.prog 35 #[.string s] w fun e w' => e = .returned (numV (numL s.data.toList)) ∧ Below w.heap.size w w' := by
  have hbd := Lib.atoiAll_bounds h
  have Hn : Hid _ := hn
  have He : Hid _ := he
  have H : Hid _ := h
  clear hn h he
  go_enter Tryz.func35, Tryz.ntmps35
  go_wp2_with fail
  refine (atoi_ok s v _ hs H.out).mono ?_
  rintro e w1 ⟨rfl, hb1⟩
  have hL1 := hL.keep hb1
  go_wp2_with fail
  refine (itoa_any v _ hL1 (by omega) (by omega)).mono ?_
  rintro e w2 ⟨rfl, hb2⟩
  have hb := bl_trans hb1 hb2
  clear hb1 hb2 hL1 hL
  rw [He.out]
  go_wp2_with fail
  refine (right_num v _).mono ?_
  rintro e w3 ⟨rfl, rfl⟩
  go_wp2
  go_ret2
  exact ⟨ret_none Hn.out, hb⟩

theorem readNumber_any (s : ByteArray) (w : World) (hL : Laid w) (hs : s.size ≤ 1048576) :
    Calls Tryz.prog 35 #[.string s] w fun e w' => e = .returned (numV (numL s.data.toList)) ∧ Below w.heap.size w w' := by
  cases hn : numL s.data.toList with
  | some n => rw [← hn]; exact readNumber_yes s n w hL hs hn
  | none =>
    rw [← hn]
    by_cases hv : ∃ v, Lib.atoiAll s.data.toList = .ok v
    · obtain ⟨v, hv⟩ := hv
      cases hne : ((itoaS v).toList == s.toList)
      · exact readNumber_other s v w hL hs hn hv hne
      · have he : Lib.itoa v = s.data.toList := by
          have := beq_iff_eq.1 hne
          rw [ByteArray.toList_eq, ByteArray.toList_eq, itoaS_list] at this
          exact this
        refine readNumber_far s v w hL hs hn hv (same_text he) ?_
        cases hk : okNum v
        · rfl
        · simp only [okNum, Bool.and_eq_true, decide_eq_true_eq] at hk
          have := num_itoa hk.1 hk.2
          rw [he, hn] at this
          cases this
    · exact readNumber_err s w hL hs hn (fun v h => hv ⟨v, h⟩)
end Go.Proofs.YtljecghkechcaaaGreatDoor
