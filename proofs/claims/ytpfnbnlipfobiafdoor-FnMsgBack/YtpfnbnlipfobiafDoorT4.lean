/-
  The walk of the law on messages and their texts.
-/
import Derived.Test.YtpfnbnlipfobiafDoorT1
import Derived.Test.YtpfnbnlipfobiafDoorT3
import Derived.Test.YtpfnbnlipfobiafDoorG5
namespace Go.Proofs.YtpfnbnlipfobiafDoor
open Go.RowKit Pl Nu Dr

theorem big_no (a : Option Addr) (len cap : Nat) (w : World) (hl : len ≤ 1048576) :
    Calls Tryd.prog 4 #[.slice a len cap] w fun e w' => e = .returned (.bool false) ∧ w' = w := by
  have h : ¬ 1048576 < (len : Int) := by omega
  go_enter Tryd.func4, Tryd.ntmps4
  go_wp2
  go_ret
  exact ⟨by simp, rfl⟩
theorem big_yes (a : Option Addr) (len cap : Nat) (w : World) (hl : 1048576 < len) :
    Calls Tryd.prog 4 #[.slice a len cap] w fun e w' => e = .returned (.bool true) ∧ w' = w := by
  have h : 1048576 < (len : Int) := by omega
  go_enter Tryd.func4, Tryd.ntmps4
  go_wp2
  go_ret
  exact ⟨by simp, rfl⟩

theorem msg_form (o : Option (Int × Int × ByteArray)) : ∃ (k n : Int) (t : ByteArray) (b : Bool), msgV o = .tuple #[.agg #[.int .i64 k, .int .i64 n, .string t], .bool b] := by
  rcases o with _ | ⟨k, n, t⟩
  · exact ⟨_, _, _, _, rfl⟩
  · exact ⟨_, _, _, _, rfl⟩
theorem read_size {s : ByteArray} {k n : Int} {t : ByteArray} (h : readM s = some (k, n, t)) : t.size ≤ s.size := by
  unfold readM at h
  split at h
  · simp only [Option.some.injEq, Prod.mk.injEq] at h
    rw [← h.2.2]; exact Nat.zero_le _
  · split at h
    · simp only [Option.some.injEq, Prod.mk.injEq] at h
      rw [← h.2.2]; exact mid_size s
    · cases h
theorem msg_true {s : ByteArray} {k n : Int} {t : ByteArray} (h : msgV (readM s) = .tuple #[.agg #[.int .i64 k, .int .i64 n, .string t], .bool true]) :
    readM s = some (k, n, t) ∧ okB k n t = true ∧ textV k n t = s ∧ t.size ≤ s.size := by
  have hr : readM s = some (k, n, t) := by
    cases hc : readM s with
    | none => rw [hc] at h; simp [msgV] at h
    | some x =>
      obtain ⟨k', n', t'⟩ := x
      rw [hc] at h
      simp [msgV] at h
      rw [h.1, h.2.1, h.2.2]
  exact ⟨hr, (text_of_read hr).1, (text_of_read hr).2, read_size hr⟩
theorem text_size (k n : Int) (t : ByteArray) (ht : t.size ≤ 41) : (textV k n t).size ≤ 60 := by
  unfold textV
  split
  · rename_i ho
    split
    · rename_i h1
      subst h1
      obtain ⟨n0, n1⟩ := ok_bounds ho
      rw [← len_eq, itoaB_list]
      unfold Lib.itoa
      split
      · have := dd_len 8 n.natAbs (by show _ < 1000000000; omega)
        simp; omega
      · have := dd_len 8 n.toNat (by show _ < 1000000000; omega)
        omega
    · rw [quote_size]; omega
  · show 1 ≤ 60
    omega

theorem back_big (a : Option Addr) (len cap : Nat) (w : World) (hl : 1048576 < len) :
    Calls Tryd.prog 3 #[.slice a len cap] w fun e w' => e = .returned (.bool true) ∧ Below w.heap.size w w' := by
  go_enter Tryd.func3, Tryd.ntmps3
  go_wp2_with fail
  refine (big_yes a len cap _ hl).mono ?_
  rintro e w' ⟨rfl, rfl⟩
  go_wp2
  go_ret
  exact ⟨rfl, Below.refl _ _⟩

set_option maxHeartbeats 2000000 in
theorem back_small (a : Option Addr) (len cap : Nat) (w : World) (hL : Laid w) (hB : Bytes w.heap.size w a len cap) (hl : len ≤ 1048576) :
    Calls Tryd.prog 3 #[.slice a len cap] w fun e w' => e = .returned (.bool true) ∧ Below w.heap.size w w' := by
  go_enter Tryd.func3, Tryd.ntmps3
  go_wp2_with fail
  refine (big_no a len cap _ hl).mono ?_
  rintro e w0 ⟨rfl, rfl⟩
  go_wp2_with fail
  refine (drawText_any a len cap _ hB).mono ?_
  rintro e w1 ⟨k, n, t, rfl, ht, hb1⟩
  have B1 := bl_alloc hb1 (.cells #[.int .i64 k, .int .i64 n, .string t] 25)
  have L1 := hL.keep B1
  have m1 := Box3.new w1 (.int .i64 k) (.int .i64 n) (.string t) 25
  have hmx : t.size ≤ maxLen := by unfold maxLen; omega
  clear hb1 hL
  go_wp2_with fail
  refine (implText_any k n t _ L1 (by omega)).mono ?_
  rintro e w2 ⟨rfl, hb2⟩
  have B2 := bl_trans B1 hb2
  have L2 := L1.keep hb2
  have m2 := m1.keep hb2
  clear hb2 B1 L1 m1
  have hts := text_size k n t ht
  cases ho : okB k n t
  · have e1 := text_bad ho
    have Hr : Hid _ := read_of_mark
    rw [e1] at hts ⊢
    clear e1
    go_wp2_with fail
    refine (implRead_any _ _ L2 (by omega)).mono ?_
    rintro e w3 ⟨rfl, hb3⟩
    rw [Hr.out]
    unfold msgV
    have B3 := bl_alloc (bl_trans B2 hb3) (.cells #[.int .i64 0, .int .i64 0, .string ⟨#[]⟩] 25)
    have L3 := (L2.keep hb3).keep (bl_alloc (Below.refl _ _) (.cells #[.int .i64 0, .int .i64 0, .string ⟨#[]⟩] 25))
    have m3 := (m2.keep hb3).alloc (.cells #[.int .i64 0, .int .i64 0, .string ⟨#[]⟩] 25)
    clear hb3 B2 L2 m2
    obtain ⟨_, p0, p1, p2, fr⟩ := id m3
    go_wp2_with fail
    refine (specMsgOk_any k n t _ hmx).mono ?_
    rintro e w3' ⟨rfl, hb⟩
    have B3' := bl_trans B3 hb
    have L3' := L3.keep hb
    have m3' := m3.keep hb
    clear hb B3 L3 m3 p0 p1 p2 fr
    obtain ⟨_, p0, p1, p2, fr⟩ := id m3'
    go_wp2_with fail
    refine (specMsgOk_any k n t _ hmx).mono ?_
    rintro e w4 ⟨rfl, hb⟩
    have B4 := bl_trans B3' hb
    have L4 := L3'.keep hb
    clear hb B3' L3' m3' p0 p1 p2 fr
    go_wp2_with fail
    refine (drawRead_any a len cap _ (hB.later' B4 _ (B4.size))).mono ?_
    rintro e w5 ⟨o, rfl, ho, hb5⟩
    have B5 := bl_trans B4 hb5
    have L5 := L4.keep hb5
    clear hb5 B4 L4
    obtain ⟨k2, n2, t2, b2, hv2⟩ := msg_form (readM o)
    have Hv2 : Hid _ := hv2
    clear hv2
    go_wp2_with fail
    refine (implRead_any o _ L5 (by omega)).mono ?_
    rintro e w6 ⟨rfl, hb6⟩
    rw [Hv2.out]
    have B6 := bl_alloc (bl_trans B5 hb6) (.cells #[.int .i64 k2, .int .i64 n2, .string t2] 25)
    have L6 := (L5.keep hb6).keep (bl_alloc (Below.refl _ _) (.cells #[.int .i64 k2, .int .i64 n2, .string t2] 25))
    have y6 := Box3.new w6 (.int .i64 k2) (.int .i64 n2) (.string t2) 25
    clear hb6 B5 L5
    go_wp2_with fail
    refine (specRead_any o _ (by omega)).mono ?_
    rintro e w7 ⟨rfl, hb7⟩
    rw [Hv2.out]
    have B7 := bl_alloc (bl_trans B6 hb7) (.cells #[.int .i64 k2, .int .i64 n2, .string t2] 25)
    have L7 := (L6.keep hb7).keep (bl_alloc (Below.refl _ _) (.cells #[.int .i64 k2, .int .i64 n2, .string t2] 25))
    have y7 := (y6.keep hb7).alloc (.cells #[.int .i64 k2, .int .i64 n2, .string t2] 25)
    clear hb7 B6 L6 y6
    cases b2
    · go_wp2
      go_ret
      exact ⟨rfl, B7⟩
    · obtain ⟨hr, hk2, ht2, hz2⟩ := msg_true Hv2.out
      obtain ⟨_, q0, q1, q2, fq⟩ := id y7
      have Hr : Hid _ := ht2
      clear hr ht2
      go_wp2_with fail
      refine (implText_any k2 n2 t2 _ L7 (by omega)).mono ?_
      rintro e w8 ⟨rfl, hb8⟩
      rw [Hr.out]
      have B8 := bl_trans B7 hb8
      have y8 := y7.keep hb8
      clear hb8 B7 L7 y7 q0 q1 q2 fq
      obtain ⟨_, q0, q1, q2, fq⟩ := y8
      go_wp2_with fail
      refine (implMsgOk_any k2 n2 t2 _ (by unfold maxLen; omega)).mono ?_
      rintro e w9 ⟨rfl, hb9⟩
      have B9 := bl_trans B8 hb9
      clear hb9 B8
      go_wp2
      go_ret
      exact ⟨rfl, B9⟩
  · have Hr : Hid _ := read_of_text ho
    go_wp2_with fail
    refine (implRead_any _ _ L2 (by omega)).mono ?_
    rintro e w3 ⟨rfl, hb3⟩
    rw [Hr.out]
    unfold msgV
    have B3 := bl_alloc (bl_trans B2 hb3) (.cells #[.int .i64 k, .int .i64 n, .string t] 25)
    have L3 := (L2.keep hb3).keep (bl_alloc (Below.refl _ _) (.cells #[.int .i64 k, .int .i64 n, .string t] 25))
    have m3 := (m2.keep hb3).alloc (.cells #[.int .i64 k, .int .i64 n, .string t] 25)
    have x3 := Box3.new w3 (.int .i64 k) (.int .i64 n) (.string t) 25
    clear hb3 B2 L2 m2
    obtain ⟨_, p0, p1, p2, fr⟩ := id m3
    go_wp2_with fail
    refine (specMsgOk_any k n t _ hmx).mono ?_
    rintro e w3' ⟨rfl, hb⟩
    have B3' := bl_trans B3 hb
    have L3' := L3.keep hb
    have m3' := m3.keep hb
    have x3' := x3.keep hb
    clear hb B3 L3 m3 p0 p1 p2 fr x3
    obtain ⟨_, p0, p1, p2, fr⟩ := id m3'
    obtain ⟨_, u0, u1, u2, fu⟩ := id x3'
    go_wp2_with fail
    refine (specMsgOk_any k n t _ hmx).mono ?_
    rintro e w4 ⟨rfl, hb⟩
    have B4 := bl_trans B3' hb
    have L4 := L3'.keep hb
    clear hb B3' L3' m3' x3' p0 p1 p2 fr u0 u1 u2 fu
    go_wp2_with fail
    refine (drawRead_any a len cap _ (hB.later' B4 _ (B4.size))).mono ?_
    rintro e w5 ⟨o, rfl, ho, hb5⟩
    have B5 := bl_trans B4 hb5
    have L5 := L4.keep hb5
    clear hb5 B4 L4
    obtain ⟨k2, n2, t2, b2, hv2⟩ := msg_form (readM o)
    have Hv2 : Hid _ := hv2
    clear hv2
    go_wp2_with fail
    refine (implRead_any o _ L5 (by omega)).mono ?_
    rintro e w6 ⟨rfl, hb6⟩
    rw [Hv2.out]
    have B6 := bl_alloc (bl_trans B5 hb6) (.cells #[.int .i64 k2, .int .i64 n2, .string t2] 25)
    have L6 := (L5.keep hb6).keep (bl_alloc (Below.refl _ _) (.cells #[.int .i64 k2, .int .i64 n2, .string t2] 25))
    have y6 := Box3.new w6 (.int .i64 k2) (.int .i64 n2) (.string t2) 25
    clear hb6 B5 L5
    go_wp2_with fail
    refine (specRead_any o _ (by omega)).mono ?_
    rintro e w7 ⟨rfl, hb7⟩
    rw [Hv2.out]
    have B7 := bl_alloc (bl_trans B6 hb7) (.cells #[.int .i64 k2, .int .i64 n2, .string t2] 25)
    have L7 := (L6.keep hb7).keep (bl_alloc (Below.refl _ _) (.cells #[.int .i64 k2, .int .i64 n2, .string t2] 25))
    have y7 := (y6.keep hb7).alloc (.cells #[.int .i64 k2, .int .i64 n2, .string t2] 25)
    clear hb7 B6 L6 y6
    cases b2
    · go_wp2
      go_ret
      exact ⟨rfl, B7⟩
    · obtain ⟨hr, hk2, ht2, hz2⟩ := msg_true Hv2.out
      obtain ⟨_, q0, q1, q2, fq⟩ := id y7
      have Hr : Hid _ := ht2
      clear hr ht2
      go_wp2_with fail
      refine (implText_any k2 n2 t2 _ L7 (by omega)).mono ?_
      rintro e w8 ⟨rfl, hb8⟩
      rw [Hr.out]
      have B8 := bl_trans B7 hb8
      have y8 := y7.keep hb8
      clear hb8 B7 L7 y7 q0 q1 q2 fq
      obtain ⟨_, q0, q1, q2, fq⟩ := y8
      go_wp2_with fail
      refine (implMsgOk_any k2 n2 t2 _ (by unfold maxLen; omega)).mono ?_
      rintro e w9 ⟨rfl, hb9⟩
      have B9 := bl_trans B8 hb9
      clear hb9 B8
      go_wp2
      go_ret
      exact ⟨rfl, B9⟩

theorem back_any (a : Option Addr) (len cap : Nat) (w : World) (hL : Laid w) (hB : len ≤ 1048576 → Bytes w.heap.size w a len cap) :
    Calls Tryd.prog 3 #[.slice a len cap] w fun e w' => e = .returned (.bool true) ∧ Below w.heap.size w w' := by
  by_cases hl : len ≤ 1048576
  · exact back_small a len cap w hL (hB hl) hl
  · exact back_big a len cap w (by omega)
end Go.Proofs.YtpfnbnlipfobiafDoor
