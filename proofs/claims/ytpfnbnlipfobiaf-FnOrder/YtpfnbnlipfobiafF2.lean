/-
  The walk of the law on the order of messages.
-/
import Derived.Test.YtpfnbnlipfobiafF1
namespace Go.Proofs.Ytpfnbnlipfobiaf
open Go.RowKit Pl Dr

theorem big_no (a : Option Addr) (len cap : Nat) (w : World) (hl : len ≤ 1048576) :
    Calls Try.prog 4 #[.slice a len cap] w fun e w' => e = .returned (.bool false) ∧ w' = w := by
  have h : ¬ 1048576 < (len : Int) := by omega
  go_enter Try.func4, Try.ntmps4
  go_wp2
  go_ret
  exact ⟨by simp, rfl⟩
theorem big_yes (a : Option Addr) (len cap : Nat) (w : World) (hl : 1048576 < len) :
    Calls Try.prog 4 #[.slice a len cap] w fun e w' => e = .returned (.bool true) ∧ w' = w := by
  have h : 1048576 < (len : Int) := by omega
  go_enter Try.func4, Try.ntmps4
  go_wp2
  go_ret
  exact ⟨by simp, rfl⟩

/-- A message in a variable, in block N. -/
abbrev MsgAt (N : Nat) (k n : Int) (s : ByteArray) (w : World) : Prop := Box3 N (.int .i64 k) (.int .i64 n) (.string s) w

/-- Three messages in variables; what lay ahead of the call in w0 is as it was. -/
structure Three (w0 : World) (α γ : Nat) (k n : Int) (s : ByteArray) (k' n' : Int) (s' : ByteArray) (k'' n'' : Int) (s'' : ByteArray) (w : World) : Prop where
  a : MsgAt α k n s w
  b : MsgAt (α + 1) k' n' s' w
  c : MsgAt (γ + 1) k'' n'' s'' w
  below : Below w0.heap.size w0 w
theorem Three.keep {w0 : World} {α γ : Nat} {k n : Int} {s : ByteArray} {k' n' : Int} {s' : ByteArray} {k'' n'' : Int} {s'' : ByteArray} {w w' : World} (h : Three w0 α γ k n s k' n' s' k'' n'' s'' w) (hb : Below w.heap.size w w') :
    Three w0 α γ k n s k' n' s' k'' n'' s'' w' := ⟨h.a.keep hb, h.b.keep hb, h.c.keep hb, bl_trans h.below hb⟩

/-- The same, the cells that are read told one by one. -/
abbrev Cells (w0 : World) (α γ : Nat) (k n : Int) (s : ByteArray) (k' n' : Int) (s' : ByteArray) (k'' n'' : Int) (s'' : ByteArray) (w : World) : Prop :=
  Three w0 α γ k n s k' n' s' k'' n'' s'' w ∧ w.cell? ⟨α, 0, none⟩ = some (.int .i64 k) ∧ w.cell? ⟨α, 1, none⟩ = some (.int .i64 n) ∧ w.cell? ⟨α, 2, none⟩ = some (.string s) ∧
  w.cell? ⟨α + 1, 0, none⟩ = some (.int .i64 k') ∧ w.cell? ⟨α + 1, 1, none⟩ = some (.int .i64 n') ∧ w.cell? ⟨α + 1, 2, none⟩ = some (.string s')
theorem Three.cells {w0 : World} {α γ : Nat} {k n : Int} {s : ByteArray} {k' n' : Int} {s' : ByteArray} {k'' n'' : Int} {s'' : ByteArray} {w : World} (h : Three w0 α γ k n s k' n' s' k'' n'' s'' w) :
    Cells w0 α γ k n s k' n' s' k'' n'' s'' w := ⟨h, h.a.c0, h.a.c1, h.a.c2, h.b.c0, h.b.c1, h.b.c2⟩

theorem order_big (a : Option Addr) (len cap : Nat) (w : World) (hl : 1048576 < len) :
    Calls Try.prog 3 #[.slice a len cap] w fun e w' => e = .returned (.bool true) ∧ Below w.heap.size w w' := by
  go_enter Try.func3, Try.ntmps3
  go_wp2_with fail
  refine (big_yes a len cap _ hl).mono ?_
  rintro e w' ⟨rfl, rfl⟩
  go_wp2
  go_ret
  exact ⟨rfl, Below.refl _ _⟩

set_option maxHeartbeats 1000000 in
theorem order_small (a : Option Addr) (len cap : Nat) (w : World) (hB : Bytes w.heap.size w a len cap) (hl : len ≤ 1048576) :
    Calls Try.prog 3 #[.slice a len cap] w fun e w' => e = .returned (.bool true) ∧ Below w.heap.size w w' := by
  go_enter Try.func3, Try.ntmps3
  go_wp2_with fail
  refine (big_no a len cap _ hl).mono ?_
  rintro e w0 ⟨rfl, rfl⟩
  go_wp2_with fail
  refine (drawLess_any a len cap _ hB).mono ?_
  rintro e w1 ⟨k, n, s, k', n', s', rfl, hs, hs', hb1⟩
  have bA : Below w0.heap.size w0 ((w1.alloc (.cells #[.int .i64 k, .int .i64 n, .string s] 25)).alloc (.cells #[.int .i64 k', .int .i64 n', .string s'] 25)) := bl_alloc (bl_alloc hb1 _) _
  obtain ⟨g, cap', w2, hr, hB2, hb2⟩ := append3 a len cap _ (hB.later bA _ (bA.size)) hl
  have mA := ((Box3.new w1 (.int .i64 k) (.int .i64 n) (.string s) 25).alloc (.cells #[.int .i64 k', .int .i64 n', .string s'] 25)).keep hb2
  have mB := (Box3.new (w1.alloc (.cells #[.int .i64 k, .int .i64 n, .string s] 25)) (.int .i64 k') (.int .i64 n') (.string s') 25).keep hb2
  have hb := bl_trans bA hb2
  simp only [World.size_alloc] at hr
  have Hr : Hid _ := hr
  have HB : Hid _ := hB2
  clear hr hB2 hb2 bA hb1 hB
  simp only [World.size_alloc] at mB
  go_wp2_with (at_builtin; refine wpList_append_run rfl _ _ 22 rfl _ _ _ rfl rfl Hr.out ?_)
  refine (drawLess_any _ _ _ _ HB.out).mono ?_
  rintro e w3 ⟨k2, n2, s2, k'', n'', s'', rfl, hs2, hs'', hb3⟩
  have T4 : Three w0 w1.heap.size w3.heap.size k n s k' n' s' k'' n'' s'' ((w3.alloc (.cells #[.int .i64 k2, .int .i64 n2, .string s2] 25)).alloc (.cells #[.int .i64 k'', .int .i64 n'', .string s''] 25)) := by
    have hx : Below w2.heap.size w2 ((w3.alloc (.cells #[.int .i64 k2, .int .i64 n2, .string s2] 25)).alloc (.cells #[.int .i64 k'', .int .i64 n'', .string s''] 25)) := bl_alloc (bl_alloc hb3 _) _
    have hy := Box3.new (w3.alloc (.cells #[.int .i64 k2, .int .i64 n2, .string s2] 25)) (.int .i64 k'') (.int .i64 n'') (.string s'') 25
    simp only [World.size_alloc] at hy
    exact ⟨mA.keep hx, mB.keep hx, hy, bl_trans hb hx⟩
  have m1 : s.size ≤ maxLen := by unfold maxLen; omega
  have m2 : s'.size ≤ maxLen := by unfold maxLen; omega
  have m3 : s''.size ≤ maxLen := by unfold maxLen; omega
  clear Hr HB hb3 hb mA mB hs hs' hs2 hs''
  obtain ⟨⟨_, a0, a1, a2, _⟩, ⟨_, b0, b1, b2, _⟩, ⟨_, c0, c1, c2, _⟩, _⟩ := id T4
  go_wp2_with fail
  refine (specMsgOk_any k n s _ m1).mono ?_
  rintro e w5 ⟨rfl, hbb⟩
  have Tw5 := T4.keep hbb
  clear hbb a0 a1 a2 b0 b1 b2 c0 c1 c2 T4
  obtain ⟨⟨_, a0, a1, a2, _⟩, ⟨_, b0, b1, b2, _⟩, ⟨_, c0, c1, c2, _⟩, _⟩ := id Tw5
  cases ho : okB k n s
  · have l1 : ltB k n s k' n' s' = false := lt_no1 ho
    have l2 : ltB k' n' s' k n s = false := lt_no2 ho
    go_wp2_with fail
    refine (implLess_any k n s k' n' s' _ m1 m2).mono ?_
    rintro e w7 ⟨rfl, hbb⟩
    have Tw7 := Tw5.keep hbb
    clear hbb a0 a1 a2 b0 b1 b2 c0 c1 c2 Tw5
    obtain ⟨⟨_, a0, a1, a2, _⟩, ⟨_, b0, b1, b2, _⟩, ⟨_, c0, c1, c2, _⟩, _⟩ := id Tw7
    go_wp2_with fail
    refine (implLess_any k' n' s' k n s _ m2 m1).mono ?_
    rintro e w8 ⟨rfl, hbb⟩
    have Tw8 := Tw7.keep hbb
    clear hbb a0 a1 a2 b0 b1 b2 c0 c1 c2 Tw7
    obtain ⟨⟨_, a0, a1, a2, _⟩, ⟨_, b0, b1, b2, _⟩, ⟨_, c0, c1, c2, _⟩, _⟩ := id Tw8
    go_wp2
    go_ret
    exact ⟨rfl, Tw8.below⟩
  · go_wp2_with fail
    refine (specMsgOk_any k' n' s' _ m2).mono ?_
    rintro e w6 ⟨rfl, hbb⟩
    have Tw6 := Tw5.keep hbb
    clear hbb a0 a1 a2 b0 b1 b2 c0 c1 c2 Tw5
    obtain ⟨⟨_, a0, a1, a2, _⟩, ⟨_, b0, b1, b2, _⟩, ⟨_, c0, c1, c2, _⟩, _⟩ := id Tw6
    cases ho' : okB k' n' s'
    · have l1 : ltB k n s k' n' s' = false := lt_no2 ho'
      have l2 : ltB k' n' s' k n s = false := lt_no1 ho'
      go_wp2_with fail
      refine (implLess_any k n s k' n' s' _ m1 m2).mono ?_
      rintro e w7 ⟨rfl, hbb⟩
      have Tw7 := Tw6.keep hbb
      clear hbb a0 a1 a2 b0 b1 b2 c0 c1 c2 Tw6
      obtain ⟨⟨_, a0, a1, a2, _⟩, ⟨_, b0, b1, b2, _⟩, ⟨_, c0, c1, c2, _⟩, _⟩ := id Tw7
      go_wp2_with fail
      refine (implLess_any k' n' s' k n s _ m2 m1).mono ?_
      rintro e w8 ⟨rfl, hbb⟩
      have Tw8 := Tw7.keep hbb
      clear hbb a0 a1 a2 b0 b1 b2 c0 c1 c2 Tw7
      obtain ⟨⟨_, a0, a1, a2, _⟩, ⟨_, b0, b1, b2, _⟩, ⟨_, c0, c1, c2, _⟩, _⟩ := id Tw8
      go_wp2
      go_ret
      exact ⟨rfl, Tw8.below⟩
    · go_wp2_with fail
      go_region_held3 (fun w' => Cells w0 w1.heap.size w3.heap.size k n s k' n' s' k'' n'' s'' w') (first | (exact (Tw6.keep (Below.refl _ _).drew).cells) | (exact (Three.keep (And.left (by assumption)) (by assumption)).cells))
        (first
          | (go_at_call_of 7 (#[Value.agg #[.int .i64 k, .int .i64 n, .string s], Value.agg #[.int .i64 k', .int .i64 n', .string s']] : Array Value); refine (implLess_any k n s k' n' s' _ m1 m2).mono ?_; rintro e w' ⟨rfl, hbb⟩)
          | (go_at_call_of 7 (#[Value.agg #[.int .i64 k', .int .i64 n', .string s'], Value.agg #[.int .i64 k, .int .i64 n, .string s]] : Array Value); refine (implLess_any k' n' s' k n s _ m2 m1).mono ?_; rintro e w' ⟨rfl, hbb⟩))
      rename_i w7 hS7
      have Tw7 := hS7.1
      clear hS7 a0 a1 a2 b0 b1 b2 c0 c1 c2 Tw6
      obtain ⟨⟨_, a0, a1, a2, _⟩, ⟨_, b0, b1, b2, _⟩, ⟨_, c0, c1, c2, _⟩, _⟩ := id Tw7
      cases lp : ltB k n s k' n' s'
      · cases lq : ltB k' n' s' k n s
        · obtain ⟨rfl, rfl, es⟩ := lt_tri ho ho' lp lq
          go_wp2_with fail
          refine (specLess_any _ _ _ _ _ _ _ m1 m2).mono ?_
          rintro e w8 ⟨rfl, hbb⟩
          have Tw8 := Tw7.keep hbb
          clear hbb a0 a1 a2 b0 b1 b2 c0 c1 c2 Tw7
          obtain ⟨⟨_, a0, a1, a2, _⟩, ⟨_, b0, b1, b2, _⟩, ⟨_, c0, c1, c2, _⟩, _⟩ := id Tw8
          go_wp2_with fail
          refine (specMsgOk_any k'' n'' s'' _ m3).mono ?_
          rintro e w9 ⟨rfl, hbb⟩
          have Tw9 := Tw8.keep hbb
          clear hbb a0 a1 a2 b0 b1 b2 c0 c1 c2 Tw8
          obtain ⟨⟨_, a0, a1, a2, _⟩, ⟨_, b0, b1, b2, _⟩, ⟨_, c0, c1, c2, _⟩, _⟩ := id Tw9
          cases ho'' : okB k'' n'' s''
          · go_wp2
            go_ret
            exact ⟨rfl, Tw9.below⟩
          · go_wp2
            go_ret
            exact ⟨rfl, Tw9.below⟩
        · go_wp2_with fail
          refine (specLess_any k n s k' n' s' _ m1 m2).mono ?_
          rintro e w8 ⟨rfl, hbb⟩
          have Tw8 := Tw7.keep hbb
          clear hbb a0 a1 a2 b0 b1 b2 c0 c1 c2 Tw7
          obtain ⟨⟨_, a0, a1, a2, _⟩, ⟨_, b0, b1, b2, _⟩, ⟨_, c0, c1, c2, _⟩, _⟩ := id Tw8
          go_wp2_with fail
          refine (specMsgOk_any k'' n'' s'' _ m3).mono ?_
          rintro e w9 ⟨rfl, hbb⟩
          have Tw9 := Tw8.keep hbb
          clear hbb a0 a1 a2 b0 b1 b2 c0 c1 c2 Tw8
          obtain ⟨⟨_, a0, a1, a2, _⟩, ⟨_, b0, b1, b2, _⟩, ⟨_, c0, c1, c2, _⟩, _⟩ := id Tw9
          cases ho'' : okB k'' n'' s''
          · go_wp2
            go_ret
            exact ⟨rfl, Tw9.below⟩
          · go_wp2
            go_ret
            exact ⟨rfl, Tw9.below⟩
      · have lq := lt_asymm lp
        go_wp2_with fail
        refine (specLess_any k n s k' n' s' _ m1 m2).mono ?_
        rintro e w8 ⟨rfl, hbb⟩
        have Tw8 := Tw7.keep hbb
        clear hbb a0 a1 a2 b0 b1 b2 c0 c1 c2 Tw7
        obtain ⟨⟨_, a0, a1, a2, _⟩, ⟨_, b0, b1, b2, _⟩, ⟨_, c0, c1, c2, _⟩, _⟩ := id Tw8
        go_wp2_with fail
        refine (specMsgOk_any k'' n'' s'' _ m3).mono ?_
        rintro e w9 ⟨rfl, hbb⟩
        have Tw9 := Tw8.keep hbb
        clear hbb a0 a1 a2 b0 b1 b2 c0 c1 c2 Tw8
        obtain ⟨⟨_, a0, a1, a2, _⟩, ⟨_, b0, b1, b2, _⟩, ⟨_, c0, c1, c2, _⟩, _⟩ := id Tw9
        cases ho'' : okB k'' n'' s''
        · go_wp2
          go_ret
          exact ⟨rfl, Tw9.below⟩
        · go_wp2_with fail
          refine (implLess_any k' n' s' k'' n'' s'' _ m2 m3).mono ?_
          rintro e wa ⟨rfl, hbb⟩
          have Twa := Tw9.keep hbb
          clear hbb a0 a1 a2 b0 b1 b2 c0 c1 c2 Tw9
          obtain ⟨⟨_, a0, a1, a2, _⟩, ⟨_, b0, b1, b2, _⟩, ⟨_, c0, c1, c2, _⟩, _⟩ := id Twa
          cases lbc : ltB k' n' s' k'' n'' s''
          · go_wp2
            go_ret
            exact ⟨rfl, Twa.below⟩
          · have lac := lt_trans' lp lbc
            go_wp2_with fail
            refine (implLess_any k n s k'' n'' s'' _ m1 m3).mono ?_
            rintro e wb ⟨rfl, hbb⟩
            have Twb := Twa.keep hbb
            clear hbb a0 a1 a2 b0 b1 b2 c0 c1 c2 Twa
            obtain ⟨⟨_, a0, a1, a2, _⟩, ⟨_, b0, b1, b2, _⟩, ⟨_, c0, c1, c2, _⟩, _⟩ := id Twb
            go_wp2
            go_ret
            exact ⟨rfl, Twb.below⟩

theorem order_any (a : Option Addr) (len cap : Nat) (w : World) (hB : len ≤ 1048576 → Bytes w.heap.size w a len cap) :
    Calls Try.prog 3 #[.slice a len cap] w fun e w' => e = .returned (.bool true) ∧ Below w.heap.size w w' := by
  by_cases hl : len ≤ 1048576
  · exact order_small a len cap w (hB hl) hl
  · exact order_big a len cap w (by omega)
end Go.Proofs.Ytpfnbnlipfobiaf
