/-
  Walks: a message's body read.
-/
import Derived.Test.YtpfnbnlipfobiafDoorG3
import Derived.Test.YtpfnbnlipfobiafDoorQuo
namespace Go.Proofs.YtpfnbnlipfobiafDoor
open Go.RowKit Pl Nu

theorem readBody_num (s : ByteArray) (n : Int) (w : World) (hL : Laid w) (hs : s.size ≤ 1048576) (hn : numL s.data.toList = some n) :
    Calls Tryd.prog 15 #[.string s] w fun e w' => e = .returned (.tuple #[.iface 54 (.int .i64 n), .bool true]) ∧ Below w.heap.size w w' := by
  have Hn : Hid _ := hn
  clear hn
  go_enter Tryd.func15, Tryd.ntmps15
  go_wp2_with fail
  refine (readNumber_any s _ hL hs).mono ?_
  rintro e w1 ⟨rfl, hb1⟩
  rw [Hn.out]
  unfold numV
  go_wp2
  go_ret2
  exact ⟨rfl, hb1⟩

theorem readBody_text (s : ByteArray) (w : World) (hL : Laid w) (hs : s.size ≤ 1048576) (hn : numL s.data.toList = none) :
    Calls Tryd.prog 15 #[.string s] w fun e w' => ((quotedB s = false ∧ e = .returned (.tuple #[.nilIface, .bool false])) ∨ (quotedB s = true ∧ e = .returned (.tuple #[.iface 55 (.string (mid s)), .bool (plainB (mid s))]))) ∧ Below w.heap.size w w' := by
  have Hn : Hid _ := hn
  clear hn
  go_enter Tryd.func15, Tryd.ntmps15
  go_wp2_with fail
  refine (readNumber_any s _ hL hs).mono ?_
  rintro e w1 ⟨rfl, hb1⟩
  rw [Hn.out]
  unfold numV
  go_wp2_with fail
  · have hq := q_last (s := s) (by omega) ‹_›
    go_ret2
    exact ⟨.inl ⟨hq, rfl⟩, hb1⟩
  · have hq := q_yes (s := s) ‹_› ‹_› (by omega) ‹_› (And.right ‹_›)
    have Hq : Hid _ := hq
    clear hq
    refine (right_text (s.extract 1 (s.size - 1)) _ (by have := mid_size s; unfold mid at this; unfold maxLen; omega)).mono ?_
    rintro e w2 ⟨rfl, rfl⟩
    go_wp2
    go_ret2
    exact ⟨.inr ⟨Hq.out, rfl⟩, hb1⟩
  · have hq := q_first (s := s) ‹_› ‹_›
    go_ret2
    exact ⟨.inl ⟨hq, rfl⟩, hb1⟩
  · have hq := q_short (s := s) ‹_›
    go_ret2
    exact ⟨.inl ⟨hq, rfl⟩, hb1⟩

theorem rmeth_num (n : Int) (w : World) : (method 213 54 (.int .i64 n) "loop.example/g00098/impl.msg").run Tryd.prog w = .ok (72, .int .i64 n) w := by kernel_rfl
theorem rmeth_text (s : ByteArray) (w : World) : (method 213 55 (.string s) "loop.example/g00098/impl.msg").run Tryd.prog w = .ok (74, .string s) w := by kernel_rfl

theorem read_num_walk (s : ByteArray) (n : Int) (w : World) (hL : Laid w) (hs : s.size ≤ 1048576) (hn : numL s.data.toList = some n) :
    Calls Tryd.prog 7 #[.string s] w fun e w' => e = .returned (msgV (readM s)) ∧ Below w.heap.size w w' := by
  have Hr : Hid _ := read_num hn
  have Hn : Hid _ := hn
  clear hn
  have mm := rmeth_num n
  have hL0 := hL.keep (bl_alloc (Below.refl _ _) (.cells #[.int .i64 0, .int .i64 0, .string ⟨#[]⟩] 25))
  go_enter Tryd.func7, Tryd.ntmps7
  go_wp2_with fail
  refine (readBody_num s n _ hL0 hs Hn.out).mono ?_
  rintro e w1 ⟨rfl, hb1⟩
  obtain ⟨l1, p0, p1, p2, fr⟩ := (Box3.new w (.int .i64 0) (.int .i64 0) (.string ⟨#[]⟩) 25).keep hb1
  have hb := bl_trans (bl_alloc (Below.refl _ _) _) hb1
  clear hb1 hL0 hL
  go_wp2_with (go_at_call 72; refine (msg_num _ _).mono ?_; rintro e w' ⟨rfl, rfl⟩)
  refine bodyPost_ret (v := .tuple #[.agg #[.int .i64 1, .int .i64 n, .string ⟨#[]⟩], .bool true]) (by simp [results, Tryd.results7, go_sem, p0, p1, p2, l1]) rfl ⟨by rw [Hr.out]; rfl, ?_⟩
  exact bl_alloc (bl_set3 hb _ (Nat.le_refl _) _ _ _) _

theorem read_text_walk (s : ByteArray) (w : World) (hL : Laid w) (hs : s.size ≤ 1048576) (hn : numL s.data.toList = none) :
    Calls Tryd.prog 7 #[.string s] w fun e w' => e = .returned (msgV (readM s)) ∧ Below w.heap.size w w' := by
  have Hn : Hid _ := hn
  clear hn
  have mm := rmeth_text (mid s)
  have hL0 := hL.keep (bl_alloc (Below.refl _ _) (.cells #[.int .i64 0, .int .i64 0, .string ⟨#[]⟩] 25))
  go_enter Tryd.func7, Tryd.ntmps7
  go_wp2_with fail
  refine (readBody_text s _ hL0 hs Hn.out).mono ?_
  rintro e w1 ⟨⟨hq, rfl⟩ | ⟨hq, rfl⟩, hb1⟩
  · have Hr : Hid _ := read_no Hn.out hq
    obtain ⟨l1, p0, p1, p2, fr⟩ := (Box3.new w (.int .i64 0) (.int .i64 0) (.string ⟨#[]⟩) 25).keep hb1
    have hb := bl_trans (bl_alloc (Below.refl _ _) _) hb1
    clear hb1 hL0 hL hq
    go_wp2
    refine bodyPost_ret (v := .tuple #[.agg #[.int .i64 0, .int .i64 0, .string ⟨#[]⟩], .bool false]) (by simp [results, Tryd.results7, go_sem, p0, p1, p2]) rfl ⟨by rw [Hr.out]; rfl, ?_⟩
    exact bl_set3 hb _ (Nat.le_refl _) _ _ _
  · obtain ⟨l1, p0, p1, p2, fr⟩ := (Box3.new w (.int .i64 0) (.int .i64 0) (.string ⟨#[]⟩) 25).keep hb1
    have hb := bl_trans (bl_alloc (Below.refl _ _) _) hb1
    clear hb1 hL0 hL
    cases hp : plainB (mid s)
    · have Hr : Hid _ := read_bad Hn.out hp
      go_wp2
      refine bodyPost_ret (v := .tuple #[.agg #[.int .i64 0, .int .i64 0, .string ⟨#[]⟩], .bool false]) (by simp [results, Tryd.results7, go_sem, p0, p1, p2]) rfl ⟨by rw [Hr.out]; rfl, ?_⟩
      exact bl_set3 hb _ (Nat.le_refl _) _ _ _
    · have Hr : Hid _ := read_text Hn.out hq hp
      go_wp2_with (go_at_call 74; refine (msg_text _ _).mono ?_; rintro e w' ⟨rfl, rfl⟩)
      refine bodyPost_ret (v := .tuple #[.agg #[.int .i64 2, .int .i64 0, .string (mid s)], .bool true]) (by simp [results, Tryd.results7, go_sem, p0, p1, p2, l1]) rfl ⟨by rw [Hr.out]; rfl, ?_⟩
      exact bl_alloc (bl_set3 hb _ (Nat.le_refl _) _ _ _) _

/-- The program's own ReadMsg. -/
theorem implRead_any (s : ByteArray) (w : World) (hL : Laid w) (hs : s.size ≤ 1048576) :
    Calls Tryd.prog 7 #[.string s] w fun e w' => e = .returned (msgV (readM s)) ∧ Below w.heap.size w w' := by
  cases hn : numL s.data.toList with
  | some n => exact read_num_walk s n w hL hs hn
  | none => exact read_text_walk s w hL hs hn
end Go.Proofs.YtpfnbnlipfobiafDoor
