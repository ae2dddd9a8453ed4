/-
  Walks of the specification's draws: any message, and two messages.
-/
import Derived.Test.YtedaleonmcllkaaE2
namespace Go.Proofs.Ytedaleonmcllkaa
open Go.RowKit Pl Dr

theorem anyMsg_any (a : Option Addr) (len cap : Nat) (c : Nat) (w : World) (hC : Cur c a len cap w) :
    Calls Try.prog 32 #[.pointer (some ⟨c, 0, none⟩)] w fun e w' => ∃ (k n : Int) (s : ByteArray), e = .returned (.agg #[.int .i64 k, .int .i64 n, .string s]) ∧ s.size ≤ 41 ∧ Drawn c a len cap w w' := by
  have hlt := hC.lt
  have hne : w.heap.size ≠ c := by omega
  go_enter Try.func32, Try.ntmps32
  go_wp2_with fail
  refine (msg_any a len cap c _ (hC.alloc _)).mono ?_
  rintro e w1 ⟨k, n, s, rfl, hs, hd1⟩
  have b1 := (Box3.new w (.int .i64 0) (.int .i64 0) (.string ⟨#[]⟩) 26).drawn hd1 hne
  have hD1 : Drawn c a len cap w w1 := ((Drawn.start hC).alloc _).trans hd1
  have hN := b1.lt
  have hn1 : ¬ w.heap.size = w1.heap.size := by omega
  have hn2 : ¬ w1.heap.size = w.heap.size := by omega
  have hne1 : w1.heap.size ≠ c := by omega
  clear hd1
  go_wp2_with fail
  refine (once_any a len cap c _ _ (hD1.cur.alloc _) (by omega) (by omega)).mono ?_
  rintro e w2 ⟨x, rfl, hd2⟩
  have m2 := (Box3.new w1 (.int .i64 k) (.int .i64 n) (.string s) 26).drawn hd2 hne1
  have b2 := (b1.alloc _).drawn hd2 hne
  have hD2 := (hD1.alloc _).trans hd2
  clear hd2 hD1 b1
  cases x
  · obtain ⟨l2, p0, p1, p2, fr⟩ := b2
    obtain ⟨l2', m0, m1, m2, fr'⟩ := m2
    go_wp2
    refine bodyPost_ret (v := .agg #[.int .i64 k, .int .i64 n, .string s]) (by simp [results, Try.results32, go_sem, p0, p1, p2]) rfl ⟨_, _, _, rfl, by omega, ?_⟩
    repeat (first | exact hD2 | refine Drawn.store ?_ hC _ (by simp; try omega) _)
  · go_wp2_with fail
    refine (below_any a len cap c _ _ hD2.cur (by omega) (by omega)).mono ?_
    rintro e w3 ⟨x, rfl, x0, x1, hd3⟩
    have m3 := m2.drawn hd3 hne1
    have b3 := b2.drawn hd3 hne
    have hD3 := hD2.trans hd3
    clear hd3 hD2 b2 m2
    obtain rfl | rfl | rfl | rfl | rfl : x = 0 ∨ x = 1 ∨ x = 2 ∨ x = 3 ∨ x = 4 := by omega
    · go_wp2_with fail
      refine (below_any a len cap c _ _ hD3.cur (by omega) (by omega)).mono ?_
      rintro e w4 ⟨y, rfl, y0, y1, hd4⟩
      obtain ⟨l2', m0, m1, m2, fr'⟩ := m3.drawn hd4 hne1
      obtain ⟨l2, p0, p1, p2, fr⟩ := b3.drawn hd4 hne
      have hD4 := hD3.trans hd4
      clear hd4 hD3 b3 m3
      go_wp2
      refine bodyPost_ret (v := .agg #[.int .i64 (y - 1), .int .i64 n, .string s]) (by simp [results, Try.results32, go_sem, p0, p1, p2]) rfl ⟨_, _, _, rfl, by omega, ?_⟩
      repeat (first | exact hD4 | refine Drawn.store ?_ hC _ (by simp; try omega) _)
    · go_wp2_with fail
      refine (pickInt_any a len cap c w3.heap.size 3 _ (hD3.cur.alloc _) (by simp) (by have := hD3.cur.lt; omega) (by omega) (by omega) (row_ints _ _ _ _ (by decide))).mono ?_
      rintro e w4 ⟨y, rfl, hd4⟩
      obtain ⟨l2', m0, m1, m2, fr'⟩ := (m3.alloc _).drawn hd4 hne1
      obtain ⟨l2, p0, p1, p2, fr⟩ := (b3.alloc _).drawn hd4 hne
      have hD4 := (hD3.alloc _).trans hd4
      clear hd4 hD3 b3 m3
      go_wp2
      refine bodyPost_ret (v := .agg #[.int .i64 k, .int .i64 y, .string s]) (by simp [results, Try.results32, go_sem, p0, p1, p2]) rfl ⟨_, _, _, rfl, by omega, ?_⟩
      repeat (first | exact hD4 | refine Drawn.store ?_ hC _ (by simp; try omega) _)
    · obtain ⟨l2', m0, m1, m2, fr'⟩ := m3
      obtain ⟨l2, p0, p1, p2, fr⟩ := b3
      go_wp2
      refine bodyPost_ret (v := .agg #[.int .i64 k, .int .i64 n, .string (s ++ ⟨#[34]⟩)]) (by simp [results, Try.results32, go_sem, p0, p1, p2]) rfl ⟨_, _, _, rfl, by rw [ByteArray.size_append]; have z : ∀ b : UInt8, (ByteArray.mk #[b]).size = 1 := fun _ => rfl; rw [z]; omega, ?_⟩
      repeat (first | exact hD3 | refine Drawn.store ?_ hC _ (by simp; try omega) _)
    · obtain ⟨l2', m0, m1, m2, fr'⟩ := m3
      obtain ⟨l2, p0, p1, p2, fr⟩ := b3
      go_wp2
      refine bodyPost_ret (v := .agg #[.int .i64 k, .int .i64 n, .string (s ++ ⟨#[10]⟩)]) (by simp [results, Try.results32, go_sem, p0, p1, p2]) rfl ⟨_, _, _, rfl, by rw [ByteArray.size_append]; have z : ∀ b : UInt8, (ByteArray.mk #[b]).size = 1 := fun _ => rfl; rw [z]; omega, ?_⟩
      repeat (first | exact hD3 | refine Drawn.store ?_ hC _ (by simp; try omega) _)
    · obtain ⟨l2', m0, m1, m2, fr'⟩ := m3
      obtain ⟨l2, p0, p1, p2, fr⟩ := b3
      go_wp2
      refine bodyPost_ret (v := .agg #[.int .i64 k, .int .i64 n, .string ⟨#[48, 49, 50, 51, 52, 53, 54, 55, 56, 57, 48, 49, 50, 51, 52, 53, 54, 55, 56, 57, 48, 49, 50, 51, 52, 53, 54, 55, 56, 57, 48, 49, 50, 51, 52, 53, 54, 55, 56, 57, 48]⟩]) (by simp [results, Try.results32, go_sem, p0, p1, p2]) rfl ⟨_, _, _, rfl, by decide, ?_⟩
      repeat (first | exact hD3 | refine Drawn.store ?_ hC _ (by simp; try omega) _)
end Go.Proofs.Ytedaleonmcllkaa
