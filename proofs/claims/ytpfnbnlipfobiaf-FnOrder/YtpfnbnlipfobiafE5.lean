/-
  Walks of the specification's draws: two messages.
-/
import Derived.Test.YtpfnbnlipfobiafE4
namespace Go.Proofs.Ytpfnbnlipfobiaf
open Go.RowKit Pl Dr

theorem Dr.Bytes.later {w w' : World} {a : Option Addr} {len cap : Nat} (h : Bytes w.heap.size w a len cap) (hb : Below w.heap.size w w') (c : Nat) (hc : w.heap.size ≤ c) : Bytes c w' a len cap := by
  obtain ⟨hl, hm, h | ⟨b, off, rfl, hb', hn, hcell⟩⟩ := h
  · exact ⟨hl, hm, .inl h⟩
  · refine ⟨hl, hm, .inr ⟨b, off, rfl, Nat.lt_of_lt_of_le hb' hb.size, by omega, fun i hi => ?_⟩⟩
    rw [hb.cell (p := ⟨b, off + i, none⟩) hb']; exact hcell i hi

theorem bl_set3 {w u : World} (h : Below w.heap.size w u) (N : Nat) (hN : w.heap.size ≤ N) (x y z : Value) :
    Below w.heap.size w (((u.setCell ⟨N, 0, none⟩ x).setCell ⟨N, 1, none⟩ y).setCell ⟨N, 2, none⟩ z) :=
  ((h.setCell (p := ⟨N, 0, none⟩) hN x).setCell (p := ⟨N, 1, none⟩) hN y).setCell (p := ⟨N, 2, none⟩) hN z

set_option maxHeartbeats 400000 in
theorem drawLess_any (a : Option Addr) (len cap : Nat) (w : World) (hB : Bytes w.heap.size w a len cap) :
    Calls Try.prog 5 #[.slice a len cap] w fun e w' => ∃ (k n : Int) (s : ByteArray) (k' n' : Int) (s' : ByteArray),
      e = .returned (.tuple #[.agg #[.int .i64 k, .int .i64 n, .string s], .agg #[.int .i64 k', .int .i64 n', .string s']]) ∧ s.size ≤ 41 ∧ s'.size ≤ 41 ∧ Below w.heap.size w w' := by
  have bA : Below w.heap.size w ((w.alloc (.cells #[.int .i64 0, .int .i64 0, .string ⟨#[]⟩] 25)).alloc (.cells #[.int .i64 0, .int .i64 0, .string ⟨#[]⟩] 25)) := bl_alloc (bl_alloc (Below.refl _ _) _) _
  go_enter Try.func5, Try.ntmps5
  go_wp2_with fail
  refine (new_any a len cap _ (hB.later bA _ (by simp; omega))).mono ?_
  rintro e w1 ⟨rfl, hC, hb1⟩
  have r1 := ((Box3.new w (.int .i64 0) (.int .i64 0) (.string ⟨#[]⟩) 25).alloc (.cells #[.int .i64 0, .int .i64 0, .string ⟨#[]⟩] 25)).keep hb1
  have r2 := (Box3.new (w.alloc (.cells #[.int .i64 0, .int .i64 0, .string ⟨#[]⟩] 25)) (.int .i64 0) (.int .i64 0) (.string ⟨#[]⟩) 25).keep hb1
  have hb : Below w.heap.size w w1 := bl_trans bA hb1
  clear hb1 bA
  simp only [World.size_alloc] at hC r1 r2
  have hn12 : ¬ w.heap.size = w.heap.size + 1 := by omega
  go_wp2_with fail
  refine (anyMsg_any a len cap _ _ hC).mono ?_
  rintro e w2 ⟨k, n, s, rfl, hs, hd2⟩
  have r1' := r1.drawn hd2 (by omega)
  have r2' := r2.drawn hd2 (by omega)
  have hB2 : Below w.heap.size w w2 := hb.trans (hd2.ex.below (by omega) (hb.size))
  have hC2 := hd2.cur
  clear r1 r2 hd2 hC hb
  go_wp2_with fail
  refine (once_any a len cap _ _ _ (hC2.alloc _) (by omega) (by omega)).mono ?_
  rintro e w3 ⟨x, rfl, hd3⟩
  have hlt := hC2.lt
  have m3 := (Box3.new w2 (.int .i64 k) (.int .i64 n) (.string s) 25).drawn hd3 (by omega)
  have r1 := (r1'.alloc _).drawn hd3 (by omega)
  have r2 := (r2'.alloc _).drawn hd3 (by omega)
  have hB3 : Below w.heap.size w w3 := (bl_alloc hB2 _).trans (hd3.ex.below (by omega) (bl_alloc hB2 _).size)
  have hC3 := hd3.cur
  have hz := hB2.size
  have hna : ¬ w2.heap.size = w.heap.size := by have := r1'.lt; omega
  have hnb : ¬ w2.heap.size = w.heap.size + 1 := by have := r2'.lt; omega
  have hna' : ¬ w.heap.size = w2.heap.size := by omega
  have hnb' : ¬ w.heap.size + 1 = w2.heap.size := by omega
  clear r1' r2' hd3 hC2 hB2
  cases x
  · have r1c := r1
    have r2c := r2
    have m3c := m3
    obtain ⟨_, p0, p1, p2, fr⟩ := r1
    obtain ⟨_, u0, u1, u2, fu⟩ := r2
    obtain ⟨_, m0, m1, m2, fm⟩ := m3
    go_wp2_with fail
    first
      | (go_region_with (go_at_call 10; refine (anyMsg_any a len cap _ _ hC3.drew).mono ?_; rintro e w4 ⟨k', n', s', rfl, hs', hd4⟩; obtain ⟨_, p0', p1', p2', fr'⟩ := (r1c.keep (Below.refl _ _).drew).drawn hd4 (by omega); obtain ⟨_, u0', u1', u2', fu'⟩ := (r2c.keep (Below.refl _ _).drew).drawn hd4 (by omega); obtain ⟨_, m0', m1', m2', fm'⟩ := (m3c.keep (Below.refl _ _).drew).drawn hd4 (by omega); have hB4 : Below w.heap.size w w4 := (Below.drew hB3).trans (hd4.ex.below (by omega) (Below.drew hB3).size); clear hd4))
      | fail
    all_goals go_wp2
    all_goals refine bodyPost_ret (v := .tuple #[.agg #[.int .i64 k, .int .i64 n, .string s], .agg #[.int .i64 k', .int .i64 n', .string s']]) (by simp [results, Try.results5, go_sem, p0', p1', p2', u0', u1', u2']) rfl ⟨_, _, _, _, _, _, rfl, hs, hs', ?_⟩
    all_goals exact bl_set3 (bl_set3 hB4 _ (Nat.le_refl _) _ _ _) _ (by omega) _ _ _
  · obtain ⟨_, p0, p1, p2, fr⟩ := r1
    obtain ⟨_, u0, u1, u2, fu⟩ := r2
    obtain ⟨_, m0, m1, m2, fm⟩ := m3
    go_wp2_with fail
    go_region_held3 (fun w' => w'.cell? ⟨w2.heap.size, 0, none⟩ = some (.int .i64 k) ∧ w'.cell? ⟨w2.heap.size, 1, none⟩ = some (.int .i64 n) ∧ w'.cell? ⟨w2.heap.size, 2, none⟩ = some (.string s)) (go_keep) (fail)
    go_wp2
    refine bodyPost_ret (v := .tuple #[.agg #[.int .i64 k, .int .i64 n, .string s], .agg #[.int .i64 k, .int .i64 n, .string s]]) (by simp [results, Try.results5, go_sem, p0, p1, p2, u0, u1, u2]) rfl ⟨_, _, _, _, _, _, rfl, hs, hs, ?_⟩
    exact (bl_set3 (bl_set3 hB3 _ (Nat.le_refl _) _ _ _) _ (by omega) _ _ _).drew
end Go.Proofs.Ytpfnbnlipfobiaf
