/-
  Walks: the law's draws: a message, and a text.
-/
import Derived.Test.YtpfnbnlipfobiafDoorE4
import Derived.Test.YtpfnbnlipfobiafDoorT2
namespace Go.Proofs.YtpfnbnlipfobiafDoor
open Go.RowKit Pl Dr

theorem Dr.Bytes.later' {w w' : World} {a : Option Addr} {len cap : Nat} (h : Bytes w.heap.size w a len cap) (hb : Below w.heap.size w w') (c : Nat) (hc : w.heap.size ≤ c) : Bytes c w' a len cap := by
  obtain ⟨hl, hm, h | ⟨b, off, rfl, hb', hn, hcell⟩⟩ := h
  · exact ⟨hl, hm, .inl h⟩
  · refine ⟨hl, hm, .inr ⟨b, off, rfl, Nat.lt_of_lt_of_le hb' hb.size, by omega, fun i hi => ?_⟩⟩
    rw [hb.cell (p := ⟨b, off + i, none⟩) hb']; exact hcell i hi

theorem drawText_any (a : Option Addr) (len cap : Nat) (w : World) (hB : Bytes w.heap.size w a len cap) :
    Calls Tryd.prog 5 #[.slice a len cap] w fun e w' => ∃ (k n : Int) (s : ByteArray), e = .returned (.agg #[.int .i64 k, .int .i64 n, .string s]) ∧ s.size ≤ 41 ∧ Below w.heap.size w w' := by
  have bA : Below w.heap.size w (w.alloc (.cells #[.int .i64 0, .int .i64 0, .string ⟨#[]⟩] 25)) := bl_alloc (Below.refl _ _) _
  go_enter Tryd.func5, Tryd.ntmps5
  go_wp2_with fail
  refine (new_any a len cap _ (hB.later' bA _ (by simp))).mono ?_
  rintro e w1 ⟨rfl, hC, hb1⟩
  have r1 := (Box3.new w (.int .i64 0) (.int .i64 0) (.string ⟨#[]⟩) 25).keep hb1
  have hb : Below w.heap.size w w1 := bl_trans bA hb1
  clear hb1 bA
  simp only [World.size_alloc] at hC
  go_wp2_with fail
  refine (anyMsg_any a len cap _ _ hC).mono ?_
  rintro e w2 ⟨k, n, s, rfl, hs, hd2⟩
  obtain ⟨_, p0, p1, p2, fr⟩ := r1.drawn hd2 (by omega)
  have hB2 : Below w.heap.size w w2 := hb.trans (hd2.ex.below (by omega) (hb.size))
  clear r1 hd2 hC hb
  go_wp2
  refine bodyPost_ret (v := .agg #[.int .i64 k, .int .i64 n, .string s]) (by simp [results, Tryd.results5, go_sem, p0, p1, p2]) rfl ⟨_, _, _, rfl, hs, ?_⟩
  exact bl_set3 hB2 _ (Nat.le_refl _) _ _ _

theorem drawRead_any (a : Option Addr) (len cap : Nat) (w : World) (hB : Bytes w.heap.size w a len cap) :
    Calls Tryd.prog 9 #[.slice a len cap] w fun e w' => ∃ o : ByteArray, e = .returned (.string o) ∧ o.size ≤ 60 ∧ Below w.heap.size w w' := by
  go_enter Tryd.func9, Tryd.ntmps9
  go_wp2_with fail
  refine (new_any a len cap _ hB).mono ?_
  rintro e w1 ⟨rfl, hC, hb1⟩
  go_wp2_with fail
  refine (anyMsg_any a len cap _ _ hC).mono ?_
  rintro e w2 ⟨k, n, s, rfl, hs, hd2⟩
  have hB2 : Below w.heap.size w w2 := hb1.trans (hd2.ex.below (by omega) (hb1.size))
  have hC2 := hd2.cur
  clear hd2 hC hb1
  go_wp2_with fail
  refine (specText_some k n s _ hs).mono ?_
  rintro e w3 ⟨o, rfl, ho, hb3⟩
  have hB3 := bl_trans hB2 hb3
  have hC3 := hC2.keep hb3
  clear hC2 hb3 hB2
  go_wp2_with fail
  refine (once_any a len cap _ _ _ hC3 (by omega) (by omega)).mono ?_
  rintro e w4 ⟨x, rfl, hd4⟩
  have hB4 : Below w.heap.size w w4 := hB3.trans (hd4.ex.below (by omega) (hB3.size))
  have hC4 := hd4.cur
  clear hd4 hC3 hB3
  cases x
  · go_wp2
    go_ret
    exact ⟨_, rfl, ho, hB4⟩
  · go_wp2_with fail
    refine (pick_any a len cap _ w4.heap.size 13 _ (hC4.alloc _) (by simp) (by have := hC4.lt; omega) (by omega) (by omega) (row_strs _ _ _ _ (by decide))).mono ?_
    rintro e w5 ⟨o', rfl, ho', hd5⟩
    have hB5 : Below w.heap.size w w5 := (bl_alloc hB4 _).trans (hd5.ex.below (by omega) (bl_alloc hB4 _).size)
    clear hd5 hC4 hB4
    go_wp2
    go_ret
    exact ⟨_, rfl, by omega, hB5⟩
end Go.Proofs.YtpfnbnlipfobiafDoor
