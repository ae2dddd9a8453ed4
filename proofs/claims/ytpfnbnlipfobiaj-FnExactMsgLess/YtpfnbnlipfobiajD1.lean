/-
  The walk of the law on MsgLess: at every two messages it answers true, and nothing that lay in memory turns.
-/
import Derived.Test.YtpfnbnlipfobiajC2
import Derived.Deep.RegionHeld3
namespace Go.Proofs.Ytpfnbnlipfobiaj
open Go.RowKit Pl

/-- The two arguments as they lie in two new variables, the first in block B. -/
abbrev Two (B : Nat) (k n : Int) (s : ByteArray) (k' n' : Int) (s' : ByteArray) (w : World) : Prop :=
  B + 1 < w.heap.size ∧ w.cell? ⟨B, 0, none⟩ = some (.int .i64 k) ∧ w.cell? ⟨B, 1, none⟩ = some (.int .i64 n) ∧ w.cell? ⟨B, 2, none⟩ = some (.string s) ∧
  w.cell? ⟨B + 1, 0, none⟩ = some (.int .i64 k') ∧ w.cell? ⟨B + 1, 1, none⟩ = some (.int .i64 n') ∧ w.cell? ⟨B + 1, 2, none⟩ = some (.string s')
theorem Two.keep {B : Nat} {k n : Int} {s : ByteArray} {k' n' : Int} {s' : ByteArray} {w w' : World} (h : Two B k n s k' n' s' w) (hb : Below w.heap.size w w') : Two B k n s k' n' s' w' := by
  obtain ⟨hB, h0, h1, h2, h3, h4, h5⟩ := h
  have hz := hb.size
  refine ⟨by omega, ?_, ?_, ?_, ?_, ?_, ?_⟩
  · rw [hb.cell (p := ⟨B, 0, none⟩) (by show B < _; omega)]; exact h0
  · rw [hb.cell (p := ⟨B, 1, none⟩) (by show B < _; omega)]; exact h1
  · rw [hb.cell (p := ⟨B, 2, none⟩) (by show B < _; omega)]; exact h2
  · rw [hb.cell (p := ⟨B + 1, 0, none⟩) (by show B + 1 < _; omega)]; exact h3
  · rw [hb.cell (p := ⟨B + 1, 1, none⟩) (by show B + 1 < _; omega)]; exact h4
  · rw [hb.cell (p := ⟨B + 1, 2, none⟩) (by show B + 1 < _; omega)]; exact h5

/-- Besides: all that lay ahead of the call in w0 is as it was. -/
abbrev Two' (w0 : World) (B : Nat) (k n : Int) (s : ByteArray) (k' n' : Int) (s' : ByteArray) (w : World) : Prop := Two B k n s k' n' s' w ∧ Below w0.heap.size w0 w
theorem Two'.keep {w0 : World} {B : Nat} {k n : Int} {s : ByteArray} {k' n' : Int} {s' : ByteArray} {w w' : World} (h : Two' w0 B k n s k' n' s' w) (hb : Below w.heap.size w w') : Two' w0 B k n s k' n' s' w' :=
  ⟨h.1.keep hb, bl_trans h.2 hb⟩
theorem Two'.drew {w0 : World} {B : Nat} {k n : Int} {s : ByteArray} {k' n' : Int} {s' : ByteArray} {w : World} (h : Two' w0 B k n s k' n' s' w) : Two' w0 B k n s k' n' s' w.drew := ⟨h.1, h.2.drew⟩

theorem exactMsgLess_any (k n : Int) (s : ByteArray) (k' n' : Int) (s' : ByteArray) (w : World) (hm : s.size ≤ maxLen) (hm' : s'.size ≤ maxLen) :
    Calls Try.prog 4 #[.agg #[.int .i64 k, .int .i64 n, .string s], .agg #[.int .i64 k', .int .i64 n', .string s']] w fun e w' => e = .returned (.bool true) ∧ Below w.heap.size w w' := by
  go_enter Try.func4, Try.ntmps4
  go_wp2_with fail
  refine (szMsg_any k n _ s _ hm (by omega) (by omega)).mono ?_
  rintro e w1 ⟨⟨hl, rfl⟩ | ⟨hl, rfl⟩, hb1⟩
  · have hb := bl_trans (bl_alloc (bl_alloc (Below.refl _ _) _) _) hb1
    go_wp2
    go_ret
    exact ⟨rfl, hb⟩
  · have hb := bl_trans (bl_alloc (bl_alloc (Below.refl _ _) _) _) hb1
    obtain ⟨hc1, hf1⟩ := bcell hb1
    go_wp2_with fail
    refine (szMsg_any k' n' _ s' _ hm' (by omega) (by omega)).mono ?_
    rintro e w2 ⟨⟨hl', rfl⟩ | ⟨hl', rfl⟩, hb2⟩
    · have hb' := bl_trans hb hb2
      clear hb2 hb hb1 hc1 hf1
      go_wp2
      go_ret
      exact ⟨rfl, hb'⟩
    · have hb' := bl_trans hb hb2
      have hT : Two w.heap.size k n s k' n' s' w2 := by
        refine Two.keep (w := (w.alloc (.cells #[.int .i64 k, .int .i64 n, .string s] 23)).alloc (.cells #[.int .i64 k', .int .i64 n', .string s'] 23)) ?_ (bl_trans hb1 hb2)
        simp [Two, go_sem]
      have hT' : Two' w w.heap.size k n s k' n' s' w2 := ⟨hT, hb'⟩
      clear hb2 hb hb1 hc1 hf1 hT hb'
      go_wp2_with fail
      go_region_held3 (fun w' => Two' w w.heap.size k n s k' n' s' w') (first | (exact hT'.drew) | (exact Two'.keep (by assumption) (by assumption)))
        (first
          | (go_at_call_of 7 (Value.string s); refine (toMsg_any k n s _).mono ?_; rintro e w' ⟨rfl, hbb⟩)
          | (go_at_call_of 7 (Value.string s'); refine (toMsg_any k' n' s' _).mono ?_; rintro e w' ⟨rfl, hbb⟩)
          | (go_at_call 9; refine (specLess_any k n s k' n' s' _ hm hm').mono ?_; rintro e w' ⟨rfl, hbb⟩))
      rename_i w3 hT3
      clear hT'
      go_wp2_with fail
      go_region_held3 (fun w' => Two' w w.heap.size k n s k' n' s' w') (first | (exact hT3.drew) | (exact Two'.keep (by assumption) (by assumption)))
        (first
          | (go_at_call_of 7 (Value.string s); refine (toMsg_any k n s _).mono ?_; rintro e w' ⟨rfl, hbb⟩)
          | (go_at_call_of 7 (Value.string s'); refine (toMsg_any k' n' s' _).mono ?_; rintro e w' ⟨rfl, hbb⟩)
          | (go_at_call 10; refine (implLess_any k n s k' n' s' _ hm hm').mono ?_; rintro e w' ⟨rfl, hbb⟩))
      rename_i w4 hT4
      clear hT3
      go_wp2
      go_ret
      exact ⟨rfl, hT4.2⟩
end Go.Proofs.Ytpfnbnlipfobiaj
