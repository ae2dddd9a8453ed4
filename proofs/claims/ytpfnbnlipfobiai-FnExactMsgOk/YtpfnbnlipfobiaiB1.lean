/-
  The walk of the law on MsgOk: at every message it answers true, and nothing that lay in memory turns.
-/
import Derived.Test.YtpfnbnlipfobiaiA4
namespace Go.Proofs.Ytpfnbnlipfobiai
open Go.RowKit Pl

theorem exactMsgOk_any (k n : Int) (s : ByteArray) (w : World) (hm : s.size ≤ maxLen) :
    Calls Try.prog 3 #[.agg #[.int .i64 k, .int .i64 n, .string s]] w fun e w' => e = .returned (.bool true) ∧ Below w.heap.size w w' := by
  go_enter Try.func3, Try.ntmps3
  go_wp2_with fail
  refine (szMsg_any k n _ s _ hm (by omega) (by omega)).mono ?_
  rintro e w1 ⟨⟨hl, rfl⟩ | ⟨hl, rfl⟩, hb1⟩
  · have hb := bl_trans (bl_alloc (Below.refl _ _) _) hb1
    go_wp2
    go_ret
    exact ⟨rfl, hb⟩
  · have hb := bl_trans (bl_alloc (Below.refl _ _) _) hb1
    obtain ⟨hc1, hf1⟩ := bcell hb1
    go_wp2_with fail
    refine (toMsg_any k n s _).mono ?_
    rintro e w2 ⟨rfl, hb2⟩
    go_wp2_with fail
    refine (specMsgOk_any k n s _ hm).mono ?_
    rintro e w3 ⟨rfl, hb3⟩
    have hb23 := bl_trans hb2 hb3
    have hb13 := bl_trans hb1 hb23
    have hb3' := bl_trans hb hb23
    clear hb2 hb3 hc1 hf1 hb hb1 hb23
    obtain ⟨hc1, hf1⟩ := bcell hb13
    go_wp2_with fail
    refine (toMsg_any k n s _).mono ?_
    rintro e w4 ⟨rfl, hb4⟩
    go_wp2_with fail
    refine (implMsgOk_any k n s _ hm).mono ?_
    rintro e w5 ⟨rfl, hb5⟩
    have hbf := bl_trans hb3' (bl_trans hb4 hb5)
    clear hb4 hb5 hb3' hc1 hf1 hb13
    go_wp2
    go_ret
    exact ⟨rfl, hbf⟩
end Go.Proofs.Ytpfnbnlipfobiai
