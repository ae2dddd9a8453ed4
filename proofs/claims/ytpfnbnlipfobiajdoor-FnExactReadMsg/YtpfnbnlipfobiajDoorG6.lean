/-
  The walk of the law on ReadMsg: at every text it answers true, and nothing that lay in memory turns.
-/
import Derived.Test.YtpfnbnlipfobiajDoorG5
namespace Go.Proofs.YtpfnbnlipfobiajDoor
open Go.RowKit Pl Nu

theorem eqMsg_same (k n : Int) (s : ByteArray) (w : World) :
    Calls Tryd.prog 6 #[.agg #[.int .i64 k, .int .i64 n, .string s], .agg #[.int .i64 k, .int .i64 n, .string s]] w fun e w' => e = .returned (.bool true) ∧ Below w.heap.size w w' := by
  go_enter Tryd.func6, Tryd.ntmps6
  go_wp2
  go_ret
  exact ⟨rfl, bl_alloc (bl_alloc (Below.refl _ _) _) _⟩

theorem msgV_form (o : Option (Int × Int × ByteArray)) : ∃ (k n : Int) (t : ByteArray) (b : Bool), msgV o = .tuple #[.agg #[.int .i64 k, .int .i64 n, .string t], .bool b] := by
  rcases o with _ | ⟨k, n, t⟩
  · exact ⟨_, _, _, _, rfl⟩
  · exact ⟨_, _, _, _, rfl⟩

theorem exactRead_big (s : ByteArray) (w : World) (hm : s.size ≤ maxLen) (hs : 1048576 < s.size) :
    Calls Tryd.prog 3 #[.string s] w fun e w' => e = .returned (.bool true) ∧ Below w.heap.size w w' := by
  unfold maxLen at hm
  have h : 1048576 < (s.size : Int) := by omega
  go_enter Tryd.func3, Tryd.ntmps3
  go_wp2
  go_ret
  exact ⟨rfl, Below.refl _ _⟩

theorem exactRead_small (s : ByteArray) (w : World) (hL : Laid w) (hs : s.size ≤ 1048576) :
    Calls Tryd.prog 3 #[.string s] w fun e w' => e = .returned (.bool true) ∧ Below w.heap.size w w' := by
  have h : ¬ 1048576 < (s.size : Int) := by omega
  obtain ⟨k, n, t, b, hv⟩ := msgV_form (readM s)
  have Hv : Hid _ := hv
  clear hv
  go_enter Tryd.func3, Tryd.ntmps3
  go_wp2_with fail
  refine (specRead_any s _ hs).mono ?_
  rintro e w1 ⟨rfl, hb1⟩
  rw [Hv.out]
  have hL1 := (hL.keep hb1).keep (bl_alloc (Below.refl _ _) (.cells #[.int .i64 k, .int .i64 n, .string t] 23))
  go_wp2_with fail
  refine (implRead_any s _ hL1 hs).mono ?_
  rintro e w2 ⟨rfl, hb2⟩
  rw [Hv.out]
  obtain ⟨l1, p0, p1, p2, fr⟩ := (Box3.new w1 (.int .i64 k) (.int .i64 n) (.string t) 23).keep hb2
  have hb := bl_trans (bl_alloc hb1 _) hb2
  clear hb1 hb2 hL1 hL
  go_wp2_with fail
  refine (eqMsg_same k n t _).mono ?_
  rintro e w3 ⟨rfl, hb3⟩
  have hb' := bl_trans (bl_alloc hb _) hb3
  clear hb3 hb
  go_wp2
  go_ret
  exact ⟨rfl, hb'⟩
end Go.Proofs.YtpfnbnlipfobiajDoor
