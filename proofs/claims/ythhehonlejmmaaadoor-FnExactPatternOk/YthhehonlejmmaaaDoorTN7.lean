/-
  The laws on NameOk and PatternOk.
-/
import Derived.Test.YthhehonlejmmaaaDoorTN6
namespace Go.Proofs.YthhehonlejmmaaaDoor
open Go.RowKit Pl Il Tn Go.Shelf

def LawT (f : FuncId) : Prop := ∀ (s : ByteArray) (w : World), s.size ≤ maxLen → GOkT w → Calls Tryd.prog f #[.string s] w fun e w' => e = .returned (.bool true) ∧ Below w.heap.size w w'
set_option maxHeartbeats 1000000 in
theorem exactNameOk_any : LawT 4 := by
  intro s w hs hg
  have hs' := hs
  unfold maxLen at hs'
  by_cases hbig : 1048576 < (s.size : Int)
  · go_enter Tryd.func4, Tryd.ntmps4
    go_wp2_with fail
    go_ret
    exact ⟨rfl, Below.refl _ _⟩
  · have H1 := hidT (specName_any s w hs)
    have H2 := hidT (fun w' (hb : Below w.heap.size w w') => implName_any s w' hs (hg.keep hb))
    obtain ⟨q, hq⟩ : ∃ q, rightN false s = q := ⟨_, rfl⟩
    rw [hq] at H1 H2
    clear hq hs hg
    go_enter Tryd.func4, Tryd.ntmps4
    go_wp2_with fail
    refine H1.out.mono ?_
    rintro e w1 ⟨rfl, hB1⟩
    have H3 := hidT (H2.out w1 hB1)
    go_wp2_with fail
    refine H3.out.mono ?_
    rintro e w2 ⟨rfl, hB2⟩
    have hB := bl_trans hB1 hB2
    cases q
    all_goals
      go_wp2_with fail
      go_ret
      exact ⟨rfl, hB⟩
set_option maxHeartbeats 1000000 in
theorem exactPatternOk_any : LawT 5 := by
  intro s w hs hg
  have hs' := hs
  unfold maxLen at hs'
  by_cases hbig : 1048576 < (s.size : Int)
  · go_enter Tryd.func5, Tryd.ntmps5
    go_wp2_with fail
    go_ret
    exact ⟨rfl, Below.refl _ _⟩
  · have H1 := hidT (specPattern_any s w hs)
    have H2 := hidT (fun w' (hb : Below w.heap.size w w') => implPattern_any s w' hs (hg.keep hb))
    obtain ⟨q, hq⟩ : ∃ q, rightN true s = q := ⟨_, rfl⟩
    rw [hq] at H1 H2
    clear hq hs hg
    go_enter Tryd.func5, Tryd.ntmps5
    go_wp2_with fail
    refine H1.out.mono ?_
    rintro e w1 ⟨rfl, hB1⟩
    have H3 := hidT (H2.out w1 hB1)
    go_wp2_with fail
    refine H3.out.mono ?_
    rintro e w2 ⟨rfl, hB2⟩
    have hB := bl_trans hB1 hB2
    cases q
    all_goals
      go_wp2_with fail
      go_ret
      exact ⟨rfl, hB⟩
end Go.Proofs.YthhehonlejmmaaaDoor
