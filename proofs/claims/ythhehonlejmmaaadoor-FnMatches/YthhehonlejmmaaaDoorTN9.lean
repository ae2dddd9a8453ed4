/-
  What matches: the program's Matches, and the law on it.
-/
import Derived.Test.YthhehonlejmmaaaDoorTM2
namespace Go.Proofs.YthhehonlejmmaaaDoor
open Go.RowKit Pl Il Tn Go.Shelf

set_option maxHeartbeats 4000000 in
theorem implMatches_any (name pat : ByteArray) (w : World) (hs : name.size ≤ maxLen) (hs' : pat.size ≤ maxLen) (hg : GOkT w) : Calls Tryd.prog 9 #[.string name, .string pat] w (MatchP w name pat) := by
  have HN := hidT (implName_any name w hs hg)
  have HP := hidT (fun u (hu : Below w.heap.size w u) => implPattern_any pat u hs' (hg.keep hu))
  have HM := hidT (fun u (hu : Below w.heap.size w u) (h1 : rightN false name = true) (h2 : rightN true pat = true) => matching_any pat (some ⟨u.heap.size, 0, none⟩) 1 1 [name] (u.alloc (.cells #[.string name] 9)) h2 (strs_new u [name]) (by omega) (fun x hx => by rw [List.mem_singleton] at hx; subst hx; exact right_size h1) (hg.keep (bl_alloc hu _)))
  have HR := hidT (show matchN name pat = (rightN false name && rightN true pat && matchL (partsB pat) (partsB name)) from rfl)
  generalize rightN false name = q1 at HN HR HM
  generalize rightN true pat = q2 at HP HR HM
  clear hs hs' hg
  cases q1
  · go_enter Tryd.func9, Tryd.ntmps9
    go_wp2_with fail
    refine HN.out.mono ?_
    rintro e w1 ⟨rfl, hB⟩
    go_wp2_with fail
    go_ret
    exact ⟨rboolT (by rw [HR.out]; rfl), hB⟩
  cases q2
  · go_enter Tryd.func9, Tryd.ntmps9
    go_wp2_with fail
    refine HN.out.mono ?_
    rintro e w1 ⟨rfl, hB⟩
    have HP1 := hidT (HP.out w1 hB)
    go_wp2_with fail
    refine HP1.out.mono ?_
    rintro e w2 ⟨rfl, hB2⟩
    go_wp2_with fail
    go_ret
    exact ⟨rboolT (by rw [HR.out]; rfl), bl_trans hB hB2⟩
  rw [Bool.true_and, Bool.true_and] at HR
  go_enter Tryd.func9, Tryd.ntmps9
  go_wp2_with fail
  refine HN.out.mono ?_
  rintro e w1 ⟨rfl, hB⟩
  have HP1 := hidT (HP.out w1 hB)
  go_wp2_with fail
  refine HP1.out.mono ?_
  rintro e w2 ⟨rfl, hB2⟩
  have HB2 := hidT (bl_trans hB hB2)
  have HM1 := hidT (HM.out w2 HB2.out (by trivial) (by trivial))
  clear hB hB2 HP1
  go_wp2_with fail
  refine HM1.out.mono ?_
  rintro e w3 ⟨a, c, rfl, hrow, hB3⟩
  have HE := hidT (ix_one (partsB pat) name)
  have HB3 := hidT (bl_trans HB2.out (bl_trans (bl_alloc (Below.refl _ _) _) hB3))
  clear hrow hB3
  generalize (matchIx (partsB pat) 0 [name]).length = l at *
  go_wp2_with fail
  go_ret
  refine ⟨rboolT ?_, HB3.out⟩
  rw [HR.out, ← HE.out, Bool.eq_iff_iff, beq_iff_eq, decide_eq_true_eq]
def LawT2 (f : FuncId) : Prop := ∀ (s s' : ByteArray) (w : World), s.size ≤ maxLen → s'.size ≤ maxLen → GOkT w → Calls Tryd.prog f #[.string s, .string s'] w fun e w' => e = .returned (.bool true) ∧ Below w.heap.size w w'
set_option maxHeartbeats 1000000 in
theorem exactMatches_any : LawT2 6 := by
  intro s s' w hs hs' hg
  have hz := hs
  have hz' := hs'
  unfold maxLen at hz hz'
  by_cases hbig : 1048576 < (s.size : Int)
  · go_enter Tryd.func6, Tryd.ntmps6
    go_wp2_with fail
    go_ret
    exact ⟨rfl, Below.refl _ _⟩
  by_cases hbig' : 1048576 < (s'.size : Int)
  · go_enter Tryd.func6, Tryd.ntmps6
    go_wp2_with fail
    go_ret
    exact ⟨rfl, Below.refl _ _⟩
  have H1 := hidT (specMatches_any s s' w hs hs')
  have H2 := hidT (fun w' (hb : Below w.heap.size w w') => implMatches_any s s' w' hs hs' (hg.keep hb))
  unfold MatchP at H1 H2
  obtain ⟨q, hq⟩ : ∃ q, matchN s s' = q := ⟨_, rfl⟩
  rw [hq] at H1 H2
  clear hq hs hg hs'
  go_enter Tryd.func6, Tryd.ntmps6
  go_wp2_with fail
  refine H1.out.mono ?_
  rintro e w1 ⟨rfl, hB1⟩
  have H3 := hidT (H2.out w1 hB1)
  go_wp2_with fail
  refine H3.out.mono ?_
  rintro e w2 ⟨rfl, hB2⟩
  have hB := bl_trans hB1 hB2
  cases q
  all_goals
    go_wp2_with fail
    go_ret
    exact ⟨rfl, hB⟩
end Go.Proofs.YthhehonlejmmaaaDoor
