/-
  What matches: the specification's Matches.
-/
import Derived.Test.YthhehonlejmmaaaDoorTM1
import Derived.Test.YthhehonlejmmaaaDoorTN6
import Derived.Deep.QuietTactic
import Derived.BigQuiet
namespace Go.Proofs.YthhehonlejmmaaaDoor
open Go.RowKit Pl Il Tn Go.Shelf

theorem bl_drewT {w u : World} (h : Below w.heap.size w u) (n : Nat) : Below w.heap.size w (u.drewN n) := by
  induction n with
  | zero => exact h
  | succ n ih => exact ih.drew
def MatchP (w : World) (name pat : ByteArray) (e : Ending) (w' : World) : Prop := e = .returned (.bool (matchN name pat)) ∧ Below w.heap.size w w'
theorem getD_mem {xs : List ByteArray} {q : Nat} (h : q < xs.length) : xs.getD q ⟨#[]⟩ ∈ xs := by
  have e : xs.getD q ⟨#[]⟩ = xs[q] := by simp [List.getD, List.getElem?_eq_getElem h]
  rw [e]; exact List.getElem_mem _
set_option maxHeartbeats 8000000 in
theorem specMatches_any (name pat : ByteArray) (w : World) (hs : name.size ≤ maxLen) (hs' : pat.size ≤ maxLen) : Calls Tryd.prog 10 #[.string name, .string pat] w (MatchP w name pat) := by
  have HN := hidT (specName_any name w hs)
  have HP := hidT (fun u => specPattern_any pat u hs')
  have HR := hidT (show matchN name pat = (rightN false name && rightN true pat && matchL (partsB pat) (partsB name)) from rfl)
  have hsz := fun h => right_size (st := false) (s := name) h
  have hsz' := fun h => right_size (st := true) (s := pat) h
  generalize rightN false name = q1 at HN HR hsz
  generalize rightN true pat = q2 at HP HR hsz'
  clear hs hs'
  cases q1
  · go_enter Tryd.func10, Tryd.ntmps10
    go_wp2_with fail
    refine HN.out.mono ?_
    rintro e w1 ⟨rfl, hB⟩
    go_wp2_with fail
    go_ret
    exact ⟨rboolT (by rw [HR.out]; rfl), hB⟩
  cases q2
  · go_enter Tryd.func10, Tryd.ntmps10
    go_wp2_with fail
    refine HN.out.mono ?_
    rintro e w1 ⟨rfl, hB⟩
    have HP1 := hidT (HP.out w1)
    go_wp2_with fail
    refine HP1.out.mono ?_
    rintro e w2 ⟨rfl, hB2⟩
    go_wp2_with fail
    go_ret
    exact ⟨rboolT (by rw [HR.out]; rfl), bl_trans hB hB2⟩
  have hz := hsz rfl
  have hz' := hsz' rfl
  clear hsz hsz'
  rw [Bool.true_and, Bool.true_and] at HR
  go_enter Tryd.func10, Tryd.ntmps10
  go_wp2_with fail
  refine HN.out.mono ?_
  rintro e w1 ⟨rfl, hB1⟩
  have HP1 := hidT (HP.out w1)
  go_wp2_with fail
  refine HP1.out.mono ?_
  rintro e w2 ⟨rfl, hB2⟩
  have HB2 := hidT (bl_trans hB1 hB2)
  have HA := hidT (specParts_any name w2 hz)
  clear hB1 hB2 HP1 HN
  go_wp2_with fail
  refine HA.out.mono ?_
  rintro e w3 ⟨a3, c3, rfl, hS3, hB3⟩
  have HBB := hidT (specParts_any pat w3 hz')
  go_wp2_with fail
  refine HBB.out.mono ?_
  rintro e w4 ⟨a4, c4, rfl, hS4, hB4⟩
  have hS3' := hS3.keep hB4
  have HB4 := hidT (bl_trans HB2.out (bl_trans hB3 hB4))
  have hpn := parts_le name
  have hpp := parts_le pat
  clear hS3 hB3 hB4 HA HBB HB2 HP
  generalize partsB name = ys at *
  generalize partsB pat = xs at *
  obtain ⟨ny, hny⟩ : ∃ n, n = ys.length := ⟨_, rfl⟩
  obtain ⟨nx, hnx⟩ : ∃ n, n = xs.length := ⟨_, rfl⟩
  rw [← hny] at hS3' hpn ⊢
  rw [← hnx] at hS4 hpp ⊢
  have HNY := hidT hny
  have HNX := hidT hnx
  clear hny hnx
  go_wp2_with fail
  go_loopg [7] nx (fun g i wr => ∃ k : Nat, k + g = nx ∧ k ≤ ny ∧ i = .int .i64 (k : Int) ∧ Hid (matchL (xs.drop k) (ys.drop k) = matchL xs ys) ∧ Below w4.heap.size w4 wr)
  case atStart => exact ⟨0, by omega, by omega, rfl, rfl, Below.refl _ _⟩
  case round =>
    obtain ⟨k, hkg, hky, rfl, HI, hbr⟩ := hrel
    have HB5 := hidT (bl_trans HB4.out hbr)
    cases gk with
    | zero =>
      have hkz : ¬ ((k : Int) < (nx : Int)) := by omega
      have HE := hidT (show matchL xs ys = decide ((ny : Int) = (nx : Int)) by
        rw [← HI.out, show k = xs.length by have := HNX.out; omega, match_len (by have := HNX.out; have := HNY.out; omega), ← HNY.out, ← HNX.out]
        rw [Bool.eq_iff_iff]; simp; omega)
      go_wp2_with fail
      go_ret
      refine ⟨rboolT ?_, HB5.out⟩
      rw [HR.out, HE.out]
      rw [Bool.eq_iff_iff, beq_iff_eq, decide_eq_true_eq]
    | succ g0 =>
      have hkn : ((k : Int) < (nx : Int)) := by omega
      have hkx : k < xs.length := by have := HNX.out; omega
      have HX := hidT (drop_cons hkx)
      by_cases hk2 : k < ny
      · have hk3 : ¬ ((ny : Int) ≤ (k : Int)) := by omega
        have hky' : k < ys.length := by have := HNY.out; omega
        have HY := hidT (drop_cons hky')
        rcases (hS4.keep hbr).row with h0 | ⟨b, off, rfl, hb, hcell⟩
        · omega
        rcases (hS3'.keep hbr).row with h0 | ⟨b', off', rfl, hb', hcell'⟩
        · omega
        have hc := hcell k (by omega)
        have hc' := hcell' k (by omega)
        generalize xs.getD k ⟨#[]⟩ = x at hc HX
        generalize ys.getD k ⟨#[]⟩ = y at hc' HY
        have HKG := hidT hkg
        have HS := hidT (And.intro hS4 hS3')
        have HBR := hidT hbr
        clear hcell hcell' hkx hky' hkg hS4 hS3' hbr
        by_cases e1 : x = rest
        · have f1 : (x.toList == [62]) = true := by rw [← rest_tl]; exact beq_str e1
          have HF := hidT (show matchL xs ys = true by rw [← HI.out, HX.out, HY.out]; exact match_rest e1)
          clear e1
          go_wp2_with fail
          go_ret
          exact ⟨rboolT (by rw [HR.out, HF.out]), HB5.out⟩
        · have f1 : (x.toList == [62]) = false := by rw [← rest_tl]; exact bne_str e1
          by_cases e2 : x = star
          · have f2 : (x.toList == [42]) = true := by rw [← star_tl]; exact beq_str e2
            have HF := hidT (show matchL (xs.drop (k + 1)) (ys.drop (k + 1)) = matchL xs ys by rw [← HI.out, HX.out, HY.out, match_step e1 (.inl e2)])
            clear e1 e2
            go_wp2_with fail
            go_quiet (fail)
            go_wp2_with fail
            go_roundg g0
            case rel => exact ⟨k + 1, by have := HKG.out; omega, by omega, by go_num, HF.out, bl_drewT HBR.out _⟩
            case measure => omega
          · have f2 : (x.toList == [42]) = false := by rw [← star_tl]; exact bne_str e2
            by_cases e3 : x = y
            · have f3 := beq_str e3
              have HF := hidT (show matchL (xs.drop (k + 1)) (ys.drop (k + 1)) = matchL xs ys by rw [← HI.out, HX.out, HY.out, match_step e1 (.inr e3)])
              clear e1 e2 e3
              go_wp2_with fail
              go_quiet (fail)
              go_wp2_with fail
              go_roundg g0
              case rel => exact ⟨k + 1, by have := HKG.out; omega, by omega, by go_num, HF.out, bl_drewT HBR.out _⟩
              case measure => omega
            · have f3 := bne_str e3
              have HF := hidT (show matchL xs ys = false by rw [← HI.out, HX.out, HY.out]; exact match_not e1 e2 e3)
              clear e1 e2 e3
              go_wp2_with fail
              go_quiet (fail)
              go_wp2_with fail
              go_ret
              exact ⟨rboolT (by rw [HR.out, HF.out]), bl_drewT HB5.out _⟩
      · have hk3 : ((ny : Int) ≤ (k : Int)) := by omega
        have HF := hidT (show matchL xs ys = false by rw [← HI.out, HX.out, show ys.drop k = [] from List.drop_eq_nil_of_le (by have := HNY.out; omega), match_none])
        go_wp2_with fail
        go_ret
        exact ⟨rboolT (by rw [HR.out, HF.out]), HB5.out⟩
end Go.Proofs.YthhehonlejmmaaaDoor
