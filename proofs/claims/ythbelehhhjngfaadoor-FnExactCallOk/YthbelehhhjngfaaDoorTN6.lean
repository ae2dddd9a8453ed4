/-
  Names and patterns: which texts are right: the specification's side, and NameOk, PatternOk of both.
-/
import Derived.Test.YthbelehhhjngfaaDoorTN5
namespace Go.Proofs.YthbelehhhjngfaaDoor
open Go.RowKit Pl Il Tn Go.Shelf

theorem l1In_anyT (x lo hi : Int) (w : World) : Calls Tryd.prog 12 #[.int .i64 x, .int .i64 lo, .int .i64 hi] w fun e w' => e = .returned (.bool (decide (lo ≤ x) && decide (x ≤ hi))) ∧ w' = w := by
  by_cases h1 : lo ≤ x
  · by_cases h2 : x ≤ hi
    · go_enter Tryd.func12, Tryd.ntmps12
      go_wp2
      go_ret
      exact ⟨rboolT (by simp [h1, h2]), rfl⟩
    · have h2' : decide (x ≤ hi) = false := by simpa using h2
      go_enter Tryd.func12, Tryd.ntmps12
      go_wp2
      go_ret
      exact ⟨rboolT (by simp), rfl⟩
  · have h1' : decide (lo ≤ x) = false := by simpa using h1
    go_enter Tryd.func12, Tryd.ntmps12
    go_wp2
    go_ret
    exact ⟨rboolT (by simp), rfl⟩
theorem ok_cases (st l : Bool) (p : ByteArray) : (okPart st l p = true ∧ ((st = true ∧ p = star) ∨ (st = true ∧ ¬ p = star ∧ p = rest ∧ l = true))) ∨
    ((st = false ∨ (st = true ∧ ¬ p = star ∧ ¬ p = rest) ∨ (st = true ∧ ¬ p = star ∧ p = rest ∧ l = false)) ∧ okPart st l p = plainP p) := by
  cases st
  · right; exact ⟨.inl rfl, by simp [okPart]⟩
  · by_cases h1 : p = star
    · left; exact ⟨by simp [okPart, h1], .inl ⟨rfl, h1⟩⟩
    · by_cases h2 : p = rest
      · cases l
        · right; exact ⟨.inr (.inr ⟨rfl, h1, h2, rfl⟩), by simp [okPart, h1]⟩
        · left; exact ⟨by simp [okPart, h2], .inr ⟨rfl, h1, h2, rfl⟩⟩
      · right; exact ⟨.inr (.inl ⟨rfl, h1, h2⟩), by simp [okPart, h1, h2]⟩
set_option maxHeartbeats 8000000 in
theorem specRight_any (s : ByteArray) (st : Bool) (w : World) (hs : s.size ≤ maxLen) :
    Calls Tryd.prog 25 #[.string s, .bool st] w fun e w' => e = .returned (.bool (rightN st s)) ∧ Below w.heap.size w w' := by
  unfold maxLen at hs
  have HIn := hidT (l1In_anyT (s.size : Int) 1 24 w)
  by_cases hin : 1 ≤ s.size ∧ s.size ≤ 24
  · obtain ⟨h1, hl⟩ := hin
    rw [show (decide ((1 : Int) ≤ (s.size : Int)) && decide ((s.size : Int) ≤ 24)) = true by simp; omega] at HIn
    have HC := hidT (specParts_any s w hl)
    have HR := hidT (show rightN st s = partsF (okPart st) (partsB s).length 0 (partsB s) from right_parts hl)
    have hps := parts_size s
    have hpl := parts_le s
    go_enter Tryd.func25, Tryd.ntmps25
    go_wp2_with fail
    refine HIn.out.mono ?_
    rintro e w0 ⟨rfl, rfl⟩
    go_wp2_with fail
    refine HC.out.mono ?_
    rintro e w1 ⟨a1, c1, rfl, hP, hB⟩
    clear HC HIn
    generalize hpsd : partsB s = ps at *
    clear hpsd
    generalize hnd : ps.length = np at *
    have HN := hidT hnd
    clear hnd
    go_wp2_with fail
    go_loopg [6] np (fun g i wr => ∃ k : Nat, k + g = np ∧ i = .int .i64 (k : Int) ∧ Hid (partsF (okPart st) np k (ps.drop k) = partsF (okPart st) np 0 ps) ∧ w1 = wr)
    case atStart => exact ⟨0, by omega, rfl, rfl, rfl⟩
    case round =>
      obtain ⟨k, hkg, rfl, HI, rfl⟩ := hrel
      cases gk with
      | zero =>
        have hkz : ¬ ((k : Int) < (np : Int)) := by omega
        have HE := hidT (show partsF (okPart st) np 0 ps = true by rw [← HI.out, show k = ps.length by have := HN.out; omega]; exact parts_end)
        go_wp2_with fail
        go_ret
        exact ⟨rboolT (by rw [HR.out, HE.out]), hB⟩
      | succ g0 =>
        have hkn : ((k : Int) < (np : Int)) := by omega
        have hkl : k < ps.length := by have := HN.out; omega
        have hst := parts_drop (f := okPart st) (n := np) hkl
        rcases hP.row with h0 | ⟨b, off, rfl, hb, hcell⟩
        · omega
        have hc := hcell k (by omega)
        have hpz := hps (ps.getD k ⟨#[]⟩) (by have e : ps.getD k ⟨#[]⟩ = ps[k] := by simp [List.getD, List.getElem?_eq_getElem hkl]
                                              rw [e]; exact List.getElem_mem _)
        generalize ps.getD k ⟨#[]⟩ = p at hc hst hpz
        have HST := hidT hst
        have HB := hidT hB
        have HP := hidT hP
        have HCL := hidT hcell
        have HPS := hidT hps
        have HKG := hidT hkg
        have HKL := hidT hkl
        have HPl := hidT (specPlain_any p w1 (by unfold maxLen; omega))
        clear hst hB hP hcell hps hkl
        have hlast : decide (k + 1 = np) = ((k : Int) == (np : Int) - 1) := by
          rw [Bool.eq_iff_iff]; simp; omega
        rcases ok_cases st (decide (k + 1 = np)) p with ⟨hok, hw⟩ | ⟨hw, hok⟩
        · have HOK := hidT hok
          clear hok hkg
          rcases hw with ⟨rfl, e1⟩ | ⟨rfl, e1, e2, e3⟩
          · have f1 : (p.toList == [42]) = true := by rw [← star_tl]; exact beq_str e1
            have HE1 := hidT e1
            have HLa := hidT hlast
            clear e1 hlast
            go_wp2_with fail
            go_roundg g0
            case rel => exact ⟨k + 1, by have := HKG.out; omega, by go_num, (by rw [← HI.out, HST.out, HOK.out, Bool.true_and] : _ = _), rfl⟩
            case measure => omega
          · have f1 : (p.toList == [42]) = false := by rw [← star_tl]; exact bne_str e1
            have f2 : (p.toList == [62]) = true := by rw [← rest_tl]; exact beq_str e2
            rw [hlast] at e3
            have HE1 := hidT e1
            have HE2 := hidT e2
            have HLa := hidT hlast
            clear e1 e2 hlast
            go_wp2_with fail
            go_roundg g0
            case rel => exact ⟨k + 1, by have := HKG.out; omega, by go_num, (by rw [← HI.out, HST.out, HOK.out, Bool.true_and] : _ = _), rfl⟩
            case measure => omega
        · have HOK := hidT hok
          clear hok hkg
          cases hq : plainP p
          · rw [hq] at HPl HOK
            have HF := hidT (show partsF (okPart st) np 0 ps = false by rw [← HI.out, HST.out, HOK.out, Bool.false_and])
            clear hq
            rcases hw with rfl | ⟨rfl, e1, e2⟩ | ⟨rfl, e1, e2, e3⟩
            · have HLa := hidT hlast
              clear hlast
              go_wp2_with fail
              refine HPl.out.mono ?_
              rintro e w2 ⟨rfl, rfl⟩
              go_wp2_with fail
              go_ret
              exact ⟨rboolT (by rw [HR.out, HF.out]), HB.out⟩
            · have f1 : (p.toList == [42]) = false := by rw [← star_tl]; exact bne_str e1
              have f2 : (p.toList == [62]) = false := by rw [← rest_tl]; exact bne_str e2
              clear e1 e2 hlast
              go_wp2_with fail
              refine HPl.out.mono ?_
              rintro e w2 ⟨rfl, rfl⟩
              go_wp2_with fail
              go_ret
              exact ⟨rboolT (by rw [HR.out, HF.out]), HB.out⟩
            · have f1 : (p.toList == [42]) = false := by rw [← star_tl]; exact bne_str e1
              have f2 : (p.toList == [62]) = true := by rw [← rest_tl]; exact beq_str e2
              rw [hlast] at e3
              clear e1 e2 hlast
              go_wp2_with fail
              refine HPl.out.mono ?_
              rintro e w2 ⟨rfl, rfl⟩
              go_wp2_with fail
              go_ret
              exact ⟨rboolT (by rw [HR.out, HF.out]), HB.out⟩
          · rw [hq] at HPl HOK
            clear hq
            rcases hw with rfl | ⟨rfl, e1, e2⟩ | ⟨rfl, e1, e2, e3⟩
            · have HLa := hidT hlast
              clear hlast
              go_wp2_with fail
              refine HPl.out.mono ?_
              rintro e w2 ⟨rfl, rfl⟩
              go_wp2_with fail
              go_roundg g0
              case rel => exact ⟨k + 1, by have := HKG.out; omega, by go_num, (by rw [← HI.out, HST.out, HOK.out, Bool.true_and] : _ = _), rfl⟩
              case measure => omega
            · have f1 : (p.toList == [42]) = false := by rw [← star_tl]; exact bne_str e1
              have f2 : (p.toList == [62]) = false := by rw [← rest_tl]; exact bne_str e2
              clear e1 e2 hlast
              go_wp2_with fail
              refine HPl.out.mono ?_
              rintro e w2 ⟨rfl, rfl⟩
              go_wp2_with fail
              go_roundg g0
              case rel => exact ⟨k + 1, by have := HKG.out; omega, by go_num, (by rw [← HI.out, HST.out, HOK.out, Bool.true_and] : _ = _), rfl⟩
              case measure => omega
            · have f1 : (p.toList == [42]) = false := by rw [← star_tl]; exact bne_str e1
              have f2 : (p.toList == [62]) = true := by rw [← rest_tl]; exact beq_str e2
              rw [hlast] at e3
              clear e1 e2 hlast
              go_wp2_with fail
              refine HPl.out.mono ?_
              rintro e w2 ⟨rfl, rfl⟩
              go_wp2_with fail
              go_roundg g0
              case rel => exact ⟨k + 1, by have := HKG.out; omega, by go_num, (by rw [← HI.out, HST.out, HOK.out, Bool.true_and] : _ = _), rfl⟩
              case measure => omega
  · have hr : rightN st s = false := by
      by_cases h0 : s.size = 0
      · exact right_nil st s h0
      · exact right_long (by omega)
    rw [show (decide ((1 : Int) ≤ (s.size : Int)) && decide ((s.size : Int) ≤ 24)) = false by
      rw [Bool.and_eq_false_iff]; simp; omega] at HIn
    rw [hr]
    clear hr
    go_enter Tryd.func25, Tryd.ntmps25
    go_wp2_with fail
    refine HIn.out.mono ?_
    rintro e w0 ⟨rfl, rfl⟩
    go_wp2_with fail
    go_ret
    exact ⟨rfl, Below.refl _ _⟩
theorem specPattern_any (s : ByteArray) (w : World) (hs : s.size ≤ maxLen) : Calls Tryd.prog 14 #[.string s] w fun e w' => e = .returned (.bool (rightN true s)) ∧ Below w.heap.size w w' := by
  have H := hidT (specRight_any s true w hs)
  go_enter Tryd.func14, Tryd.ntmps14
  go_wp2_with fail
  refine H.out.mono ?_
  rintro e w1 ⟨rfl, hB⟩
  go_wp2_with fail
  go_ret
  exact ⟨rfl, hB⟩
theorem implPattern_any (s : ByteArray) (w : World) (hs : s.size ≤ maxLen) (hg : GOkT w) : Calls Tryd.prog 29 #[.string s] w fun e w' => e = .returned (.bool (rightN true s)) ∧ Below w.heap.size w w' := by
  have hb0 : Below w.heap.size w (w.alloc (.cells #[.string ⟨#[42]⟩, .string ⟨#[62]⟩] 9)) := bl_alloc (Below.refl _ _) _
  have H := hidT (partsOk_any s (some ⟨w.heap.size, 0, none⟩) 2 2 [star, rest] (w.alloc (.cells #[.string ⟨#[42]⟩, .string ⟨#[62]⟩] 9)) hs (hg.keep hb0) (strs_new w [star, rest]) (by omega))
  rw [okG_two] at H
  have HB0 := hidT hb0
  clear hb0
  go_enter Tryd.func29, Tryd.ntmps29
  go_wp2_with fail
  refine H.out.mono ?_
  rintro e w1 ⟨rfl, hB⟩
  go_wp2_with fail
  go_ret
  exact ⟨rfl, bl_trans HB0.out hB⟩
end Go.Proofs.YthbelehhhjngfaaDoor
