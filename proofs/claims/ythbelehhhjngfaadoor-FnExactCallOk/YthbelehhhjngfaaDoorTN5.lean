/-
  Names and patterns: which texts are right: the program's partsOk.
-/
import Derived.Test.YthbelehhhjngfaaDoorTN4
import Derived.Deep.LoopGhost
import Derived.WalkMore
namespace Go.Proofs.YthbelehhhjngfaaDoor
open Go.RowKit Pl Il Tn Go.Shelf

theorem beq_str {p g : ByteArray} (h : p = g) : (p.toList == g.toList) = true := by subst h; simp
theorem bne_str {p g : ByteArray} (h : ¬ p = g) : (p.toList == g.toList) = false := by
  rw [beq_eq_false_iff_ne, ByteArray.toList_eq, ByteArray.toList_eq]
  exact fun e => h (dat_inj e)
theorem rest_tl : rest.toList = [62] := by rw [ByteArray.toList_eq]; rfl
theorem star_tl : star.toList = [42] := by rw [ByteArray.toList_eq]; rfl
set_option maxHeartbeats 2000000 in
theorem partsOk_any (s : ByteArray) (a : Option Addr) (n c : Nat) (gs : List ByteArray) (w : World) (hs : s.size ≤ maxLen) (hg : GOkT w) (hS : StrsAt w a n gs) (hn : n ≤ 4) :
    Calls Tryd.prog 36 #[.string s, .slice a n c] w fun e w' => e = .returned (.bool (rightF (okG gs) s)) ∧ Below w.heap.size w w' := by
  unfold maxLen at hs
  by_cases hl : s.size ≤ 24
  · have HC := hidT (partsOf_any s w hl hg)
    have HR := hidT (right_parts (f := okG gs) hl)
    have hps := parts_size s
    have hpl := parts_le s
    go_enter Tryd.func36, Tryd.ntmps36
    go_wp2_with fail
    go_step3
    go_wp2_with fail
    refine HC.out.mono ?_
    rintro e w1 ⟨a1, c1, rfl, hP, hB⟩
    have hS1 := hS.keep hB
    clear hS HC hg
    generalize hpsd : partsB s = ps at *
    clear hpsd
    generalize hnd : ps.length = np at *
    have HN := hidT hnd
    clear hnd
    go_wp2_with fail
    go_step3
    go_wp2_with fail
    go_loopg [21] np (fun g i wr => ∃ k : Nat, k + g = np ∧ i = .int .i64 (k : Int) ∧ Hid (partsF (okG gs) np k (ps.drop k) = partsF (okG gs) np 0 ps) ∧ w1 = wr)
    case atStart => exact ⟨0, by omega, rfl, rfl, rfl⟩
    case round =>
      obtain ⟨k, hkg, rfl, HI, rfl⟩ := hrel
      cases gk with
      | zero =>
        have hkz : ¬ ((k : Int) < (np : Int)) := by omega
        have HE := hidT (show partsF (okG gs) np 0 ps = true by rw [← HI.out, show k = ps.length by have := HN.out; omega]; exact parts_end)
        go_wp2_with fail
        go_ret
        exact ⟨rboolT (by rw [HR.out, HE.out]), hB⟩
      | succ g0 =>
        have hkn : ((k : Int) < (np : Int)) := by omega
        have hkl : k < ps.length := by have := HN.out; omega
        have hst := parts_drop (f := okG gs) (n := np) hkl
        rcases hP.row with h0 | ⟨b, off, rfl, hb, hcell⟩
        · omega
        have hc := hcell k (by omega)
        have hpz := hps (ps.getD k ⟨#[]⟩) (by have e : ps.getD k ⟨#[]⟩ = ps[k] := by simp [List.getD, List.getElem?_eq_getElem hkl]
                                              rw [e]; exact List.getElem_mem _)
        generalize ps.getD k ⟨#[]⟩ = p at hc hst hpz
        have HST := hidT hst
        have HB := hidT hB
        have HP := hidT hP
        have HCL := hidT hcell
        have HPS := hidT hps
        clear hst hB hP hcell hps
        go_wp2_with fail
        have HKG := hidT hkg
        have HKL := hidT hkl
        clear hkg hkl
        go_loopg [28] n (fun g j wx => ∃ q : Nat, q + g = n ∧ j = .int .i64 (q : Int) ∧ Hid (signOk (gs.take q) (decide (k + 1 = np)) p = false) ∧ w1 = wx)
        case atStart => exact ⟨0, by omega, rfl, rfl, rfl⟩
        case round =>
          obtain ⟨q, hqg, rfl, HQ, rfl⟩ := hrel
          cases gk with
          | zero =>
            have hqz : ¬ ((q : Int) < (n : Int)) := by omega
            have HA := hidT (sign_all (gs := gs) (l := decide (k + 1 = np)) (p := p) (by rw [show gs.length = q by have := hS1.len; omega]; exact HQ.out))
            have HPl := hidT (isPlainPart_any p w1 (by unfold maxLen; omega))
            have HQG := hidT hqg
            clear hqg
            cases hpl' : plainP p
            · rw [hpl'] at HPl
              have HF := hidT (show partsF (okG gs) np 0 ps = false by rw [← HI.out, HST.out, HA.out, hpl', Bool.false_and])
              go_wp2_with fail
              refine HPl.out.mono ?_
              rintro e w2 ⟨rfl, rfl⟩
              go_wp2_with fail
              try rw [Exit.noGoto_ret]
              go_ret
              exact ⟨rboolT (by rw [HR.out, HF.out]), HB.out⟩
            · rw [hpl'] at HPl
              go_wp2_with fail
              refine HPl.out.mono ?_
              rintro e w2 ⟨rfl, rfl⟩
              go_wp2_with fail
              go_roundg g0
              case rel => exact ⟨k + 1, by have := HKG.out; omega, by go_num, (by rw [← HI.out, HST.out, HA.out, hpl', Bool.true_and] : _ = _), rfl⟩
              case measure => omega
          | succ gj =>
            have hqn : ((q : Int) < (n : Int)) := by omega
            have hql : q < gs.length := by have := hS1.len; omega
            rcases hS1.row with h0 | ⟨b', off', rfl, hb', hcell'⟩
            · omega
            have hc' := hcell' q (by omega)
            have HS1 := hidT hS1
            have HSt := hidT (sign_step (gs := gs) (l := decide (k + 1 = np)) (p := p) hql HQ.out)
            have HHi := hidT (sign_hit (gs := gs) (l := decide (k + 1 = np)) (p := p) hql)
            generalize gs.getD q ⟨#[]⟩ = g at hc' HSt HHi
            have HQG := hidT hqg
            have HQL := hidT hql
            clear hS1 hcell' hqg hql
            by_cases e1 : p = g
            · have f1 := beq_str e1
              by_cases e2 : g = rest
              · have f2 : (g.toList == [62]) = true := by rw [← rest_tl]; exact beq_str e2
                by_cases e3 : k + 1 = np
                · have f3 : ((k : Int) == (np : Int) - 1) = true := by simp; omega
                  have HT := hidT (HHi.out (by simp [e1, e2, e3]))
                  have HE1 := hidT e1
                  have HE2 := hidT e2
                  clear e1 e2
                  have HE3 := hidT e3
                  clear e3
                  go_wp2_with fail
                  go_roundg g0
                  case rel => exact ⟨k + 1, by have := HKG.out; omega, by go_num, (by rw [← HI.out, HST.out, okG, HT.out, Bool.true_or, Bool.true_and] : _ = _), rfl⟩
                  case measure => omega

                · have f3 : ((k : Int) == (np : Int) - 1) = false := by simp; omega
                  have HT := hidT (HSt.out (by simp [e1, e2, e3]))
                  have HE1 := hidT e1
                  have HE2 := hidT e2
                  have HE3 := hidT e3
                  clear e1 e2 e3
                  go_wp2_with fail
                  go_roundg gj
                  case rel => exact ⟨q + 1, by have := HQG.out; omega, by go_num, HT.out, rfl⟩
                  case measure => omega
              · have f2 : (g.toList == [62]) = false := by rw [← rest_tl]; exact bne_str e2
                have HT := hidT (HHi.out (by simp [e1, e2]))
                have HE1 := hidT e1
                have HE2 := hidT e2
                clear e1 e2
                go_wp2_with fail
                go_roundg g0
                case rel => exact ⟨k + 1, by have := HKG.out; omega, by go_num, (by rw [← HI.out, HST.out, okG, HT.out, Bool.true_or, Bool.true_and] : _ = _), rfl⟩
                case measure => omega
            · have f1 := bne_str e1
              go_wp2_with fail
              go_roundg gj
              case rel => exact ⟨q + 1, by have := HQG.out; omega, by go_num, HSt.out (by rw [show decide (p = g) = false by simpa using e1]; rfl), rfl⟩
              case measure => omega
  · have hr := right_long (f := okG gs) (s := s) (by omega)
    rw [hr]
    clear hr
    go_enter Tryd.func36, Tryd.ntmps36
    go_wp2
    go_step3
    go_wp2
    rw [Exit.noGoto_ret]
    go_ret
    exact ⟨rfl, Below.refl _ _⟩
end Go.Proofs.YthbelehhhjngfaaDoor
