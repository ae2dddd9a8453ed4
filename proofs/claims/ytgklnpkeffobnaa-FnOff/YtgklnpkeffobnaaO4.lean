/-
  Walks of the specification's draws: any tokens: the walk of l3Some.
-/
import Derived.Test.YtgklnpkeffobnaaO3
namespace Go.Proofs.Ytgklnpkeffobnaa
open Go.RowKit Pl Dr Il

theorem TokV.start {c : Nat} {a : Option Addr} {len cap : Nat} {w W0 w1 : World} {v v' : Value} {ps : List Int} {qs : List Bool} (hC : Cur c a len cap w) (h0 : w.alloc (.cells #[.slice none 0 0, .slice none 0 0] 27) = W0) (hA : TokApp W0.heap.size w1 v v' ps qs) (hD : Drawn c a len cap W0 w1) (hl : ps.length = qs.length) (hle : ps.length ≤ 24) :
    TokV c a len cap w w.heap.size w1.heap.size v v' ps qs (w1.alloc (.cells #[v, v'] 27)) := by
  have s0 : W0.heap.size = w.heap.size + 1 := by subst h0; simp
  have hsz := hD.ex.size
  have hlt := hC.lt
  have hb := bl_alloc (Below.refl w1.heap.size w1) (.cells #[v, v'] 27)
  refine ⟨heap_alloc_new _ _, ?_, (hA.mono (by omega)).keep hb, ?_, hC, by omega, Nat.le_refl _, by omega, hl, hle⟩
  · rw [Below.heap_alloc _ _ _ (by omega), hD.ex.block w.heap.size (by omega) (by simp; omega)]
    subst h0; exact heap_alloc_new _ _
  · have : Drawn c a len cap w W0 := by subst h0; exact (Drawn.start hC).alloc _
    exact (this.trans hD).alloc _
theorem row_some {B e : Nat} {w : World} {a : Option Addr} {m k n : Nat} {xs : List Value} (h : w.ownsRow B e 1 (.slice a m k) n xs) (hm : 0 < m) : ∃ g, a = some ⟨g, 0, none⟩ := by
  obtain ⟨_, ⟨e, _⟩ | ⟨g, cap, cur, e, _⟩⟩ := h
  · cases e; omega
  · cases e; exact ⟨g, rfl⟩
/-- How many parents lie in the variable. -/
def lenAt (N : Nat) (w : World) : Nat := match w.cell? ⟨N, 0, none⟩ with | some (.slice _ n _) => n | _ => 0

set_option maxRecDepth 100000 in
set_option maxHeartbeats 1000000 in
theorem l3Some_any (a : Option Addr) (len cap : Nat) (c : Nat) (w : World) (hC : Cur c a len cap w) :
    Calls Try.prog 33 #[.pointer (some ⟨c, 0, none⟩)] w fun e w' => SomeTok c a len cap w e w' := by
  generalize hW0 : w.alloc (.cells #[.slice none 0 0, .slice none 0 0] 27) = W0
  have s0 : W0.heap.size = w.heap.size + 1 := by subst hW0; simp
  have hc0 : Cur c a len cap W0 := by subst hW0; exact hC.alloc _
  have HC := hidOf hC
  have HL9 := hidOf (l3Tokens_any a len cap c 9 W0 hc0 (by omega) (by omega))
  clear hC hc0
  go_enter Try.func33, Try.ntmps33
  go_wp2_with fail
  refine HL9.out.mono ?_
  rintro e w1 ⟨v, v', ps, qs, rfl, hA, hl, hle, hd⟩
  have hT := TokV.start HC.out hW0 hA hd hl hle
  obtain ⟨m, a1, c1, a2, c2, rfl, rfl, hm, hpm⟩ := hT.form
  have HT := hidOf hT
  have HOn := hidOf (once_any a len cap c 10 _ hT.dr.cur (by omega) (by omega))
  have hN1 : w1.heap.size ≠ w.heap.size := Ne.symm hT.ne
  clear hA hd hl hle hpm hT HL9
  go_wp2_with fail
  refine HOn.out.mono ?_
  rintro e w2 ⟨y, rfl, hd2⟩
  have hT2 := HT.out.draw hd2
  generalize hNN : w1.heap.size = N at *
  have HT2 := hidOf hT2
  clear hT2 HT HOn hd2 hNN
  go_upto_if 8 with fail
  go_cut [] from 9 (fun wx => ∃ (v v' : Value) (ps : List Int) (qs : List Bool), TokV c a len cap w w.heap.size N v v' ps qs wx)
  case first =>
    cases y
    · go_wp2_with fail
      go_meet
      exact ⟨_, _, _, _, HT2.out⟩
    · have HL := hidOf (l3Tokens_any a len cap c 24 w2 HT2.out.dr.cur (by omega) (by omega))
      go_wp2_with fail
      refine HL.out.mono ?_
      rintro e w3 ⟨v3, v3', ps3, qs3, rfl, hA3, hl3, hle3, hd3⟩
      have hT3 := HT2.out.draw hd3
      have hP := hT3.put (hA3.mono HT2.out.dr.ex.size) hl3 hle3
      obtain ⟨m3, b1, d1, b2, d2, rfl, rfl, hm3, hpm3⟩ := hP.form
      obtain ⟨o0, o1, of⟩ := tok_cells hT3.blk
      have of0 := of 0
      have of1 := of 1
      have HP := hidOf hP
      clear hA3 hl3 hle3 hd3 hT3 hP of hpm3 HL
      go_wp2
      clear o0 o1 of0 of1
      go_loopw [] (fun wr => ∃ (v v' : Value) (ps : List Int) (qs : List Bool), TokV c a len cap w w.heap.size N v v' ps qs wr) (fun wr => 24 - lenAt N wr)
      case atStart => exact ⟨_, _, _, _, HP.out⟩
      case round =>
        rename_i wr
        obtain ⟨v4, v4', ps4, qs4, hT4⟩ := hrel
        clear HP
        obtain ⟨m4, e1, f1, e2, f2, rfl, rfl, hm4, hpm4⟩ := hT4.form
        obtain ⟨o0, o1, of⟩ := tok_cells hT4.blk
        by_cases h24 : m4 < 24
        · have h24' : (m4 : Int) < 24 := by omega
          obtain ⟨g5, k5, w5, g6, k6, w6, hr5, c5, f5, c6, hr6, c7, f7, hT6⟩ := hT4.fill hpm4 (by omega)
          generalize hX : w5.setCell ⟨N, 0, none⟩ (.slice (some ⟨g5, 0, none⟩) (m4 + 1) k5) = X at *
          have Hr5 := hidOf hr5
          have Hr6 := hidOf hr6
          have HT6 := hidOf hT6
          have hlen : lenAt N (w6.setCell ⟨N, 1, none⟩ (.slice (some ⟨g6, 0, none⟩) (m4 + 1) k6)) = m4 + 1 := by unfold lenAt; rw [(tok_cells hT6.blk).1]
          have hlen0 : lenAt N wr = m4 := by unfold lenAt; rw [o0]
          clear hr5 hr6 hT6 hT4 of hpm4
          go_wp2_with (first | (at_builtin; refine wpList_append_run rfl _ _ 24 rfl _ _ _ rfl rfl Hr5.out ?_) | (at_builtin; refine wpList_append_run rfl _ _ 25 rfl _ _ _ rfl rfl Hr6.out ?_) | fail)
          go_roundw
          case rel => exact ⟨_, _, _, _, HT6.out⟩
          case measure => rw [hlen, hlen0]; omega
        · have h24' : ¬ (m4 : Int) < 24 := by omega
          have HT4 := hidOf hT4
          clear hT4 of hpm4
          go_wp2_with fail
          go_meet
          exact ⟨_, _, _, _, HT4.out⟩
  case rest =>
    obtain ⟨v5, v5', ps5, qs5, hT5⟩ := hcut
    obtain ⟨m5, b1, d1, b2, d2, rfl, rfl, hm5, hpm5⟩ := hT5.form
    have HOn := hidOf (once_any a len cap c 8 _ hT5.dr.cur (by omega) (by omega))
    have HT5 := hidOf hT5
    have HPM := hidOf hpm5
    clear hT5 HT2 hpm5
    go_wp2_with fail
    refine HOn.out.mono ?_
    rintro e w6 ⟨z, rfl, hd6⟩
    have hT6 := HT5.out.draw hd6
    obtain ⟨o0, o1, of⟩ := tok_cells hT6.blk
    obtain ⟨r0, r1, rf⟩ := tok_cells hT6.res
    have rf0 := rf 0
    have rf1 := rf 1
    have HB := hidOf (hT6.u.back hm5 hm5)
    have HT6 := hidOf hT6
    clear hd6 HT5 HOn of rf hT6
    cases z
    · go_wp2
      exact bodyPost_ret (v := .agg #[.slice b1 m5 d1, .slice b2 m5 d2]) (by simp [results, Try.results33, go_sem, r0, r1]) rfl HB.out
    · rcases Nat.eq_zero_or_pos m5 with h0 | hpos
      · have hz : ¬ (0 : Int) < (m5 : Int) := by omega
        have H0 := hidOf h0
        clear h0
        go_wp2
        exact bodyPost_ret (v := .agg #[.slice b1 m5 d1, .slice b2 m5 d2]) (by simp [results, Try.results33, go_sem, r0, r1]) rfl HB.out
      · have hz : (0 : Int) < (m5 : Int) := by omega
        have HB1 := hidOf (below_any a len cap c (m5 : Int) _ HT6.out.dr.cur (by omega) (by omega))
        clear HB
        go_wp2_with fail
        refine HB1.out.mono ?_
        rintro e w7 ⟨i, rfl, i0, i1, hd7⟩
        have hT7 := HT6.out.draw hd7
        obtain ⟨i, rfl⟩ := Int.eq_ofNat_of_zero_le i0
        have HB2 := hidOf (below_any a len cap c 3 _ hT7.dr.cur (by omega) (by omega))
        have HT7 := hidOf hT7
        clear hT7 hd7 HT6 HB1 o0 o1 r0 r1 rf0 rf1
        go_wp2_with fail
        refine HB2.out.mono ?_
        rintro e w8 ⟨y, rfl, y0, y1, hd8⟩
        have hT8 := HT7.out.draw hd8
        obtain ⟨o0, o1, of⟩ := tok_cells hT8.blk
        obtain ⟨r0, r1, rf⟩ := tok_cells hT8.res
        have of0 := of 0
        have of1 := of 1
        have rf0 := rf 0
        have rf1 := rf 1
        have hlp := HPM.out
        have hlq : qs5.length = m5 := by rw [← hT8.len]; exact hlp
        clear hd8 HT7 HB2 of rf
        obtain ⟨g1, rfl⟩ := row_some hT8.app.one hpos
        obtain ⟨g2, rfl⟩ := row_some hT8.app.two hpos
        have hi : i < m5 := by omega
        have ho1 := hT8.app.one
        have ho2 := hT8.app.two
        rw [hlp] at ho1
        rw [hlq] at ho2
        rcases (show y = 0 ∨ y = 1 ∨ y = 2 by omega) with rfl | rfl | rfl
        · have hcell := ho1.cellAt i (by omega)
          have hget : (ps5.map (Value.int .i64))[i]? = some (.int .i64 (ps5.getD i 0)) := by simp [List.getD, List.getElem?_eq_getElem (show i < ps5.length by omega)]
          rw [hget] at hcell
          have hfr := ho1.frozenAt i
          have hU := hT8.u.setP i (i : Int) (WalkArith.wf_i64 (by omega))
          generalize hX : w8.setCell ⟨g1, i, none⟩ (.int .i64 (i : Int)) = X at hU
          obtain ⟨p0, p1, _⟩ := tok_cells hU.blk
          obtain ⟨s0', s1', sf⟩ := tok_cells hU.res
          have sf0 := sf 0
          have sf1 := sf 1
          have HB := hidOf (hU.back hm5 hm5)
          clear hU ho1 ho2 hT8 sf hlp hlq hget
          go_wp2
          exact bodyPost_ret (v := .agg #[.slice (some ⟨g1, 0, none⟩) m5 d1, .slice (some ⟨g2, 0, none⟩) m5 d2]) (by simp [results, Try.results33, go_sem, s0', s1']) rfl HB.out
        · have hcell := ho2.cellAt 0 (by omega)
          have hget : (qs5.map Value.bool)[0]? = some (.bool (qs5.getD 0 false)) := by simp [List.getD, List.getElem?_eq_getElem (show 0 < qs5.length by omega)]
          rw [hget] at hcell
          have hfr := ho2.frozenAt 0
          have hU := hT8.u.setQ 0 true
          generalize hX : w8.setCell ⟨g2, 0, none⟩ (.bool true) = X at hU
          obtain ⟨p0, p1, _⟩ := tok_cells hU.blk
          obtain ⟨s0', s1', sf⟩ := tok_cells hU.res
          have sf0 := sf 0
          have sf1 := sf 1
          have HB := hidOf (hU.back hm5 hm5)
          clear hU ho1 ho2 hT8 sf hlp hlq hget
          go_wp2
          exact bodyPost_ret (v := .agg #[.slice (some ⟨g1, 0, none⟩) m5 d1, .slice (some ⟨g2, 0, none⟩) m5 d2]) (by simp [results, Try.results33, go_sem, s0', s1']) rfl HB.out
        · have hcap : m5 ≤ d2 := own_capB ho2
          have hne1 : ¬ N = w.heap.size := fun e => hN1 e
          have hne2 : ¬ w.heap.size = N := fun e => hN1 e.symm
          by_cases hd : d2 = 1
          · obtain rfl : m5 = 1 := by omega
            subst hd
            have HB := hidOf (hT8.u.back1 (a2 := some ⟨g2, 0, none⟩) (k2 := 0) hm5 hm5 (by omega) (.inl rfl))
            clear ho1 ho2 hT8 hlp hlq
            go_wp2
            exact bodyPost_ret (v := .agg #[.slice (some ⟨g1, 0, none⟩) 1 d1, .slice (some ⟨g2, 0, none⟩) 0 0]) (by simp [results, Try.results33, go_sem, r0, r1]) rfl HB.out
          · have hd1 : ¬ (d2 : Int) = 1 := by omega
            have hd2 : (1 : Int) ≤ (d2 : Int) := by omega
            have hm1 : (1 : Int) ≤ (m5 : Int) := by omega
            have HB := hidOf (hT8.u.back1 (a2 := some ⟨g2, 1, none⟩) (k2 := d2 - 1) hm5 hm5 hpos (.inr rfl))
            clear ho1 ho2 hT8 hlp hlq
            go_wp2
            exact bodyPost_ret (v := .agg #[.slice (some ⟨g1, 0, none⟩) m5 d1, .slice (some ⟨g2, 1, none⟩) (m5 - 1) (d2 - 1)]) (by simp [results, Try.results33, go_sem, r0, r1]) rfl HB.out
end Go.Proofs.Ytgklnpkeffobnaa
