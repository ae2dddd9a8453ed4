/-
  Walks of the specification's filters: which are right.
-/
import Derived.Test.YthbelehhhjngfaaDoorFM
import Derived.Test.YthbelehhhjngfaaDoorH6
import Derived.Deep.RegionHeld3
namespace Go.Proofs.YthbelehhhjngfaaDoor
open Go.RowKit Pl Il

theorem cellF {w w' : World} {a : Addr} {v : Value} (h : w.cell? a = some v) (hb : Below w.heap.size w w') : w'.cell? a = some v := by
  rw [hb.cell (p := a) (World.block_lt_of_cell? w a h)]; exact h
theorem inF_any (x a b : Int) (w : World) : Calls Tryd.prog 12 #[.int .i64 x, .int .i64 a, .int .i64 b] w fun e w' => e = .returned (.bool (decide (a ≤ x) && decide (x ≤ b))) ∧ w' = w := by
  go_enter Tryd.func12, Tryd.ntmps12
  go_wp2
  all_goals go_ret
  all_goals refine ⟨rbool ?_, rfl⟩
  all_goals first | (simp_all; done) | (simp_all; omega)
theorem l8Part_any (s : ByteArray) (w : World) (hs : s.size ≤ maxLen) :
    Calls Tryd.prog 34 #[.string s] w fun e w' => e = .returned (.bool (partB s)) ∧ w' = w := by
  unfold maxLen at hs
  by_cases h : 1 ≤ (s.size : Int) ∧ (s.size : Int) ≤ 10
  · have hd : (decide (1 ≤ (s.size : Int)) && decide ((s.size : Int) ≤ 10)) = true := by simp [h]
    go_enter Tryd.func34, Tryd.ntmps34
    go_wp2_with fail
    refine (inF_any _ _ _ _).mono ?_
    rintro e w1 ⟨rfl, rfl⟩
    rw [hd]
    go_wp2
    go_loop [3] (fun i => ∃ k : Nat, k ≤ s.size ∧ i = .int .i64 k ∧ letL (s.data.toList.take k) = true) (fun i => s.size - (intOf i).toNat)
    case atStart => exact ⟨0, Nat.zero_le _, rfl, rfl⟩
    case round =>
      obtain ⟨k, hk, rfl, hp⟩ := hrel
      by_cases hlt : k < s.size
      · go_wp2
        all_goals first
          | (go_ret; exact ⟨rbool (part_bad s k hlt (let_no _ (by omega))).symm, rfl⟩)
          | (go_round
             case rel => exact ⟨k + 1, by omega, by go_num, let_step s k hlt hp (let_yes _ (by omega) (by omega))⟩
             case measure => simp [intOf]; omega)
      · go_wp2
        go_ret
        exact ⟨rbool (part_all s k h.1 h.2 (by omega) hp).symm, rfl⟩
  · have hd : (decide (1 ≤ (s.size : Int)) && decide ((s.size : Int) ≤ 10)) = false := by
      rw [Bool.and_eq_false_iff]
      by_cases h1 : 1 ≤ (s.size : Int)
      · right; simp; omega
      · left; simp; omega
    have hq := part_size s h
    go_enter Tryd.func34, Tryd.ntmps34
    go_wp2_with fail
    refine (inF_any _ _ _ _).mono ?_
    rintro e w1 ⟨rfl, rfl⟩
    rw [hd]
    go_wp2
    go_ret
    first | exact ⟨rbool hq.symm, rfl⟩ | exact ⟨rfl, rfl⟩
set_option maxHeartbeats 1000000 in
theorem l8Takes_any (t : Tm) (w : World) (hs : t.2.2.size ≤ maxLen) :
    Calls Tryd.prog 26 #[.agg #[.int .i64 t.1, .int .i64 t.2.1, .string t.2.2]] w fun e w' => e = .returned (.int .i64 (takesM t)) ∧ Below w.heap.size w w' := by
  obtain ⟨op, n, s⟩ := t
  simp only at hs ⊢
  go_enter Tryd.func26, Tryd.ntmps26
  go_wp2_with (first
    | (go_at_call 34; refine (l8Part_any s _ hs).mono ?_; rintro e w1 ⟨rfl, rfl⟩)
    | (go_at_call 12; refine (inF_any _ _ _ _).mono ?_; rintro e w1 ⟨rfl, rfl⟩))
  all_goals go_ret
  all_goals refine ⟨rint ?_, bl_alloc (Below.refl _ _) _⟩
  all_goals first | (simp_all [takesM, okTm, cntM]; done) | (simp_all [takesM, okTm, cntM]; omega)
theorem takes_no {t : Tm} (h : okTm t = false) : takesM t = -1 := by simp [takesM, h]
theorem takes_yes {t : Tm} (h : okTm t = true) : takesM t = (cntM t.1 : Int) := by simp [takesM, h]
set_option maxHeartbeats 1000000 in
theorem specFilterOk_any (a : Option Addr) (n cap : Nat) (ts : List Tm) (w : World) (hI : TmAt w a n ts) (hn : n ≤ 9223372036854775807) :
    Calls Tryd.prog 15 #[.slice a n cap] w fun e w' => e = .returned (.bool (okF ts)) ∧ Below w.heap.size w w' := by
  obtain ⟨hlen, hsh, hr⟩ := hI
  by_cases h12 : 12 < (n : Int)
  · have hq := okF_long (f := ts) (by omega)
    clear hr
    go_enter Tryd.func15, Tryd.ntmps15
    go_wp2
    go_ret
    first | exact ⟨rbool hq.symm, Below.refl _ _⟩ | exact ⟨rfl, Below.refl _ _⟩
  have HS := hidOf hsh
  have HL := hidOf hlen
  have HR := hidOf hr
  clear hsh hlen hr
  go_enter Tryd.func15, Tryd.ntmps15
  go_wp2
  go_loopw [3, 4] (fun x i wr => ∃ k m : Nat, k ≤ n ∧ i = .int .i64 k ∧ x = .int .i64 (m : Int) ∧ goN (ts.take k) 0 = some m ∧ m ≤ k ∧ Below w.heap.size w wr) (fun _ i _ => n - (intOf i).toNat)
  case atStart => exact ⟨0, 0, Nat.zero_le _, rfl, rfl, rfl, Nat.le_refl _, Below.refl _ _⟩
  case round =>
    rename_i wr
    obtain ⟨k, m, hk, rfl, rfl, hgo, hmk, hB⟩ := hrel
    have HG := hidOf hgo
    clear hgo
    by_cases hlt : k < n
    · have hkl : k < ts.length := by rw [HL.out]; exact hlt
      obtain hr | ⟨b, off, rfl, hb, hcell⟩ := HR.out
      · omega
      obtain ⟨q0, q1, q2⟩ := hcell k hlt
      have hc := cellF q0 hB
      have hc2 := cellF q1 hB
      have hc3 := cellF q2 hB
      have HC := fun u => hidOf (l8Takes_any (qg ts k) u (HS.out _ (qg_mem hkl)))
      have HK := hidOf hkl
      obtain ⟨z, hz⟩ : ∃ z, qg ts k = z := ⟨_, rfl⟩
      rw [hz] at hc hc2 hc3 HC
      have HZ := hidOf hz
      clear hz hcell q0 q1 q2 hkl
      go_wp2_with fail
      refine ((HC _).out).mono ?_
      rintro e w1 ⟨rfl, hb1⟩
      have hB1 := bl_trans hB hb1
      clear HC hc hc2 hc3 hb1 hB
      have hcl := cnt_le z.1
      cases hok : okTm z
      · have HQ := hidOf (okF_stop HK.out HG.out (.inl (by rw [HZ.out]; exact hok)))
        rw [takes_no hok]
        clear hok
        go_wp2
        go_ret
        exact ⟨rbool HQ.out.symm, hB1⟩
      · rw [takes_yes hok]
        obtain ⟨c, hc⟩ : ∃ c, cntM z.1 = c := ⟨_, rfl⟩
        rw [hc] at hcl ⊢
        have hc0 : ¬ (c : Int) < 0 := by omega
        by_cases hmc : (m : Int) < (c : Int)
        · have HQ := hidOf (okF_stop HK.out HG.out (.inr (by rw [HZ.out, hc]; omega)))
          clear hok
          go_wp2
          go_ret
          exact ⟨rbool HQ.out.symm, hB1⟩
        · have HQ := hidOf (goN_step HK.out HG.out (by rw [HZ.out]; exact hok) (by rw [HZ.out, hc]; omega))
          rw [HZ.out, hc] at HQ
          clear hok
          go_wp2
          go_roundw
          case rel => exact ⟨k + 1, m - c + 1, by omega, by go_num, by go_num, HQ.out, by omega, hB1⟩
          case measure => simp [intOf]; omega
    · obtain rfl : k = n := by omega
      have hg : goN ts 0 = some m := by
        have := HG.out
        rwa [List.take_of_length_le (by rw [HL.out]; exact Nat.le_refl _)] at this
      by_cases h0 : k = 0
      · subst h0
        have hx : ts = [] := List.length_eq_zero_iff.1 HL.out
        subst hx
        have hm0 : m = 0 := by omega
        subst hm0
        go_wp2
        go_ret
        exact ⟨rfl, hB⟩
      · have hq := okF_end (f := ts) (by rintro rfl; have := HL.out; simp at this; omega) (by have := HL.out; omega) hg
        have hk0 : ((k : Int) == 0) = false := by simp; omega
        have HQ := hidOf hq
        clear hq hg
        by_cases hm1 : (m : Int) = 1
        · have e1 : ((m : Int) == 1) = true := by simp [hm1]
          go_wp2
          go_ret
          exact ⟨rbool (by rw [HQ.out]; simp [hm1]), hB⟩
        · have e1 : ((m : Int) == 1) = false := by simp [hm1]
          go_wp2
          go_ret
          exact ⟨rbool (by rw [HQ.out]; simp [hm1]), hB⟩
end Go.Proofs.YthbelehhhjngfaaDoor
