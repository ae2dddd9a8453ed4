/-
  The program's filters: compiled.
-/
import Derived.Test.YthbelehhhjngfaaDoorBF3
import Derived.Deep.RegionHeld3
import Derived.Deep.RegionWith
namespace Go.Proofs.YthbelehhhjngfaaDoor
open Go.RowKit Pl Il

theorem cellH {w w' : World} {a : Addr} {v : Value} (h : w.cell? a = some v) (hb : Below w.heap.size w w') : w'.cell? a = some v := by
  rw [hb.cell (p := a) (World.block_lt_of_cell? w a h)]; exact h
/-- What the test of a round reads. -/
abbrev RdC (L X : Nat) (v : Value) (z : Tm) (u0 w : World) : Prop :=
  w.cell? ⟨L, 0, none⟩ = some v ∧ w.cell? ⟨X, 0, none⟩ = some (.int .i64 z.1) ∧ w.cell? ⟨X, 1, none⟩ = some (.int .i64 z.2.1) ∧ w.cell? ⟨X, 2, none⟩ = some (.string z.2.2) ∧ Below u0.heap.size u0 w
theorem RdC.keep {L X : Nat} {v : Value} {z : Tm} {u0 w w' : World} (h : RdC L X v z u0 w) (hb : Below w.heap.size w w') : RdC L X v z u0 w' :=
  ⟨cellH h.1 hb, cellH h.2.1 hb, cellH h.2.2.1 hb, cellH h.2.2.2.1 hb, bl_trans h.2.2.2.2 hb⟩
theorem RdC.drew {L X : Nat} {v : Value} {z : Tm} {u0 w : World} (h : RdC L X v z u0 w) : RdC L X v z u0 w.drew := h.keep (Below.refl _ _).drew
theorem passP_end {f : List Tm} (h : f ≠ []) : passP f = pg (runP f) 0 := by unfold passP; rw [if_neg h]
/-- What compiling answers. -/
def CompP (R : List Nat → World → Value → Pd → Prop) (ts : List Tm) (w : World) (e : Ending) (w' : World) : Prop :=
  ∃ x, e = .returned (.tuple #[x, .bool (okF ts)]) ∧ (okF ts = true → ∃ F, R F w' x (passP ts)) ∧ Below w.heap.size w w'
theorem compile_nil {R : List Nat → World → Value → Pd → Prop} (S : Sys R) (a : Option Addr) (cap : Nat) (w : World) :
    Calls Tryd.prog 37 #[.slice a 0 cap] w fun e w' => CompP R [] w e w' := by
  go_enter Tryd.func37, Tryd.ntmps37
  go_wp2
  first | go_ret | go_ret2
  exact ⟨_, rfl, fun _ => ⟨[], by rw [show passP [] = fun _ => true from rfl]; exact S.all w⟩, Below.refl _ _⟩
theorem compile_long {R : List Nat → World → Value → Pd → Prop} (a : Option Addr) (n cap : Nat) (ts : List Tm) (w : World) (hl : ts.length = n) (hn : n ≤ 9223372036854775807) (h : 12 < (n : Int)) :
    Calls Tryd.prog 37 #[.slice a n cap] w fun e w' => CompP R ts w e w' := by
  have hq := okF_long (f := ts) (by omega)
  have h0 : ((n : Int) == 0) = false := by simp; omega
  have HQ := hidOf hq
  clear hq hl
  go_enter Tryd.func37, Tryd.ntmps37
  go_wp2
  first | go_ret | go_ret2
  exact ⟨_, (by rw [HQ.out]; rfl), fun h => (by rw [HQ.out] at h; cases h), Below.refl _ _⟩
set_option maxHeartbeats 4000000 in
theorem compile_some {R : List Nat → World → Value → Pd → Prop} (S : Sys R) (a : Option Addr) (n cap : Nat) (ts : List Tm) (w : World) (hI : TmAt w a n ts) (h0 : 0 < n) (h : n ≤ 12) :
    Calls Tryd.prog 37 #[.slice a n cap] w fun e w' => CompP R ts w e w' := by
  obtain ⟨hlen, hsh, hr⟩ := hI
  have e0 : ((n : Int) == 0) = false := by simp; omega
  have e1 : ¬ 12 < (n : Int) := by omega
  have HS := hidOf hsh
  have HL := hidOf hlen
  have HR := hidOf hr
  have hst : Stk R w w.heap.size (.slice none 0 0) [] [] (w.alloc (.cells #[.slice none 0 0] 76)) :=
    ⟨bl_alloc (Below.refl _ _) _, Nat.le_refl _, new_blk w _ _, World.ownsRow_nil _ _ _ _, rfl, fun i hi => by simp at hi⟩
  have HST := hidOf hst
  clear hsh hlen hr hst
  go_enter Tryd.func37, Tryd.ntmps37
  go_wp2_with fail
  go_loopw [15] (fun i wr => ∃ (k m : Nat) (v : Value) (vs : List Value), k ≤ n ∧ i = .int .i64 k ∧ goN (ts.take k) 0 = some m ∧ vs.length = m ∧ Stk R w w.heap.size v vs (runP (ts.take k)) wr) (fun i _ => n - (intOf i).toNat)
  case atStart => exact ⟨0, 0, _, [], Nat.zero_le _, rfl, rfl, rfl, HST.out⟩
  case round =>
    rename_i wr
    obtain ⟨k, m, v, vs, hk, rfl, hgo, hvm, hS⟩ := hrel
    have HG := hidOf hgo
    clear hgo HST
    obtain ⟨hc, hlt, hfr⟩ := blk_cell hS.blk
    have hform : ∃ q c, v = .slice q m c := by
      obtain ⟨_, ⟨rfl, h⟩ | ⟨g, cp, cur, rfl, _⟩⟩ := id hS.row
      · exact ⟨_, _, by rw [← hvm, h]⟩
      · exact ⟨_, _, by rw [← hvm]⟩
    obtain ⟨q, c, rfl⟩ := hform
    by_cases hkn : k < n
    · have hkl : k < ts.length := by rw [HL.out]; exact hkn
      have hm12 : m ≤ 12 := by have := goN_le _ _ _ HG.out; simp at this; omega
      obtain hr | ⟨b, off, rfl, hb, hcell⟩ := HR.out
      · omega
      obtain ⟨q0, q1, q2⟩ := hcell k hkn
      have hB := hS.below
      have hc1 := cellH q0 hB
      have hc2 := cellH q1 hB
      have hc3 := cellH q2 hB
      have hz3 := HS.out _ (qg_mem hkl)
      have HK := hidOf hkl
      obtain ⟨z, hz⟩ : ∃ z, qg ts k = z := ⟨_, rfl⟩
      rw [hz] at hc1 hc2 hc3 hz3
      have HZ := hidOf hz
      obtain ⟨W, hW⟩ : ∃ W, W = wr.alloc (.cells #[.int .i64 z.1, .int .i64 z.2.1, .string z.2.2] 56) := ⟨_, rfl⟩
      have bW : Below wr.heap.size wr W := by rw [hW]; exact bl_alloc (Below.refl _ _) _
      have xW : Box3 wr.heap.size (.int .i64 z.1) (.int .i64 z.2.1) (.string z.2.2) W := by rw [hW]; exact Box3.new wr _ _ _ _
      have hSW := hidOf (hS.keep S bW)
      have hRd : RdC w.heap.size wr.heap.size (.slice q m c) z W W := ⟨cellH hc bW, xW.c0, xW.c1, xW.c2, Below.refl _ _⟩
      have hcl := cnt_le z.1
      have HC1 := fun u => hidOf (termOk_any z u hz3)
      have HC2 := fun u => hidOf (countTaken_any z.1 u)
      clear hz hcell q0 q1 q2 hkl bW xW hB hfr hS
      cases hok : okTm z
      · have HQ := hidOf (okF_stop HK.out HG.out (.inl (by rw [HZ.out]; exact hok)))
        rw [hok] at HC1
        go_wp2_with fail
        rw [← hW]
        clear hW
        first | (go_region_with (first | (go_at_call 41; refine ((HC1 _).out).mono ?_; rintro e w1 ⟨rfl, hb1⟩; have hS2 := hSW.out.keep S ((Below.refl _ _).drew.trans hb1); have HB2 := hidOf hS2.below; clear hb1 hS2))) | fail
        all_goals (try go_wp2)
        all_goals (first | go_ret | go_ret2)
        all_goals exact ⟨_, (by rw [HQ.out]; rfl), fun h => (by rw [HQ.out] at h; cases h), HB2.out⟩
      · rw [hok] at HC1
        obtain ⟨d, hd⟩ : ∃ d, cntM z.1 = d := ⟨_, rfl⟩
        rw [hd] at hcl HC2
        by_cases hmd : (m : Int) < (d : Int)
        · have HQ := hidOf (okF_stop HK.out HG.out (.inr (by rw [HZ.out, hd]; omega)))
          go_wp2_with fail
          rw [← hW]
          clear hW
          go_region_held3 (fun w' => RdC w.heap.size wr.heap.size (.slice q m c) z W w') (first | (exact hRd.drew) | assumption | (exact RdC.keep (by assumption) (by assumption))) (first | (go_at_call 41; refine ((HC1 _).out).mono ?_; rintro e w1 ⟨rfl, hb1⟩) | (go_at_call 42; refine ((HC2 _).out).mono ?_; rintro e w1 ⟨rfl, rfl⟩))
          rename_i hT
          have hS2 := hSW.out.keep S hT.2.2.2.2
          go_wp2
          first | go_ret | go_ret2
          exact ⟨_, (by rw [HQ.out]; rfl), fun h => (by rw [HQ.out] at h; cases h), hS2.below⟩
        · have HQ := hidOf (goN_step HK.out HG.out (by rw [HZ.out]; exact hok) (by rw [HZ.out, hd]; omega))
          rw [HZ.out, hd] at HQ
          have HP := hidOf (runP_step HK.out)
          rw [HZ.out] at HP
          go_wp2_with fail
          rw [← hW]
          clear hW
          go_region_held3 (fun w' => RdC w.heap.size wr.heap.size (.slice q m c) z W w') (first | (exact hRd.drew) | assumption | (exact RdC.keep (by assumption) (by assumption))) (first | (go_at_call 41; refine ((HC1 _).out).mono ?_; rintro e w1 ⟨rfl, hb1⟩) | (go_at_call 42; refine ((HC2 _).out).mono ?_; rintro e w1 ⟨rfl, rfl⟩))
          rename_i w2 hT
          have hS2 := hSW.out.keep S hT.2.2.2.2
          have HA := hidOf (add_any S w w.heap.size _ vs _ z _ hS2 hok (by rw [hvm, hd]; omega) hz3 (by omega))
          obtain ⟨_, t0, t1, t2, _⟩ := hT
          clear hS2 hRd HC1 HC2 hok
          go_wp2_with fail
          refine (HA.out).mono ?_
          rintro e w3 ⟨rfl, v3, vs3, hS3⟩
          have hl3 := hS3.len
          have HS3 := hidOf hS3
          clear HA hS3 t0 t1 t2
          go_wp2
          go_roundw
          case rel =>
            refine ⟨k + 1, m - d + 1, v3, vs3, by omega, by go_num, HQ.out, ?_, by rw [HP.out]; exact HS3.out⟩
            have e := runP_len (f := ts) (k := k + 1) (by have := HL.out; omega) HQ.out
            rw [← e, HP.out, hl3]
          case measure => simp [intOf]; omega
    · obtain rfl : k = n := by omega
      have hT : ts.take k = ts := List.take_of_length_le (by rw [HL.out]; exact Nat.le_refl _)
      have hg : goN ts 0 = some m := by have := HG.out; rwa [hT] at this
      have hpos : 1 ≤ m := goN_pos (f := ts) (k := k) (by omega) (by rw [HL.out]; exact Nat.le_refl _) HG.out
      have hne : ts ≠ [] := by rintro rfl; have := HL.out; simp at this; omega
      have HQ := hidOf (okF_end (f := ts) hne (by have := HL.out; omega) hg)
      rw [hT] at hS
      obtain ⟨g, cp, hv, _, _⟩ := hS.row.form (by omega)
      rw [hvm] at hv
      cases hv
      obtain ⟨F, hR, _⟩ := hS.rep 0 (by omega)
      have hx : wr.cell? ⟨g, 0, none⟩ = some (vs.getD 0 .nilFunc) := by
        have hrow := hS.row
        rw [hvm] at hrow
        rw [hrow.cellAt 0 (by omega)]
        have : 0 < vs.length := by omega
        simp [List.getD, List.getElem?_eq_getElem this]
      have HF := hidOf (And.intro hR hS.below)
      have HP := hidOf (passP_end hne)
      obtain ⟨kx, cx, hfx⟩ := S.isfn hR
      rw [hfx] at hx HF
      clear hS hR hg hT hfx hvm
      by_cases hm1 : (m : Int) = 1
      · have ee : ((m : Int) == 1) = true := by simp [hm1]
        have HM := hidOf (HQ.out.trans (by simp [hm1] : _ = true))
        clear hm1
        go_wp2_with fail
        go_region
        all_goals (try go_wp2)
        all_goals (first | go_ret | go_ret2)
        all_goals exact ⟨_, (by rw [HM.out]; rfl), fun _ => ⟨F, by rw [HP.out]; exact S.frame HF.out.1 (Nat.le_refl _) (fun _ _ => rfl)⟩, HF.out.2.drew⟩
      · have ee : ((m : Int) == 1) = false := by simp [hm1]
        have HM := hidOf (HQ.out.trans (by simp [hm1] : _ = false))
        clear hm1
        go_wp2_with fail
        go_region
        all_goals (try go_wp2)
        all_goals (first | go_ret | go_ret2)
        all_goals exact ⟨_, (by rw [HM.out]; rfl), fun h => (by rw [HM.out] at h; cases h), HF.out.2.drew⟩
theorem compile_any {R : List Nat → World → Value → Pd → Prop} (S : Sys R) (a : Option Addr) (n cap : Nat) (ts : List Tm) (w : World) (hI : TmAt w a n ts) (hn : n ≤ 9223372036854775807) :
    Calls Tryd.prog 37 #[.slice a n cap] w fun e w' => CompP R ts w e w' := by
  rcases Nat.eq_zero_or_pos n with rfl | h0
  · obtain rfl : ts = [] := List.length_eq_zero_iff.1 hI.len
    exact compile_nil S a cap w
  · by_cases h : n ≤ 12
    · exact compile_some S a n cap ts w hI h0 h
    · exact compile_long a n cap ts w hI.len hn (by omega)
end Go.Proofs.YthbelehhhjngfaaDoor
