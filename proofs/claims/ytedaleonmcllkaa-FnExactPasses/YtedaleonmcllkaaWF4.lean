/-
  The specification's Passes, and the walk of the law on Passes.
-/
import Derived.Test.YtedaleonmcllkaaSpF4
import Derived.Test.YtedaleonmcllkaaLF2
import Derived.Deep.RegionHeld3
namespace Go.Proofs.Ytedaleonmcllkaa
open Go.RowKit Pl Il

set_option maxHeartbeats 1000000 in
theorem specPasses_any (a : Option Addr) (m cap : Nat) (ts : List Tm) (k n : Int) (s : ByteArray) (w : World) (hI : TmAt w a m ts) (hm : m ≤ 9223372036854775807) (hs : s.size ≤ maxLen) :
    Calls Try.prog 16 #[.slice a m cap, .agg #[.int .i64 k, .int .i64 n, .string s]] w fun e w' => e = .returned (.bool (passM ts k n s)) ∧ Below w.heap.size w w' := by
  obtain ⟨W0, hW0⟩ : ∃ W, W = w.alloc (.cells #[.int .i64 k, .int .i64 n, .string s] 26) := ⟨_, rfl⟩
  have b0 : Below w.heap.size w W0 := by rw [hW0]; exact bl_alloc (Below.refl _ _) _
  have x0 : Box3 w.heap.size (.int .i64 k) (.int .i64 n) (.string s) W0 := by rw [hW0]; exact Box3.new w _ _ _ _
  have HF := hidOf (specFilterOk_any a m cap ts W0 (hI.keep b0) hm)
  have HX := hidOf x0
  have HB0 := hidOf b0
  have HI := hidOf (hI.keep b0)
  clear hI b0 x0
  cases hok : okF ts
  · have HQ := hidOf (show passM ts k n s = false by simp [passM, hok])
    rw [hok] at HF
    clear hok
    go_enter Try.func16, Try.ntmps16
    go_wp2_with fail
    rw [← hW0]
    clear hW0
    refine (HF.out).mono ?_
    rintro e w1 ⟨rfl, hb1⟩
    have HB1 := hidOf (bl_trans HB0.out hb1)
    clear hb1 HF HB0
    go_wp2
    go_ret
    exact ⟨rbool HQ.out.symm, HB1.out⟩
  rw [hok] at HF
  have HOK := hidOf hok
  clear hok
  go_enter Try.func16, Try.ntmps16
  go_wp2_with fail
  rw [← hW0]
  clear hW0
  refine (HF.out).mono ?_
  rintro e w1 ⟨rfl, hb1⟩
  have HX1 := hidOf (HX.out.keep hb1)
  have HI1 := hidOf (HI.out.keep hb1)
  have HB1 := hidOf (bl_trans HB0.out hb1)
  clear hb1 HF HB0 HX HI
  obtain ⟨_, p0, p1, p2, pf⟩ := id HX1.out
  go_wp2_with fail
  refine (specMsgOk_any k n s _ hs).mono ?_
  rintro e w2 ⟨rfl, hb2⟩
  have HX2 := hidOf (HX1.out.keep hb2)
  have HI2 := hidOf (HI1.out.keep hb2)
  have HB2 := hidOf (bl_trans HB1.out hb2)
  clear hb2 HB1 HX1 HI1 p0 p1 p2 pf
  cases ho : okB k n s
  · have HQ := hidOf (show passM ts k n s = false by simp [passM, ho])
    clear ho
    go_wp2
    go_ret
    exact ⟨rbool HQ.out.symm, HB2.out⟩
  · have HQ := hidOf (show passM ts k n s = passP ts (bdOf k n s) by simp [passM, HOK.out, ho])
    have HC := hidOf (l8Left_any a m cap ts k n s w2 HI2.out HOK.out ho)
    obtain ⟨_, p0, p1, p2, pf⟩ := id HX2.out
    clear ho
    go_wp2_with fail
    refine (HC.out).mono ?_
    rintro e w3 ⟨rfl, hb3⟩
    have HB3 := hidOf (bl_trans HB2.out hb3)
    clear hb3 HC HB2 p0 p1 p2 pf
    go_wp2
    go_ret
    exact ⟨rbool HQ.out.symm, HB3.out⟩
abbrev LwM (w : World) (k n : Int) (s : ByteArray) (w' : World) : Prop :=
  w'.cell? ⟨w.heap.size, 0, none⟩ = some (.int .i64 k) ∧ w'.cell? ⟨w.heap.size, 1, none⟩ = some (.int .i64 n) ∧ w'.cell? ⟨w.heap.size, 2, none⟩ = some (.string s) ∧ Below w.heap.size w w'
theorem LwM.keep {w : World} {k n : Int} {s : ByteArray} {u u' : World} (h : LwM w k n s u) (hb : Below u.heap.size u u') : LwM w k n s u' :=
  ⟨cellH h.1 hb, cellH h.2.1 hb, cellH h.2.2.1 hb, bl_trans h.2.2.2 hb⟩
theorem LwM.drew {w : World} {k n : Int} {s : ByteArray} {u : World} (h : LwM w k n s u) : LwM w k n s u.drew := h.keep (Below.refl _ _).drew
theorem LwM.below4 {w : World} {k n : Int} {s : ByteArray} {u : World} (h : LwM w k n s u) : Below w.heap.size w u := h.2.2.2
set_option maxRecDepth 100000 in
set_option maxHeartbeats 4000000 in
theorem exactPasses_any (a : Option Addr) (m cap : Nat) (k n : Int) (s : ByteArray) (w : World) (hm : m ≤ 9223372036854775807) (hA : ∃ ts, TmAt w a m ts) (hs : s.size ≤ maxLen) (hG : GOk w) :
    Calls Try.prog 6 #[.slice a m cap, .agg #[.int .i64 k, .int .i64 n, .string s]] w fun e w' => e = .returned (.bool true) ∧ Below w.heap.size w w' := by
  obtain ⟨ts, hI⟩ := hA
  obtain ⟨W0, hW0⟩ : ∃ W, W = w.alloc (.cells #[.int .i64 k, .int .i64 n, .string s] 45) := ⟨_, rfl⟩
  have b0 : Below w.heap.size w W0 := by rw [hW0]; exact bl_alloc (Below.refl _ _) _
  have x0 : Box3 w.heap.size (.int .i64 k) (.int .i64 n) (.string s) W0 := by rw [hW0]; exact Box3.new w _ _ _ _
  have HX := hidOf x0
  have HB0 := hidOf b0
  have HI := hidOf hI
  have HG := hidOf hG
  clear hI b0 x0 hG
  go_enter Try.func6, Try.ntmps6
  go_wp2_with fail
  rw [← hW0]
  clear hW0
  refine (szTermS_any a m cap ts _ _ (HI.out.keep HB0.out) hm (by omega) (by omega)).mono ?_
  rintro e w1 ⟨⟨q, rfl, hq⟩, hb1⟩
  have HX1 := hidOf (HX.out.keep hb1)
  have HB1 := hidOf (bl_trans HB0.out hb1)
  clear hb1 HX HB0
  rcases hq with hq | ⟨hq, hq2, hmm⟩
  · go_wp2
    go_ret
    exact ⟨rfl, HB1.out⟩
  have hq' : ¬ q < 0 := by omega
  obtain ⟨_, p0, p1, p2, pf⟩ := id HX1.out
  go_wp2_with fail
  refine (szMsg_any k n q s _ hs hq hq2).mono ?_
  rintro e w2 ⟨hk, hb2⟩
  have hv : ∃ j : Int, e = .returned (.int .i64 j) := by
    rcases hk with ⟨_, rfl⟩ | ⟨_, rfl⟩
    · exact ⟨_, rfl⟩
    · exact ⟨_, rfl⟩
  obtain ⟨j, rfl⟩ := hv
  have HX2 := hidOf (HX1.out.keep hb2)
  have HB2 := hidOf (bl_trans HB1.out hb2)
  clear hb2 HB1 HX1 p0 p1 p2 pf hk hq hq2 hq'
  by_cases hj : j < 0
  · go_wp2
    go_ret
    exact ⟨rfl, HB2.out⟩
  have hS : LwM w k n s w2 := ⟨HX2.out.c0, HX2.out.c1, HX2.out.c2, HB2.out⟩
  clear HX2 HB2
  go_wp2_with fail
  go_region_held3 (fun w' => LwM w k n s w') (first | (exact hS.drew) | (exact LwM.keep (by assumption) (by assumption)))
    (first
      | (go_at_call 24; refine (toTermS_any a m cap ts _ (HI.out.keep (LwM.below4 (by assumption))) (by omega)).mono ?_; rintro e wt ⟨rfl, hot, hbt⟩)
      | (go_at_call 27; refine (toMsg_any k n s _).mono ?_; rintro e wm ⟨rfl, hbm⟩; first | (have hot2 := hot.keep hbm) | skip)
      | (go_at_call 16; refine (specPasses_any _ m m ts k n s _ (by first | exact hot2.tm | exact hot.tm) (by omega) hs).mono ?_; rintro e ws ⟨rfl, hbs⟩))
  all_goals
    rename_i hT
    have HT := hidOf hT
    clear hT hS
    (try clear hot2)
    (try clear hot)
    (try clear hbm)
    (try clear hbt)
    (try clear hbs)
    generalize hpm : passM ts k n s = l
    have HPM := hidOf hpm
    clear hpm
    go_wp2_with fail
    refine (toTermS_any a m cap ts _ (HI.out.keep HT.out.below4) (by omega)).mono ?_
    rintro e w4 ⟨rfl, ho4, hb4⟩
    have HO4 := hidOf ho4
    have HT4 := hidOf (HT.out.keep hb4)
    clear ho4 hb4 HT
    obtain ⟨p0, p1, p2, _⟩ := id HT4.out
    go_wp2_with fail
    refine (toMsg_any k n s _).mono ?_
    rintro e w5 ⟨rfl, hb5⟩
    have HO5 := hidOf (HO4.out.keep hb5)
    have HT5 := hidOf (HT4.out.keep hb5)
    clear hb5 HO4 HT4 p0 p1 p2
    go_wp2_with fail
    refine (implPasses_any _ m m ts k n s _ HO5.out.tm (by omega) hs (HG.out.keep HT5.out.below4)).mono ?_
    rintro e w6 ⟨rfl, hb6⟩
    have HO6 := hidOf (HO5.out.keep hb6)
    have HT6 := hidOf (HT5.out.keep hb6)
    clear hb6 HO5 HT5
    rw [HPM.out]
    go_wp2_with fail
    refine (toTermS_any a m cap ts _ (HI.out.keep HT6.out.below4) (by omega)).mono ?_
    rintro e w7 ⟨rfl, ho7, hb7⟩
    have HO7 := hidOf (HO6.out.keep hb7)
    have HP7 := hidOf ho7
    have HT7 := hidOf (HT6.out.keep hb7)
    clear hb7 ho7 HO6 HT6
    go_wp2_with fail
    refine (eqTermS_any _ _ m m m m ts ts _ HO7.out.tm HP7.out.tm (by omega) (by omega)).mono ?_
    rintro e w8 ⟨rfl, hb8⟩
    rw [eqFL_self]
    have HT8 := hidOf (HT7.out.keep hb8)
    clear hb8 HO7 HP7 HT7
    go_wp2
    go_ret
    exact ⟨rfl, HT8.out.below4⟩
end Go.Proofs.Ytedaleonmcllkaa
