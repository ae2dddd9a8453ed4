/-
  The specification's Passes, and the walk of the law on Passes.
-/
import Derived.Test.YtigmcbgcdjofjabSpF4
import Derived.Test.YtigmcbgcdjofjabLF2
import Derived.Deep.RegionHeld3
namespace Go.Proofs.Ytigmcbgcdjofjab
open Go.RowKit Pl Il

set_option maxHeartbeats 1000000 in
theorem specPasses_any (a : Option Addr) (m cap : Nat) (ts : List Tm) (k n : Int) (s : ByteArray) (w : World) (hI : TmAt w a m ts) (hm : m ≤ 9223372036854775807) (hs : s.size ≤ maxLen) :
    Calls Try.prog 22 #[.slice a m cap, .agg #[.int .i64 k, .int .i64 n, .string s]] w fun e w' => e = .returned (.bool (passM ts k n s)) ∧ Below w.heap.size w w' := by
  obtain ⟨W0, hW0⟩ : ∃ W, W = w.alloc (.cells #[.int .i64 k, .int .i64 n, .string s] 36) := ⟨_, rfl⟩
  have b0 : Below w.heap.size w W0 := by rw [hW0]; exact bl_alloc (Below.refl _ _) _
  have x0 : Box3 w.heap.size (.int .i64 k) (.int .i64 n) (.string s) W0 := by rw [hW0]; exact Box3.new w _ _ _ _
  have HF := hidOf (specFilterOk_any a m cap ts W0 (hI.keep b0) hm)
  have HX := hidOf x0
  have HB0 := hidOf b0
  have HI := hidOf (hI.keep b0)
  clear hI b0 x0
  cases hok : okF ts
  · have HQ := hidOf (show passM ts k n s = false by simp [passM, hok])
    rw [hok] at HF
    clear hok
    go_enter Try.func22, Try.ntmps22
    go_wp2_with fail
    rw [← hW0]
    clear hW0
    refine (HF.out).mono ?_
    rintro e w1 ⟨rfl, hb1⟩
    have HB1 := hidOf (bl_trans HB0.out hb1)
    clear hb1 HF HB0
    go_wp2
    go_ret
    exact ⟨rbool HQ.out.symm, HB1.out⟩
  rw [hok] at HF
  have HOK := hidOf hok
  clear hok
  go_enter Try.func22, Try.ntmps22
  go_wp2_with fail
  rw [← hW0]
  clear hW0
  refine (HF.out).mono ?_
  rintro e w1 ⟨rfl, hb1⟩
  have HX1 := hidOf (HX.out.keep hb1)
  have HI1 := hidOf (HI.out.keep hb1)
  have HB1 := hidOf (bl_trans HB0.out hb1)
  clear hb1 HF HB0 HX HI
  obtain ⟨_, p0, p1, p2, pf⟩ := id HX1.out
  go_wp2_with fail
  refine (specMsgOk_any k n s _ hs).mono ?_
  rintro e w2 ⟨rfl, hb2⟩
  have HX2 := hidOf (HX1.out.keep hb2)
  have HI2 := hidOf (HI1.out.keep hb2)
  have HB2 := hidOf (bl_trans HB1.out hb2)
  clear hb2 HB1 HX1 HI1 p0 p1 p2 pf
  cases ho : okB k n s
  · have HQ := hidOf (show passM ts k n s = false by simp [passM, ho])
    clear ho
    go_wp2
    go_ret
    exact ⟨rbool HQ.out.symm, HB2.out⟩
  · have HQ := hidOf (show passM ts k n s = passP ts (bdOf k n s) by simp [passM, HOK.out, ho])
    have HC := hidOf (l8Left_any a m cap ts k n s w2 HI2.out HOK.out ho)
    obtain ⟨_, p0, p1, p2, pf⟩ := id HX2.out
    clear ho
    go_wp2_with fail
    refine (HC.out).mono ?_
    rintro e w3 ⟨rfl, hb3⟩
    have HB3 := hidOf (bl_trans HB2.out hb3)
    clear hb3 HC HB2 p0 p1 p2 pf
    go_wp2
    go_ret
    exact ⟨rbool HQ.out.symm, HB3.out⟩
end Go.Proofs.Ytigmcbgcdjofjab
