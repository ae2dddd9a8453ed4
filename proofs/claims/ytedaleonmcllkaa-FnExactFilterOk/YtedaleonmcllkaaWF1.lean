/-
  Walk of the law on FilterOk.
-/
import Derived.Test.YtedaleonmcllkaaBF5
import Derived.Test.YtedaleonmcllkaaSpF1
import Derived.Test.YtedaleonmcllkaaLF2
namespace Go.Proofs.Ytedaleonmcllkaa
open Go.RowKit Pl Il

set_option maxHeartbeats 1000000 in
theorem exactFilterOk_any (a : Option Addr) (n cap : Nat) (w : World) (hn : n ≤ 9223372036854775807) (hA : ∃ ts, TmAt w a n ts) :
    Calls Try.prog 5 #[.slice a n cap] w fun e w' => e = .returned (.bool true) ∧ Below w.heap.size w w' := by
  obtain ⟨ts, hI⟩ := hA
  have HI := hidOf hI
  clear hI
  go_enter Try.func5, Try.ntmps5
  go_wp2_with fail
  refine (szTermS_any a n cap ts _ _ HI.out hn (by omega) (by omega)).mono ?_
  rintro e w0 ⟨⟨k, rfl, hk⟩, hb0⟩
  rcases hk with hk | ⟨hk, _, hnn⟩
  · go_wp2
    go_ret
    exact ⟨rfl, hb0⟩
  · have hk' : ¬ k < 0 := by omega
    clear hk
    go_wp2_with fail
    refine (toTermS_any a n cap ts _ (HI.out.keep hb0) (by omega)).mono ?_
    rintro e w1 ⟨rfl, ho1, hb1⟩
    have hbA := bl_trans hb0 hb1
    clear hb0 hb1
    go_wp2_with fail
    refine (specFilterOk_any _ n n ts _ ho1.tm (by omega)).mono ?_
    rintro e w2 ⟨rfl, hb2⟩
    have hbB := bl_trans hbA hb2
    clear ho1 hb2 hbA
    go_wp2_with fail
    refine (toTermS_any a n cap ts _ (HI.out.keep hbB) (by omega)).mono ?_
    rintro e w3 ⟨rfl, ho3, hb3⟩
    have hbC := bl_trans hbB hb3
    clear hb3 hbB
    go_wp2_with fail
    refine (implFilterOk_any _ n n ts _ ho3.tm (by omega)).mono ?_
    rintro e w4 ⟨rfl, hb4⟩
    have hbD := bl_trans hbC hb4
    have ho4 := ho3.keep hb4
    clear hb4 hbC ho3
    generalize okF ts = l
    go_wp2_with fail
    refine (toTermS_any a n cap ts _ (HI.out.keep hbD) (by omega)).mono ?_
    rintro e w5 ⟨rfl, ho5, hb5⟩
    have hbE := bl_trans hbD hb5
    have ho4' := ho4.keep hb5
    clear hb5 hbD ho4
    go_wp2_with fail
    refine (eqTermS_any _ _ n n n n ts ts _ ho4'.tm ho5.tm (by omega) (by omega)).mono ?_
    rintro e w6 ⟨rfl, hb6⟩
    rw [eqFL_self]
    have hbF := bl_trans hbE hb6
    clear hb6 hbE ho4' ho5
    go_wp2
    go_ret
    exact ⟨rfl, hbF⟩
end Go.Proofs.Ytedaleonmcllkaa
