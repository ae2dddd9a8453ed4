/-
  Walks of the specification's tokens: the same ones.
-/
import Derived.Test.YtgklnpkeffobnaaBB8
import Derived.Test.YtgklnpkeffobnaaKB
namespace Go.Proofs.Ytgklnpkeffobnaa
open Go.RowKit Pl Il

set_option maxRecDepth 100000 in
theorem l15Tokens_same (a : Option Addr) (n c : Nat) (ps : List Int) (a' : Option Addr) (n' c' : Nat) (qs : List Bool) (b : Option Addr) (d : Nat) (b' : Option Addr) (d' : Nat) (w : World) (hT : TokIn w a n ps a' n' qs) (hU : TokIn w b n ps b' n' qs) (hn : n ≤ 2097152) (hn' : n' ≤ 2097152) :
    Calls Try.prog 44 #[.agg #[.slice a n c, .slice a' n' c'], .agg #[.slice b n d, .slice b' n' d']] w fun e w' => e = .returned (.bool true) ∧ Below w.heap.size w w' := by
  generalize hW0 : w.alloc (.cells #[.slice a n c, .slice a' n' c'] 27) = W0
  generalize hW1 : W0.alloc (.cells #[.slice b n d, .slice b' n' d'] 27) = W1
  have B0 : Below w.heap.size w W0 := by subst hW0; exact bl_alloc (Below.refl _ _) _
  have B1 : Below w.heap.size w W1 := by subst hW1; exact bl_alloc B0 _
  have s0 : W0.heap.size = w.heap.size + 1 := by subst hW0; simp
  have x0 : Box2 w.heap.size (.slice a n c) (.slice a' n' c') W1 := by subst hW1 hW0; exact (Box2.new w _ _ _).alloc _
  have x1 : Box2 (w.heap.size + 1) (.slice b n d) (.slice b' n' d') W1 := by subst hW1; rw [← s0]; exact Box2.new W0 _ _ _
  have HI := hidOf (l15Ints_any a b n n c d ps ps W1 (hT.ints.keep B1) (hU.ints.keep B1) hn hn)
  have HX0 := hidOf x0
  have HX1 := hidOf x1
  have HB := hidOf B1
  have HQ := hidOf hT.bools
  have HR := hidOf hU.bools
  obtain ⟨_, p0, p1, _⟩ := x0
  obtain ⟨_, q0, q1, _⟩ := x1
  clear hT hU B0 B1
  go_enter Try.func44, Try.ntmps44
  go_wp2_with fail
  refine HI.out.mono ?_
  rintro e w1 ⟨rfl, hb1⟩
  have eL : eqL ps ps = true := by simp [eqL]
  rw [eL]
  have y0 := HX0.out.keep hb1
  have y1 := HX1.out.keep hb1
  have HB1 := hidOf (bl_trans HB.out hb1)
  have HY0 := hidOf y0
  have HY1 := hidOf y1
  obtain ⟨_, r0, r1, _⟩ := y0
  obtain ⟨_, t0, t1, _⟩ := y1
  have hnn : ((n' : Int) != (n' : Int)) = false := by simp
  clear p0 p1 q0 q1 hb1 HI HX0 HX1 HB
  go_wp2
  clear r0 r1 t0 t1
  go_loopw [5] (fun i wr => ∃ k : Nat, k ≤ n' ∧ i = .int .i64 k ∧ ∃ q, wr = w1.drewN q) (fun i _ => n' - (intOf i).toNat)
  case atStart => exact ⟨0, Nat.zero_le _, rfl, 0, rfl⟩
  case round =>
    obtain ⟨k, hk, rfl, q, rfl⟩ := hrel
    obtain ⟨_, r0, r1, _⟩ := HY0.out
    obtain ⟨_, t0, t1, _⟩ := HY1.out
    by_cases hlt : k < n'
    · have hki : (k : Int) < (n' : Int) := by omega
      rcases (HQ.out.keep HB1.out).row with h | ⟨g, o, rfl, _, hcell⟩
      · omega
      rcases (HR.out.keep HB1.out).row with h | ⟨g', o', rfl, _, hcell'⟩
      · omega
      have hc := hcell k hlt
      have hc' := hcell' k hlt
      generalize qs.getD k false = y at hc hc'
      have hyy : (y != y) = false := by simp
      clear hcell hcell'
      go_wp2_with fail
      go_quiet (fail)
      go_wp2
      go_roundw
      case rel => exact ⟨k + 1, by omega, by go_num, _, rfl⟩
      case measure => simp [intOf]; omega
    · have hki : ¬ (k : Int) < (n' : Int) := by omega
      have hE := bl_drewN HB1.out q
      go_wp2
      go_ret
      exact ⟨rfl, hE⟩
theorem tokensSame_any (a : Option Addr) (n c : Nat) (ps : List Int) (a' : Option Addr) (n' c' : Nat) (qs : List Bool) (b : Option Addr) (d : Nat) (b' : Option Addr) (d' : Nat) (w : World) (hT : TokIn w a n ps a' n' qs) (hU : TokIn w b n ps b' n' qs) (hn : n ≤ 2097152) (hn' : n' ≤ 2097152) :
    Calls Try.prog 13 #[.agg #[.slice a n c, .slice a' n' c'], .agg #[.slice b n d, .slice b' n' d']] w fun e w' => e = .returned (.bool true) ∧ Below w.heap.size w w' := by
  have B1 : Below w.heap.size w ((w.alloc (.cells #[.slice a n c, .slice a' n' c'] 27)).alloc (.cells #[.slice b n d, .slice b' n' d'] 27)) := bl_alloc (bl_alloc (Below.refl _ _) _) _
  have HC := hidOf (l15Tokens_same a n c ps a' n' c' qs b d b' d' _ (hT.keep B1) (hU.keep B1) hn hn')
  have HB := hidOf B1
  clear hT hU B1
  go_enter Try.func13, Try.ntmps13
  go_wp2_with fail
  refine HC.out.mono ?_
  rintro e w1 ⟨rfl, hb⟩
  go_wp2
  go_ret
  exact ⟨rfl, bl_trans HB.out hb⟩
end Go.Proofs.Ytgklnpkeffobnaa
