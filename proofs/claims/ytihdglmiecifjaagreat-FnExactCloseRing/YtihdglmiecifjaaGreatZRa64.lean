/-
  Proved: at every ring the law on CloseRing answers true (the program's CloseRing answers as its specification, and writes into no argument), and the arguments read afterwards as they read before. No condition.
-/
import Derived.Test.YtihdglmiecifjaaGreatZRa0
import Derived.Test.YtihdglmiecifjaaGreatZRa59
import Derived.Test.YtihdglmiecifjaaGreatZRa63
import Derived.Test.YtihdglmiecifjaaGreatZRa61
import Derived.Test.YtihdglmiecifjaaGreatZRa11
import Derived.ProofKit
import Derived.OpenShut
import Derived.ChangeOld
import Derived.Lib.SmallJoins
namespace Go.Proofs.YtihdglmiecifjaaGreat
open Go.ChangeShapes Go.WideShapes Go.ChangeAt Go.RowKit Go.Joins

theorem own : ownKnob Tryz.prog.godebug = none := by kernel_rfl
theorem laidOut : laidOutB Tryz.prog = true := js1

set_option maxRecDepth 100000 in
theorem lifted (os : Os) (started : os.Started) (H : Type) (enc : TypeId × Value → H) :
    ReturnsInHanded {} Tryz.checked os 14 .any (Rows.fnExactCloseRingSpec.pre6 enc Tryz.prog Tryz.f14 Rows.fnExactCloseRingRow.domain false) (Rows.fnExactCloseRingSpec.post enc Tryz.prog Tryz.f14 false true false false) := by
  refine returnsInHanded_of_change (C := Tryz.checked) own started (by kernel_rfl) Tryz.func14
    (ChangeSpec.witness6 (enc := enc) (C := Tryz.checked) false ⟨#[], #[.agg #[.int .i64 0, .int .i64 0, .slice none 0 0, .int .i64 0, .slice none 0 0, .slice none 0 0, .slice none 0 0, .bool false]], []⟩ 8 (by kernel_rfl) (by kernel_rfl) (by kernel_rfl) (by kernel_rfl)) ?_
  intro W base args ds gs before hval0 hW hcnd _
  have hval : ∀ (j : Nat) t v, Tryz.f14.params[j]? = some t → args[j]? = some v → Value.okWide Tryz.prog W .any base t v := hval0
  have hW' := hW
  obtain ⟨p, q, hA0, hV, rfl, hfz, hnd⟩ := hW
  have hA : DataW.TrodAll enc Tryz.prog W 0 (fun _ => true) true Tryz.f14.params.toList args.toList ds p := hA0
  rw [Tryz.params14] at hA hval
  obtain ⟨v0, vs0, d0, ds0, p0, q0, hargs, rfl, rfl, h0, r0⟩ := trodAll_cons hA
  obtain ⟨rfl, rfl, rfl⟩ := trodAll_nil r0
  obtain rfl : args = #[v0] := by cases args; simp_all
  obtain ⟨rfl, rfl⟩ := trodVars_none hV
  have k0 := h0
  have lt0 : ∀ x ∈ p0, x.block < W.heap.size := by obtain ⟨m, hm⟩ := k0; exact DataW.trod_lt m _ _ _ hm
  obtain ⟨M, x, rfl, hm, hi, hw⟩ := ring_arg (hval 0 68 v0 rfl rfl) h0
  clear hA0 hval0
  refine (exactCloseRing_of x (cloR x) (cloT x) (cloC x) (fun M w hI hl hC => specClose_any M x w hI hl hC hw) (fun M w hI hl hC => implClose_any M x w hI hl hC hw) M W hi hm).mono fun e W' ⟨he, bel⟩ => ?_
  subst he
  exact ⟨_, rfl, _, _, _, [], _, [], hW', trodAll_mk1 (shut_bool Tryz.underlying4 _), (trodAll_cons_mk (Below.trod laidOut (by kernel_rfl) (of_decide_eq_true (by kernel_rfl)) k0 bel lt0) trodAll_mk0), rfl, bel.frame _, fun h => by cases h⟩

theorem jf0 : (Rows.fnExactCloseRingRow.wf (OpenSpec.ofChange Rows.fnExactCloseRingSpec)) = true := by kernel_rfl
theorem jf3 : (Tryz.f14.params.all (Tryz.prog.readableRec ·)) = true := by kernel_rfl
theorem jf4 : (namedTie Tryz.prog Rows.fnExactCloseRingRow.named Rows.fnExactCloseRingSpec.vars) = true := by kernel_rfl
theorem jf5 : ((Rows.fnExactCloseRingRow.stops == [])) = true := by kernel_rfl
theorem jf7 : ((Rows.fnExactCloseRingRow.knobs == [])) = true := by kernel_rfl
theorem jf9 : ((Rows.fnExactCloseRingRow.inPlace == Tryz.prog.inPlace 14)) = true := by kernel_rfl
theorem jf10 : ((Rows.fnExactCloseRingRow.unfollowed == Tryz.prog.unfollowed 14)) = true := by kernel_rfl
theorem jf11 : ((Rows.fnExactCloseRingRow.recurses == Tryz.prog.recurses 14)) = true := by kernel_rfl
theorem jf12 : ((Rows.fnExactCloseRingRow.named == Tryz.prog.varsNamed 14)) = true := by kernel_rfl
theorem jf13 : ((Rows.fnExactCloseRingRow.maps == (Tryz.f14.params.toList ++ Rows.fnExactCloseRingSpec.plain.varTypes Tryz.prog).any (Tryz.prog.mapsRec ·))) = true := by kernel_rfl
theorem jf14 : ((Rows.fnExactCloseRingRow.ifaces == (Tryz.f14.params.toList ++ Rows.fnExactCloseRingSpec.plain.varTypes Tryz.prog).any (Tryz.prog.ifacesRec ·))) = true := by kernel_rfl
theorem jf15 : ((Rows.fnExactCloseRingRow.mapsOut == Tryz.prog.mapsAmong Tryz.f14.resultTypes.toList)) = true := by kernel_rfl
theorem jf16 : ((Rows.fnExactCloseRingRow.loops == (Tryz.f14.params.toList ++ Rows.fnExactCloseRingSpec.plain.varTypes Tryz.prog).any (Tryz.prog.loopsFrom ·))) = true := by kernel_rfl
theorem jf17 : ((Rows.fnExactCloseRingRow.wideKeys == (Tryz.f14.params.toList ++ Rows.fnExactCloseRingSpec.plain.varTypes Tryz.prog ++ Tryz.f14.resultTypes.toList).any (Tryz.prog.wideKeysFrom ·))) = true := by kernel_rfl
theorem jf18 : (Rows.fnExactCloseRingSpec.vars.all (Tryz.prog.varReadable ·)) = true := by kernel_rfl
theorem jf19 : (Tryz.f14.resultTypes.all (fun t => Tryz.prog.readableRec t && decide (t < Tryz.prog.types.size))) = true := by kernel_rfl
theorem jf20 : ((Rows.fnExactCloseRingRow.ifacesOut == Tryz.f14.resultTypes.toList.any (Tryz.prog.ifacesRec ·))) = true := by kernel_rfl
theorem jf21 : ((Rows.fnExactCloseRingRow.loopsOut == Tryz.f14.resultTypes.toList.any (Tryz.prog.loopsFrom ·))) = true := by kernel_rfl
theorem jf22 : ((Rows.fnExactCloseRingRow.plainKeys == Tryz.prog.plainKeys)) = true := by
  rw [show Rows.fnExactCloseRingRow.plainKeys = true from rfl]
  exact js22
theorem jf23 : (Rows.fnExactCloseRingRow.shortTexts.isNone) = true := by kernel_rfl
theorem jf26 : ((Rows.fnExactCloseRingRow.lifted == Tryz.prog.liftsFinal)) = true := by
  rw [show Rows.fnExactCloseRingRow.lifted = false from rfl]
  exact js26
theorem jf27 : ((Tryz.prog.make == some Rows.fnExactCloseRingRow.make)) = true := by
  rw [show Rows.fnExactCloseRingRow.make = Make.cut from rfl]
  exact js27
theorem jf29 : ((Rows.fnExactCloseRingRow.pinned == Rows.fnExactCloseRingRow.pinnedBy)) = true := by kernel_rfl
theorem jf30 : ((Rows.fnExactCloseRingRow.veiled == (Tryz.f14.params.toList ++ Rows.fnExactCloseRingSpec.plain.varTypes Tryz.prog ++ Tryz.f14.resultTypes.toList).any (Tryz.prog.veiledRec ·))) = true := by kernel_rfl
theorem jf31 : (Rows.fnExactCloseRingRow.veiledFits Tryz.prog Tryz.f14.params.toList (Tryz.f14.params.toList ++ Rows.fnExactCloseRingSpec.plain.varTypes Tryz.prog ++ Tryz.f14.resultTypes.toList)) = true := by kernel_rfl
theorem closed : joinedFacts Tryz.prog 14 Tryz.f14 Rows.fnExactCloseRingSpec Rows.fnExactCloseRingRow = true := by
  unfold joinedFacts
  exact and_all jf0 js1 js2 jf3 jf4 jf5 js6 jf7 js8 jf9 jf10 jf11 jf12 jf13 jf14 jf15 jf16 jf17 jf18 jf19 jf20 jf21 jf22 jf23 js24 js25 jf26 jf27 (by kernel_rfl) jf29 jf30 jf31
theorem over : Rows.fnExactCloseRingRow.holds Tryz.pinned (OpenSpec.ofChange Rows.fnExactCloseRingSpec) :=
  OpenClaim.holds_of_wide 14 Tryz.f14 rfl rfl rfl rfl rfl rfl rfl ⟨rfl, rfl, rfl, rfl, rfl⟩ rfl rfl rfl rfl rfl (by kernel_rfl) Tryz.func14 closed
    (of_decide_eq_true (by kernel_rfl)) (by unfold Func.isWrapper; first | (rw [if_pos (by decide +kernel)]; kernel_rfl) | (rw [if_neg (by decide +kernel)]; exact ⟨rfl, rfl⟩))
    (fun os started H enc _ => lifted os started H enc)

theorem exactCloseRing_holds : Rows.FnExactCloseRingSaid := over
#print axioms exactCloseRing_holds
end Go.Proofs.YtihdglmiecifjaaGreat
