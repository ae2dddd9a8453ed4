/-
  Proved: at every ring the law on RingOk answers true (the program's RingOk answers as its specification, and writes into no argument), and the arguments read afterwards as they read before. No condition.
-/
import Derived.Test.YtihdglmiecifjaaZRbRR10
import Derived.Test.YtihdglmiecifjaaZRbRR111
import Derived.Test.YtihdglmiecifjaaZRbRR117
import Derived.Test.YtihdglmiecifjaaZRbRR18
import Derived.ProofKit
import Derived.OpenShut
import Derived.ChangeOld
import Derived.Lib.SmallJoins
namespace Go.Proofs.Ytihdglmiecifjaa
open Go.ChangeShapes Go.WideShapes Go.ChangeAt Go.RowKit Go.Joins

theorem own : ownKnob Try.prog.godebug = none := by kernel_rfl
theorem laidOut : laidOutB Try.prog = true := js1

set_option maxRecDepth 100000 in
theorem lifted (os : Os) (started : os.Started) (H : Type) (enc : TypeId × Value → H) :
    ReturnsInHanded {} Try.checked os 3 .any (Rows.fnExactRingOkSpec.pre6 enc Try.prog Try.f3 Rows.fnExactRingOkRow.domain false) (Rows.fnExactRingOkSpec.post enc Try.prog Try.f3 false true false false) := by
  refine returnsInHanded_of_change (C := Try.checked) own started (by kernel_rfl) Try.func3
    (ChangeSpec.witness6 (enc := enc) (C := Try.checked) false ⟨#[], #[.agg #[.int .i64 0, .int .i64 0, .slice none 0 0, .int .i64 0, .slice none 0 0, .slice none 0 0, .slice none 0 0, .bool false]], []⟩ 8 (by kernel_rfl) (by kernel_rfl) (by kernel_rfl) (by kernel_rfl)) ?_
  intro W base args ds gs before hval0 hW hcnd _
  have hval : ∀ (j : Nat) t v, Try.f3.params[j]? = some t → args[j]? = some v → Value.okWide Try.prog W .any base t v := hval0
  have hW' := hW
  obtain ⟨p, q, hA0, hV, rfl, hfz, hnd⟩ := hW
  have hA : DataW.TrodAll enc Try.prog W 0 (fun _ => true) true Try.f3.params.toList args.toList ds p := hA0
  rw [Try.params3] at hA hval
  obtain ⟨v0, vs0, d0, ds0, p0, q0, hargs, rfl, rfl, h0, r0⟩ := trodAll_cons hA
  obtain ⟨rfl, rfl, rfl⟩ := trodAll_nil r0
  obtain rfl : args = #[v0] := by cases args; simp_all
  obtain ⟨rfl, rfl⟩ := trodVars_none hV
  have k0 := h0
  have lt0 : ∀ x ∈ p0, x.block < W.heap.size := by obtain ⟨m, hm⟩ := k0; exact DataW.trod_lt m _ _ _ hm
  obtain ⟨M, x, rfl, hm, hi, hw⟩ := ring_arg (hval 0 26 v0 rfl rfl) h0
  clear hA0 hval0
  refine (exactRingOk_of (okR restR) specRingOk_any implRingOk_any M x W hi hm hw).mono fun e W' ⟨he, bel⟩ => ?_
  subst he
  exact ⟨_, rfl, _, _, _, [], _, [], hW', trodAll_mk1 (shut_bool Try.underlying4 _), (trodAll_cons_mk (Below.trod laidOut (by kernel_rfl) (of_decide_eq_true (by kernel_rfl)) k0 bel lt0) trodAll_mk0), rfl, bel.frame _, fun h => by cases h⟩

theorem jf0 : (Rows.fnExactRingOkRow.wf (OpenSpec.ofChange Rows.fnExactRingOkSpec)) = true := by kernel_rfl
theorem jf3 : (Try.f3.params.all (Try.prog.readableRec ·)) = true := by kernel_rfl
theorem jf4 : (namedTie Try.prog Rows.fnExactRingOkRow.named Rows.fnExactRingOkSpec.vars) = true := by kernel_rfl
theorem jf5 : ((Rows.fnExactRingOkRow.stops == [])) = true := by kernel_rfl
theorem jf7 : ((Rows.fnExactRingOkRow.knobs == [])) = true := by kernel_rfl
theorem jf9 : ((Rows.fnExactRingOkRow.inPlace == Try.prog.inPlace 3)) = true := by kernel_rfl
theorem jf10 : ((Rows.fnExactRingOkRow.unfollowed == Try.prog.unfollowed 3)) = true := by kernel_rfl
theorem jf11 : ((Rows.fnExactRingOkRow.recurses == Try.prog.recurses 3)) = true := by kernel_rfl
theorem jf12 : ((Rows.fnExactRingOkRow.named == Try.prog.varsNamed 3)) = true := by kernel_rfl
theorem jf13 : ((Rows.fnExactRingOkRow.maps == (Try.f3.params.toList ++ Rows.fnExactRingOkSpec.plain.varTypes Try.prog).any (Try.prog.mapsRec ·))) = true := by kernel_rfl
theorem jf14 : ((Rows.fnExactRingOkRow.ifaces == (Try.f3.params.toList ++ Rows.fnExactRingOkSpec.plain.varTypes Try.prog).any (Try.prog.ifacesRec ·))) = true := by kernel_rfl
theorem jf15 : ((Rows.fnExactRingOkRow.mapsOut == Try.prog.mapsAmong Try.f3.resultTypes.toList)) = true := by kernel_rfl
theorem jf16 : ((Rows.fnExactRingOkRow.loops == (Try.f3.params.toList ++ Rows.fnExactRingOkSpec.plain.varTypes Try.prog).any (Try.prog.loopsFrom ·))) = true := by kernel_rfl
theorem jf17 : ((Rows.fnExactRingOkRow.wideKeys == (Try.f3.params.toList ++ Rows.fnExactRingOkSpec.plain.varTypes Try.prog ++ Try.f3.resultTypes.toList).any (Try.prog.wideKeysFrom ·))) = true := by kernel_rfl
theorem jf18 : (Rows.fnExactRingOkSpec.vars.all (Try.prog.varReadable ·)) = true := by kernel_rfl
theorem jf19 : (Try.f3.resultTypes.all (fun t => Try.prog.readableRec t && decide (t < Try.prog.types.size))) = true := by kernel_rfl
theorem jf20 : ((Rows.fnExactRingOkRow.ifacesOut == Try.f3.resultTypes.toList.any (Try.prog.ifacesRec ·))) = true := by kernel_rfl
theorem jf21 : ((Rows.fnExactRingOkRow.loopsOut == Try.f3.resultTypes.toList.any (Try.prog.loopsFrom ·))) = true := by kernel_rfl
theorem jf22 : ((Rows.fnExactRingOkRow.plainKeys == Try.prog.plainKeys)) = true := by
  rw [show Rows.fnExactRingOkRow.plainKeys = true from rfl]
  exact js22
theorem jf23 : (Rows.fnExactRingOkRow.shortTexts.isNone) = true := by kernel_rfl
theorem jf26 : ((Rows.fnExactRingOkRow.lifted == Try.prog.liftsFinal)) = true := by
  rw [show Rows.fnExactRingOkRow.lifted = false from rfl]
  exact js26
theorem jf27 : ((Try.prog.make == some Rows.fnExactRingOkRow.make)) = true := by
  rw [show Rows.fnExactRingOkRow.make = Make.cut from rfl]
  exact js27
theorem jf29 : ((Rows.fnExactRingOkRow.pinned == Rows.fnExactRingOkRow.pinnedBy)) = true := by kernel_rfl
theorem jf30 : ((Rows.fnExactRingOkRow.veiled == (Try.f3.params.toList ++ Rows.fnExactRingOkSpec.plain.varTypes Try.prog ++ Try.f3.resultTypes.toList).any (Try.prog.veiledRec ·))) = true := by kernel_rfl
theorem jf31 : (Rows.fnExactRingOkRow.veiledFits Try.prog Try.f3.params.toList (Try.f3.params.toList ++ Rows.fnExactRingOkSpec.plain.varTypes Try.prog ++ Try.f3.resultTypes.toList)) = true := by kernel_rfl
theorem closed : joinedFacts Try.prog 3 Try.f3 Rows.fnExactRingOkSpec Rows.fnExactRingOkRow = true := by
  unfold joinedFacts
  exact and_all jf0 js1 js2 jf3 jf4 jf5 js6 jf7 js8 jf9 jf10 jf11 jf12 jf13 jf14 jf15 jf16 jf17 jf18 jf19 jf20 jf21 jf22 jf23 js24 js25 jf26 jf27 (by kernel_rfl) jf29 jf30 jf31
theorem over : Rows.fnExactRingOkRow.holds Try.pinned (OpenSpec.ofChange Rows.fnExactRingOkSpec) :=
  OpenClaim.holds_of_wide 3 Try.f3 rfl rfl rfl rfl rfl rfl rfl ⟨rfl, rfl, rfl, rfl, rfl⟩ rfl rfl rfl rfl rfl (by kernel_rfl) Try.func3 closed
    (of_decide_eq_true (by kernel_rfl)) (by unfold Func.isWrapper; first | (rw [if_pos (by decide +kernel)]; kernel_rfl) | (rw [if_neg (by decide +kernel)]; exact ⟨rfl, rfl⟩))
    (fun os started H enc _ => lifted os started H enc)

theorem exactRingOk_holds : Rows.FnExactRingOkSaid := over
#print axioms exactRingOk_holds
end Go.Proofs.Ytihdglmiecifjaa
