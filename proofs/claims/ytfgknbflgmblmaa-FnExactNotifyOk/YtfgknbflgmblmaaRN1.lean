/-
  Proved: at every notification the law on NotifyOk answers true (the program's NotifyOk answers as its specification, and writes into no argument), and the arguments read afterwards as they read before. No condition.
-/
import Derived.Test.YtfgknbflgmblmaaV2
import Derived.Test.YtfgknbflgmblmaaJS
import Derived.Test.YtfgknbflgmblmaaWN1
import Derived.Test.YtfgknbflgmblmaaL5
import Derived.ProofKit
import Derived.OpenShut
import Derived.ChangeOld
import Derived.Lib.SmallJoins
namespace Go.Proofs.Ytfgknbflgmblmaa
open Go.ChangeShapes Go.WideShapes Go.ChangeAt Go.RowKit Go.Joins

theorem own : ownKnob Try.prog.godebug = none := by kernel_rfl
theorem laidOut : laidOutB Try.prog = true := js1

set_option maxRecDepth 100000 in
theorem lifted (os : Os) (started : os.Started) (H : Type) (enc : TypeId × Value → H) :
    ReturnsInHanded {} Try.checked os 6 .any (Rows.fnExactNotifyOkSpec.pre6 enc Try.prog Try.f6 Rows.fnExactNotifyOkRow.domain false) (Rows.fnExactNotifyOkSpec.post enc Try.prog Try.f6 false true false false) := by
  refine returnsInHanded_of_change (C := Try.checked) own started (by kernel_rfl) Try.func6
    (ChangeSpec.witness6 (enc := enc) (C := Try.checked) false ⟨#[], #[.agg #[.bool false, .slice none 0 0, .slice none 0 0, .int .i64 0, .int .i64 0, .int .i64 0]], []⟩ 8 (by kernel_rfl) (by kernel_rfl) (by kernel_rfl) (by kernel_rfl)) ?_
  intro W base args ds gs before hval0 hW hcnd _
  have hval : ∀ (j : Nat) t v, Try.f6.params[j]? = some t → args[j]? = some v → Value.okWide Try.prog W .any base t v := hval0
  have hW' := hW
  obtain ⟨p, q, hA0, hV, rfl, hfz, hnd⟩ := hW
  have hA : DataW.TrodAll enc Try.prog W 0 (fun _ => true) true Try.f6.params.toList args.toList ds p := hA0
  rw [Try.params6] at hA hval
  obtain ⟨v0, vs0, d0, ds0, p0, q0, hargs, rfl, rfl, h0, r0⟩ := trodAll_cons hA
  obtain ⟨rfl, rfl, rfl⟩ := trodAll_nil r0
  obtain rfl : args = #[v0] := by cases args; simp_all
  obtain ⟨rfl, rfl⟩ := trodVars_none hV
  have k0 := h0
  have lt0 : ∀ x ∈ p0, x.block < W.heap.size := by obtain ⟨m, hm⟩ := k0; exact DataW.trod_lt m _ _ _ hm
  obtain ⟨A, x, rfl, hn0, hn1, hi, hw⟩ := note_arg (hval 0 47 v0 rfl rfl) h0
  clear hA0 hval0
  refine (exactNotifyOk_of implNotifyOk_any A x W hn0 hn1 hi hw).mono fun e W' ⟨he, bel⟩ => ?_
  subst he
  exact ⟨_, rfl, _, _, _, [], _, [], hW', trodAll_mk1 (shut_bool Try.underlying4 _), (trodAll_cons_mk (Below.trod laidOut (by kernel_rfl) (of_decide_eq_true (by kernel_rfl)) k0 bel lt0) trodAll_mk0), rfl, bel.frame _, fun h => by cases h⟩

theorem jf0 : (Rows.fnExactNotifyOkRow.wf (OpenSpec.ofChange Rows.fnExactNotifyOkSpec)) = true := by kernel_rfl
theorem jf3 : (Try.f6.params.all (Try.prog.readableRec ·)) = true := by kernel_rfl
theorem jf4 : (namedTie Try.prog Rows.fnExactNotifyOkRow.named Rows.fnExactNotifyOkSpec.vars) = true := by kernel_rfl
theorem jf5 : ((Rows.fnExactNotifyOkRow.stops == [])) = true := by kernel_rfl
theorem jf7 : ((Rows.fnExactNotifyOkRow.knobs == [])) = true := by kernel_rfl
theorem jf9 : ((Rows.fnExactNotifyOkRow.inPlace == Try.prog.inPlace 6)) = true := by kernel_rfl
theorem jf10 : ((Rows.fnExactNotifyOkRow.unfollowed == Try.prog.unfollowed 6)) = true := by kernel_rfl
theorem jf11 : ((Rows.fnExactNotifyOkRow.recurses == Try.prog.recurses 6)) = true := by kernel_rfl
theorem jf12 : ((Rows.fnExactNotifyOkRow.named == Try.prog.varsNamed 6)) = true := by kernel_rfl
theorem jf13 : ((Rows.fnExactNotifyOkRow.maps == (Try.f6.params.toList ++ Rows.fnExactNotifyOkSpec.plain.varTypes Try.prog).any (Try.prog.mapsRec ·))) = true := by kernel_rfl
theorem jf14 : ((Rows.fnExactNotifyOkRow.ifaces == (Try.f6.params.toList ++ Rows.fnExactNotifyOkSpec.plain.varTypes Try.prog).any (Try.prog.ifacesRec ·))) = true := by kernel_rfl
theorem jf15 : ((Rows.fnExactNotifyOkRow.mapsOut == Try.prog.mapsAmong Try.f6.resultTypes.toList)) = true := by kernel_rfl
theorem jf16 : ((Rows.fnExactNotifyOkRow.loops == (Try.f6.params.toList ++ Rows.fnExactNotifyOkSpec.plain.varTypes Try.prog).any (Try.prog.loopsFrom ·))) = true := by kernel_rfl
theorem jf17 : ((Rows.fnExactNotifyOkRow.wideKeys == (Try.f6.params.toList ++ Rows.fnExactNotifyOkSpec.plain.varTypes Try.prog ++ Try.f6.resultTypes.toList).any (Try.prog.wideKeysFrom ·))) = true := by kernel_rfl
theorem jf18 : (Rows.fnExactNotifyOkSpec.vars.all (Try.prog.varReadable ·)) = true := by kernel_rfl
theorem jf19 : (Try.f6.resultTypes.all (fun t => Try.prog.readableRec t && decide (t < Try.prog.types.size))) = true := by kernel_rfl
theorem jf20 : ((Rows.fnExactNotifyOkRow.ifacesOut == Try.f6.resultTypes.toList.any (Try.prog.ifacesRec ·))) = true := by kernel_rfl
theorem jf21 : ((Rows.fnExactNotifyOkRow.loopsOut == Try.f6.resultTypes.toList.any (Try.prog.loopsFrom ·))) = true := by kernel_rfl
theorem jf22 : ((Rows.fnExactNotifyOkRow.plainKeys == Try.prog.plainKeys)) = true := by
  rw [show Rows.fnExactNotifyOkRow.plainKeys = true from rfl]
  exact js22
theorem jf23 : (Rows.fnExactNotifyOkRow.shortTexts.isNone) = true := by kernel_rfl
theorem jf26 : ((Rows.fnExactNotifyOkRow.lifted == Try.prog.liftsFinal)) = true := by
  rw [show Rows.fnExactNotifyOkRow.lifted = false from rfl]
  exact js26
theorem jf27 : ((Try.prog.make == some Rows.fnExactNotifyOkRow.make)) = true := by
  rw [show Rows.fnExactNotifyOkRow.make = Make.cut from rfl]
  exact js27
theorem jf29 : ((Rows.fnExactNotifyOkRow.pinned == Rows.fnExactNotifyOkRow.pinnedBy)) = true := by kernel_rfl
theorem jf30 : ((Rows.fnExactNotifyOkRow.veiled == (Try.f6.params.toList ++ Rows.fnExactNotifyOkSpec.plain.varTypes Try.prog ++ Try.f6.resultTypes.toList).any (Try.prog.veiledRec ·))) = true := by kernel_rfl
theorem jf31 : (Rows.fnExactNotifyOkRow.veiledFits Try.prog Try.f6.params.toList (Try.f6.params.toList ++ Rows.fnExactNotifyOkSpec.plain.varTypes Try.prog ++ Try.f6.resultTypes.toList)) = true := by kernel_rfl
theorem closed : joinedFacts Try.prog 6 Try.f6 Rows.fnExactNotifyOkSpec Rows.fnExactNotifyOkRow = true := by
  unfold joinedFacts
  exact and_all jf0 js1 js2 jf3 jf4 jf5 js6 jf7 js8 jf9 jf10 jf11 jf12 jf13 jf14 jf15 jf16 jf17 jf18 jf19 jf20 jf21 jf22 jf23 js24 js25 jf26 jf27 (by kernel_rfl) jf29 jf30 jf31
theorem over : Rows.fnExactNotifyOkRow.holds Try.pinned (OpenSpec.ofChange Rows.fnExactNotifyOkSpec) :=
  OpenClaim.holds_of_wide 6 Try.f6 rfl rfl rfl rfl rfl rfl rfl ⟨rfl, rfl, rfl, rfl, rfl⟩ rfl rfl rfl rfl rfl (by kernel_rfl) Try.func6 closed
    (of_decide_eq_true (by kernel_rfl)) (by unfold Func.isWrapper; first | (rw [if_pos (by decide +kernel)]; kernel_rfl) | (rw [if_neg (by decide +kernel)]; exact ⟨rfl, rfl⟩))
    (fun os started H enc _ => lifted os started H enc)

theorem exactNotifyOk_holds : Rows.FnExactNotifyOkSaid := over
#print axioms exactNotifyOk_holds
end Go.Proofs.Ytfgknbflgmblmaa
