/-
  Proved: at every notification the law on TellAll answers true (the program's TellAll answers as its specification, and writes into no argument; its answer owns its memory), and the arguments read afterwards as they read before. No condition.
-/
import Derived.Test.YtfgknbflgmblmaaV8
import Derived.Test.YtfgknbflgmblmaaJS
import Derived.Test.YtfgknbflgmblmaaSN6
import Derived.Test.YtfgknbflgmblmaaWN3
import Derived.Test.YtfgknbflgmblmaaNM3
import Derived.Test.YtfgknbflgmblmaaL5
import Derived.ProofKit
import Derived.OpenShut
import Derived.ChangeOld
import Derived.Lib.SmallJoins
namespace Go.Proofs.Ytfgknbflgmblmaa
open Go.ChangeShapes Go.WideShapes Go.ChangeAt Go.RowKit Go.Joins

theorem own : ownKnob Try.prog.godebug = none := by kernel_rfl
theorem laidOut : laidOutB Try.prog = true := js1

set_option maxRecDepth 100000 in
theorem lifted (os : Os) (started : os.Started) (H : Type) (enc : TypeId × Value → H) :
    ReturnsInHanded {} Try.checked os 8 .any (Rows.fnExactTellAllSpec.pre6 enc Try.prog Try.f8 Rows.fnExactTellAllRow.domain false) (Rows.fnExactTellAllSpec.post enc Try.prog Try.f8 false true false false) := by
  refine returnsInHanded_of_change (C := Try.checked) own started (by kernel_rfl) Try.func8
    (ChangeSpec.witness6 (enc := enc) (C := Try.checked) false ⟨#[], #[.agg #[.bool false, .slice none 0 0, .slice none 0 0, .int .i64 0, .int .i64 0, .int .i64 0]], []⟩ 8 (by kernel_rfl) (by kernel_rfl) (by kernel_rfl) (by kernel_rfl)) ?_
  intro W base args ds gs before hval0 hW hcnd _
  have hval : ∀ (j : Nat) t v, Try.f8.params[j]? = some t → args[j]? = some v → Value.okWide Try.prog W .any base t v := hval0
  have hW' := hW
  obtain ⟨p, q, hA0, hV, rfl, hfz, hnd⟩ := hW
  have hA : DataW.TrodAll enc Try.prog W 0 (fun _ => true) true Try.f8.params.toList args.toList ds p := hA0
  rw [Try.params8] at hA hval
  obtain ⟨v0, vs0, d0, ds0, p0, q0, hargs, rfl, rfl, h0, r0⟩ := trodAll_cons hA
  obtain ⟨rfl, rfl, rfl⟩ := trodAll_nil r0
  obtain rfl : args = #[v0] := by cases args; simp_all
  obtain ⟨rfl, rfl⟩ := trodVars_none hV
  have k0 := h0
  have lt0 : ∀ x ∈ p0, x.block < W.heap.size := by obtain ⟨m, hm⟩ := k0; exact DataW.trod_lt m _ _ _ hm
  obtain ⟨A, x, rfl, hn0, hn1, hi, hw⟩ := note_arg (hval 0 47 v0 rfl rfl) h0
  clear hA0 hval0
  refine (exactTellAll_of tellAllM specTellAll_any implTellAll_any tellAll_len A x W hn0 hn1 hi hw).mono fun e W' ⟨he, bel⟩ => ?_
  subst he
  exact ⟨_, rfl, _, _, _, [], _, [], hW', trodAll_mk1 (shut_bool Try.underlying4 _), (trodAll_cons_mk (Below.trod laidOut (by kernel_rfl) (of_decide_eq_true (by kernel_rfl)) k0 bel lt0) trodAll_mk0), rfl, bel.frame _, fun h => by cases h⟩

theorem jf0 : (Rows.fnExactTellAllRow.wf (OpenSpec.ofChange Rows.fnExactTellAllSpec)) = true := by kernel_rfl
theorem jf3 : (Try.f8.params.all (Try.prog.readableRec ·)) = true := by kernel_rfl
theorem jf4 : (namedTie Try.prog Rows.fnExactTellAllRow.named Rows.fnExactTellAllSpec.vars) = true := by kernel_rfl
theorem jf5 : ((Rows.fnExactTellAllRow.stops == [])) = true := by kernel_rfl
theorem jf7 : ((Rows.fnExactTellAllRow.knobs == [])) = true := by kernel_rfl
theorem jf9 : ((Rows.fnExactTellAllRow.inPlace == Try.prog.inPlace 8)) = true := by kernel_rfl
theorem jf10 : ((Rows.fnExactTellAllRow.unfollowed == Try.prog.unfollowed 8)) = true := by kernel_rfl
theorem jf11 : ((Rows.fnExactTellAllRow.recurses == Try.prog.recurses 8)) = true := by kernel_rfl
theorem jf12 : ((Rows.fnExactTellAllRow.named == Try.prog.varsNamed 8)) = true := by kernel_rfl
theorem jf13 : ((Rows.fnExactTellAllRow.maps == (Try.f8.params.toList ++ Rows.fnExactTellAllSpec.plain.varTypes Try.prog).any (Try.prog.mapsRec ·))) = true := by kernel_rfl
theorem jf14 : ((Rows.fnExactTellAllRow.ifaces == (Try.f8.params.toList ++ Rows.fnExactTellAllSpec.plain.varTypes Try.prog).any (Try.prog.ifacesRec ·))) = true := by kernel_rfl
theorem jf15 : ((Rows.fnExactTellAllRow.mapsOut == Try.prog.mapsAmong Try.f8.resultTypes.toList)) = true := by kernel_rfl
theorem jf16 : ((Rows.fnExactTellAllRow.loops == (Try.f8.params.toList ++ Rows.fnExactTellAllSpec.plain.varTypes Try.prog).any (Try.prog.loopsFrom ·))) = true := by kernel_rfl
theorem jf17 : ((Rows.fnExactTellAllRow.wideKeys == (Try.f8.params.toList ++ Rows.fnExactTellAllSpec.plain.varTypes Try.prog ++ Try.f8.resultTypes.toList).any (Try.prog.wideKeysFrom ·))) = true := by kernel_rfl
theorem jf18 : (Rows.fnExactTellAllSpec.vars.all (Try.prog.varReadable ·)) = true := by kernel_rfl
theorem jf19 : (Try.f8.resultTypes.all (fun t => Try.prog.readableRec t && decide (t < Try.prog.types.size))) = true := by kernel_rfl
theorem jf20 : ((Rows.fnExactTellAllRow.ifacesOut == Try.f8.resultTypes.toList.any (Try.prog.ifacesRec ·))) = true := by kernel_rfl
theorem jf21 : ((Rows.fnExactTellAllRow.loopsOut == Try.f8.resultTypes.toList.any (Try.prog.loopsFrom ·))) = true := by kernel_rfl
theorem jf22 : ((Rows.fnExactTellAllRow.plainKeys == Try.prog.plainKeys)) = true := by
  rw [show Rows.fnExactTellAllRow.plainKeys = true from rfl]
  exact js22
theorem jf23 : (Rows.fnExactTellAllRow.shortTexts.isNone) = true := by kernel_rfl
theorem jf26 : ((Rows.fnExactTellAllRow.lifted == Try.prog.liftsFinal)) = true := by
  rw [show Rows.fnExactTellAllRow.lifted = false from rfl]
  exact js26
theorem jf27 : ((Try.prog.make == some Rows.fnExactTellAllRow.make)) = true := by
  rw [show Rows.fnExactTellAllRow.make = Make.cut from rfl]
  exact js27
theorem jf29 : ((Rows.fnExactTellAllRow.pinned == Rows.fnExactTellAllRow.pinnedBy)) = true := by kernel_rfl
theorem jf30 : ((Rows.fnExactTellAllRow.veiled == (Try.f8.params.toList ++ Rows.fnExactTellAllSpec.plain.varTypes Try.prog ++ Try.f8.resultTypes.toList).any (Try.prog.veiledRec ·))) = true := by kernel_rfl
theorem jf31 : (Rows.fnExactTellAllRow.veiledFits Try.prog Try.f8.params.toList (Try.f8.params.toList ++ Rows.fnExactTellAllSpec.plain.varTypes Try.prog ++ Try.f8.resultTypes.toList)) = true := by kernel_rfl
theorem closed : joinedFacts Try.prog 8 Try.f8 Rows.fnExactTellAllSpec Rows.fnExactTellAllRow = true := by
  unfold joinedFacts
  exact and_all jf0 js1 js2 jf3 jf4 jf5 js6 jf7 js8 jf9 jf10 jf11 jf12 jf13 jf14 jf15 jf16 jf17 jf18 jf19 jf20 jf21 jf22 jf23 js24 js25 jf26 jf27 (by kernel_rfl) jf29 jf30 jf31
theorem over : Rows.fnExactTellAllRow.holds Try.pinned (OpenSpec.ofChange Rows.fnExactTellAllSpec) :=
  OpenClaim.holds_of_wide 8 Try.f8 rfl rfl rfl rfl rfl rfl rfl ⟨rfl, rfl, rfl, rfl, rfl⟩ rfl rfl rfl rfl rfl (by kernel_rfl) Try.func8 closed
    (of_decide_eq_true (by kernel_rfl)) (by unfold Func.isWrapper; first | (rw [if_pos (by decide +kernel)]; kernel_rfl) | (rw [if_neg (by decide +kernel)]; exact ⟨rfl, rfl⟩))
    (fun os started H enc _ => lifted os started H enc)

theorem exactTellAll_holds : Rows.FnExactTellAllSaid := over
#print axioms exactTellAll_holds
end Go.Proofs.Ytfgknbflgmblmaa
