/-
  Proved: at every number the law on NewRing answers true (the program's NewRing answers as its specification; its answer owns its memory), and the number reads afterwards as it read before. No condition.
-/
import Derived.Test.YtbhdjcggcgddfabNR
import Derived.Test.YtbhdjcggcgddfabJS
import Derived.ProofKit
import Derived.OpenShut
import Derived.ChangeOld
namespace Go.Proofs.Ytbhdjcggcgddfab
open Go.ChangeShapes Go.WideShapes Go.ChangeAt Go.RowKit

theorem own : ownKnob Try.prog.godebug = none := by kernel_rfl
theorem laidOut : laidOutB Try.prog = true := js1

set_option maxRecDepth 100000 in
theorem lifted (os : Os) (started : os.Started) (H : Type) (enc : TypeId × Value → H) :
    ReturnsInHanded {} Try.checked os 4 .any (Rows.fnExactNewRingSpec.pre6 enc Try.prog Try.f4 Rows.fnExactNewRingRow.domain false) (Rows.fnExactNewRingSpec.post enc Try.prog Try.f4 false true false false) := by
  refine returnsInHanded_of_change (C := Try.checked) own started (by kernel_rfl) Try.func4
    (ChangeSpec.witness6 (enc := enc) (C := Try.checked) false ⟨#[], #[.int .i64 0], []⟩ 8 (by kernel_rfl) (by kernel_rfl) (by kernel_rfl) (by kernel_rfl)) ?_
  intro W base args ds gs before hval0 hW hcnd _
  have hval : ∀ (j : Nat) t v, Try.f4.params[j]? = some t → args[j]? = some v → Value.okWide Try.prog W .any base t v := hval0
  have hW' := hW
  obtain ⟨p, q, hA0, hV, rfl, hfz, hnd⟩ := hW
  have hA : DataW.TrodAll enc Try.prog W 0 (fun _ => true) true Try.f4.params.toList args.toList ds p := hA0
  rw [Try.params4] at hA hval
  obtain ⟨v0, vs0, d0, ds0, p0, q0, hargs, rfl, rfl, h0, r0⟩ := trodAll_cons hA
  obtain ⟨rfl, rfl, rfl⟩ := trodAll_nil r0
  obtain rfl : args = #[v0] := by cases args; simp_all
  obtain ⟨rfl, rfl⟩ := trodVars_none hV
  obtain ⟨x, rfl⟩ := okWide_int Try.underlying3 (hval 0 3 v0 rfl rfl)
  have k0 := h0
  have lt0 : ∀ x ∈ p0, x.block < W.heap.size := by obtain ⟨m, hm⟩ := k0; exact DataW.trod_lt m _ _ _ hm
  clear hA0 hval0
  refine (exactNewRing_any x W).mono fun e W' ⟨he, bel⟩ => ?_
  subst he
  exact ⟨_, rfl, _, _, _, [], _, [], hW', trodAll_mk1 (shut_bool Try.underlying4 _), (trodAll_cons_mk (Below.trod laidOut (by kernel_rfl) (of_decide_eq_true (by kernel_rfl)) k0 bel lt0) trodAll_mk0), rfl, bel.frame _, fun h => by cases h⟩

theorem jf0 : (Rows.fnExactNewRingRow.wf (OpenSpec.ofChange Rows.fnExactNewRingSpec)) = true := by kernel_rfl
theorem jf3 : (Try.f4.params.all (Try.prog.readableRec ·)) = true := by kernel_rfl
theorem jf4 : (namedTie Try.prog Rows.fnExactNewRingRow.named Rows.fnExactNewRingSpec.vars) = true := by kernel_rfl
theorem jf5 : ((Rows.fnExactNewRingRow.stops == [])) = true := by kernel_rfl
theorem jf7 : ((Rows.fnExactNewRingRow.knobs == [])) = true := by kernel_rfl
theorem jf9 : ((Rows.fnExactNewRingRow.inPlace == Try.prog.inPlace 4)) = true := by kernel_rfl
theorem jf10 : ((Rows.fnExactNewRingRow.unfollowed == Try.prog.unfollowed 4)) = true := by kernel_rfl
theorem jf11 : ((Rows.fnExactNewRingRow.recurses == Try.prog.recurses 4)) = true := by kernel_rfl
theorem jf12 : ((Rows.fnExactNewRingRow.named == Try.prog.varsNamed 4)) = true := by kernel_rfl
theorem jf13 : ((Rows.fnExactNewRingRow.maps == (Try.f4.params.toList ++ Rows.fnExactNewRingSpec.plain.varTypes Try.prog).any (Try.prog.mapsRec ·))) = true := by kernel_rfl
theorem jf14 : ((Rows.fnExactNewRingRow.ifaces == (Try.f4.params.toList ++ Rows.fnExactNewRingSpec.plain.varTypes Try.prog).any (Try.prog.ifacesRec ·))) = true := by kernel_rfl
theorem jf15 : ((Rows.fnExactNewRingRow.mapsOut == Try.prog.mapsAmong Try.f4.resultTypes.toList)) = true := by kernel_rfl
theorem jf16 : ((Rows.fnExactNewRingRow.loops == (Try.f4.params.toList ++ Rows.fnExactNewRingSpec.plain.varTypes Try.prog).any (Try.prog.loopsFrom ·))) = true := by kernel_rfl
theorem jf17 : ((Rows.fnExactNewRingRow.wideKeys == (Try.f4.params.toList ++ Rows.fnExactNewRingSpec.plain.varTypes Try.prog ++ Try.f4.resultTypes.toList).any (Try.prog.wideKeysFrom ·))) = true := by kernel_rfl
theorem jf18 : (Rows.fnExactNewRingSpec.vars.all (Try.prog.varReadable ·)) = true := by kernel_rfl
theorem jf19 : (Try.f4.resultTypes.all (fun t => Try.prog.readableRec t && decide (t < Try.prog.types.size))) = true := by kernel_rfl
theorem jf20 : ((Rows.fnExactNewRingRow.ifacesOut == Try.f4.resultTypes.toList.any (Try.prog.ifacesRec ·))) = true := by kernel_rfl
theorem jf21 : ((Rows.fnExactNewRingRow.loopsOut == Try.f4.resultTypes.toList.any (Try.prog.loopsFrom ·))) = true := by kernel_rfl
theorem jf22 : ((Rows.fnExactNewRingRow.plainKeys == Try.prog.plainKeys)) = true := by
  rw [show Rows.fnExactNewRingRow.plainKeys = true from rfl]
  exact js22
theorem jf23 : (Rows.fnExactNewRingRow.shortTexts.isNone) = true := by kernel_rfl
theorem jf26 : ((Rows.fnExactNewRingRow.lifted == Try.prog.liftsFinal)) = true := by
  rw [show Rows.fnExactNewRingRow.lifted = false from rfl]
  exact js26
theorem jf27 : ((Try.prog.make == some Rows.fnExactNewRingRow.make)) = true := by
  rw [show Rows.fnExactNewRingRow.make = Make.cut from rfl]
  exact js27
theorem jf29 : ((Rows.fnExactNewRingRow.pinned == Rows.fnExactNewRingRow.pinnedBy)) = true := by kernel_rfl
theorem jf30 : ((Rows.fnExactNewRingRow.veiled == (Try.f4.params.toList ++ Rows.fnExactNewRingSpec.plain.varTypes Try.prog ++ Try.f4.resultTypes.toList).any (Try.prog.veiledRec ·))) = true := by kernel_rfl
theorem jf31 : (Rows.fnExactNewRingRow.veiledFits Try.prog Try.f4.params.toList (Try.f4.params.toList ++ Rows.fnExactNewRingSpec.plain.varTypes Try.prog ++ Try.f4.resultTypes.toList)) = true := by kernel_rfl
theorem closed : joinedFacts Try.prog 4 Try.f4 Rows.fnExactNewRingSpec Rows.fnExactNewRingRow = true := by
  unfold joinedFacts
  exact and_all jf0 js1 js2 jf3 jf4 jf5 js6 jf7 js8 jf9 jf10 jf11 jf12 jf13 jf14 jf15 jf16 jf17 jf18 jf19 jf20 jf21 jf22 jf23 js24 js25 jf26 jf27 (by kernel_rfl) jf29 jf30 jf31
theorem over : Rows.fnExactNewRingRow.holds Try.pinned (OpenSpec.ofChange Rows.fnExactNewRingSpec) :=
  OpenClaim.holds_of_wide 4 Try.f4 rfl rfl rfl rfl rfl rfl rfl ⟨rfl, rfl, rfl, rfl, rfl⟩ rfl rfl rfl rfl rfl (by kernel_rfl) Try.func4 closed
    (of_decide_eq_true (by kernel_rfl)) (by unfold Func.isWrapper; first | (rw [if_pos (by decide +kernel)]; kernel_rfl) | (rw [if_neg (by decide +kernel)]; exact ⟨rfl, rfl⟩))
    (fun os started H enc _ => lifted os started H enc)

theorem exactNewRing_holds : Rows.FnExactNewRingSaid := over
#print axioms exactNewRing_holds
end Go.Proofs.Ytbhdjcggcgddfab
