/-
  Proved: at every two lists of terms the law on Both answers true (the program's Both answers as its specification, writes into no argument, and its answer owns its memory), and the lists read afterwards as they read before. No condition.
-/
import Derived.Test.YtedaleonmcllkaaWF3
import Derived.Test.YtedaleonmcllkaaJS
import Derived.Test.YtedaleonmcllkaaL8
import Derived.ProofKit
import Derived.OpenShut
import Derived.ChangeOld
namespace Go.Proofs.Ytedaleonmcllkaa
open Go.ChangeShapes Go.WideShapes Go.ChangeAt Go.RowKit

theorem own : ownKnob Try.prog.godebug = none := by kernel_rfl
theorem laidOut : laidOutB Try.prog = true := js1

set_option maxRecDepth 100000 in
theorem lifted (os : Os) (started : os.Started) (H : Type) (enc : TypeId × Value → H) :
    ReturnsInHanded {} Try.checked os 7 .any (Rows.fnExactBothSpec.pre6 enc Try.prog Try.f7 Rows.fnExactBothRow.domain false) (Rows.fnExactBothSpec.post enc Try.prog Try.f7 false true false false) := by
  refine returnsInHanded_of_change (C := Try.checked) own started (by kernel_rfl) Try.func7
    (ChangeSpec.witness6 (enc := enc) (C := Try.checked) false ⟨#[], #[.slice none 0 0, .slice none 0 0], []⟩ 8 (by kernel_rfl) (by kernel_rfl) (by kernel_rfl) (by kernel_rfl)) ?_
  intro W base args ds gs before hval0 hW hcnd _
  have hval : ∀ (j : Nat) t v, Try.f7.params[j]? = some t → args[j]? = some v → Value.okWide Try.prog W .any base t v := hval0
  have hW' := hW
  obtain ⟨p, q, hA0, hV, rfl, hfz, hnd⟩ := hW
  have hA : DataW.TrodAll enc Try.prog W 0 (fun _ => true) true Try.f7.params.toList args.toList ds p := hA0
  rw [Try.params7] at hA hval
  obtain ⟨v0, vs0, d0, ds0, p0, q0, hargs, rfl, rfl, h0, r0⟩ := trodAll_cons hA
  obtain ⟨v1, vs1, d1, ds1, p1, q1, hargs1, rfl, rfl, h1, r1⟩ := trodAll_cons r0
  obtain ⟨rfl, rfl, rfl⟩ := trodAll_nil r1
  obtain rfl : args = #[v0, v1] := by cases args; simp_all
  obtain ⟨rfl, rfl⟩ := trodVars_none hV
  obtain ⟨a0, len0, cap0, rfl⟩ := okWide_slice Try.underlying40 (hval 0 40 v0 rfl rfl)
  obtain ⟨a1, len1, cap1, rfl⟩ := okWide_slice Try.underlying40 (hval 1 40 v1 rfl rfl)
  have k0 := h0
  have k1 := h1
  have lt1 : ∀ x ∈ p1, x.block < W.heap.size := by obtain ⟨m, hm⟩ := k1; exact DataW.trod_lt m _ _ _ hm
  have lt0 : ∀ x ∈ p0, x.block < W.heap.size := by obtain ⟨m, hm⟩ := k0; exact DataW.trod_lt m _ _ _ hm
  clear hA0 hval0
  obtain ⟨fuel, hf⟩ := h0
  obtain ⟨hlen, hts⟩ := terms_of hf
  obtain ⟨fuel1, hf1⟩ := h1
  obtain ⟨hlen1, hts1⟩ := terms_of hf1
  refine (exactBoth_any a0 a1 len0 len1 cap0 cap1 W hlen hlen1 hts hts1).mono fun e W' ⟨he, bel⟩ => ?_
  subst he
  exact ⟨_, rfl, _, _, _, [], _, [], hW', trodAll_mk1 (shut_bool Try.underlying4 _), (trodAll_cons_mk (Below.trod laidOut (by kernel_rfl) (of_decide_eq_true (by kernel_rfl)) k0 bel lt0) (trodAll_cons_mk (Below.trod laidOut (by kernel_rfl) (of_decide_eq_true (by kernel_rfl)) k1 bel lt1) trodAll_mk0)), rfl, bel.frame _, fun h => by cases h⟩

theorem jf0 : (Rows.fnExactBothRow.wf (OpenSpec.ofChange Rows.fnExactBothSpec)) = true := by kernel_rfl
theorem jf3 : (Try.f7.params.all (Try.prog.readableRec ·)) = true := by kernel_rfl
theorem jf4 : (namedTie Try.prog Rows.fnExactBothRow.named Rows.fnExactBothSpec.vars) = true := by kernel_rfl
theorem jf5 : ((Rows.fnExactBothRow.stops == [])) = true := by kernel_rfl
theorem jf7 : ((Rows.fnExactBothRow.knobs == [])) = true := by kernel_rfl
theorem jf9 : ((Rows.fnExactBothRow.inPlace == Try.prog.inPlace 7)) = true := by kernel_rfl
theorem jf10 : ((Rows.fnExactBothRow.unfollowed == Try.prog.unfollowed 7)) = true := by kernel_rfl
theorem jf11 : ((Rows.fnExactBothRow.recurses == Try.prog.recurses 7)) = true := by kernel_rfl
theorem jf12 : ((Rows.fnExactBothRow.named == Try.prog.varsNamed 7)) = true := by kernel_rfl
theorem jf13 : ((Rows.fnExactBothRow.maps == (Try.f7.params.toList ++ Rows.fnExactBothSpec.plain.varTypes Try.prog).any (Try.prog.mapsRec ·))) = true := by kernel_rfl
theorem jf14 : ((Rows.fnExactBothRow.ifaces == (Try.f7.params.toList ++ Rows.fnExactBothSpec.plain.varTypes Try.prog).any (Try.prog.ifacesRec ·))) = true := by kernel_rfl
theorem jf15 : ((Rows.fnExactBothRow.mapsOut == Try.prog.mapsAmong Try.f7.resultTypes.toList)) = true := by kernel_rfl
theorem jf16 : ((Rows.fnExactBothRow.loops == (Try.f7.params.toList ++ Rows.fnExactBothSpec.plain.varTypes Try.prog).any (Try.prog.loopsFrom ·))) = true := by kernel_rfl
theorem jf17 : ((Rows.fnExactBothRow.wideKeys == (Try.f7.params.toList ++ Rows.fnExactBothSpec.plain.varTypes Try.prog ++ Try.f7.resultTypes.toList).any (Try.prog.wideKeysFrom ·))) = true := by kernel_rfl
theorem jf18 : (Rows.fnExactBothSpec.vars.all (Try.prog.varReadable ·)) = true := by kernel_rfl
theorem jf19 : (Try.f7.resultTypes.all (fun t => Try.prog.readableRec t && decide (t < Try.prog.types.size))) = true := by kernel_rfl
theorem jf20 : ((Rows.fnExactBothRow.ifacesOut == Try.f7.resultTypes.toList.any (Try.prog.ifacesRec ·))) = true := by kernel_rfl
theorem jf21 : ((Rows.fnExactBothRow.loopsOut == Try.f7.resultTypes.toList.any (Try.prog.loopsFrom ·))) = true := by kernel_rfl
theorem jf22 : ((Rows.fnExactBothRow.plainKeys == Try.prog.plainKeys)) = true := by
  rw [show Rows.fnExactBothRow.plainKeys = true from rfl]
  exact js22
theorem jf23 : (Rows.fnExactBothRow.shortTexts.isNone) = true := by kernel_rfl
theorem jf26 : ((Rows.fnExactBothRow.lifted == Try.prog.liftsFinal)) = true := by
  rw [show Rows.fnExactBothRow.lifted = false from rfl]
  exact js26
theorem jf27 : ((Try.prog.make == some Rows.fnExactBothRow.make)) = true := by
  rw [show Rows.fnExactBothRow.make = Make.cut from rfl]
  exact js27
theorem jf29 : ((Rows.fnExactBothRow.pinned == Rows.fnExactBothRow.pinnedBy)) = true := by kernel_rfl
theorem jf30 : ((Rows.fnExactBothRow.veiled == (Try.f7.params.toList ++ Rows.fnExactBothSpec.plain.varTypes Try.prog ++ Try.f7.resultTypes.toList).any (Try.prog.veiledRec ·))) = true := by kernel_rfl
theorem jf31 : (Rows.fnExactBothRow.veiledFits Try.prog Try.f7.params.toList (Try.f7.params.toList ++ Rows.fnExactBothSpec.plain.varTypes Try.prog ++ Try.f7.resultTypes.toList)) = true := by kernel_rfl
theorem closed : joinedFacts Try.prog 7 Try.f7 Rows.fnExactBothSpec Rows.fnExactBothRow = true := by
  unfold joinedFacts
  exact and_all jf0 js1 js2 jf3 jf4 jf5 js6 jf7 js8 jf9 jf10 jf11 jf12 jf13 jf14 jf15 jf16 jf17 jf18 jf19 jf20 jf21 jf22 jf23 js24 js25 jf26 jf27 (by kernel_rfl) jf29 jf30 jf31
theorem over : Rows.fnExactBothRow.holds Try.pinned (OpenSpec.ofChange Rows.fnExactBothSpec) :=
  OpenClaim.holds_of_wide 7 Try.f7 rfl rfl rfl rfl rfl rfl rfl ⟨rfl, rfl, rfl, rfl, rfl⟩ rfl rfl rfl rfl rfl (by kernel_rfl) Try.func7 closed
    (of_decide_eq_true (by kernel_rfl)) (by unfold Func.isWrapper; first | (rw [if_pos (by decide +kernel)]; kernel_rfl) | (rw [if_neg (by decide +kernel)]; exact ⟨rfl, rfl⟩))
    (fun os started H enc _ => lifted os started H enc)

theorem exactBoth_holds : Rows.FnExactBothSaid := over
#print axioms exactBoth_holds
end Go.Proofs.Ytedaleonmcllkaa
