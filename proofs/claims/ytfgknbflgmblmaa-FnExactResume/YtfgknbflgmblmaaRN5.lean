/-
  Proved: at every notification and client the law on Resume answers true (the program's Resume answers as its specification, and writes into no argument; its answer owns its memory), and the arguments read afterwards as they read before. No condition.
-/
import Derived.Test.YtfgknbflgmblmaaV10
import Derived.Test.YtfgknbflgmblmaaJS
import Derived.Test.YtfgknbflgmblmaaSN9
import Derived.Test.YtfgknbflgmblmaaWN5
import Derived.Test.YtfgknbflgmblmaaNM3
import Derived.Test.YtfgknbflgmblmaaL5
import Derived.ProofKit
import Derived.OpenShut
import Derived.ChangeOld
import Derived.Lib.SmallJoins
namespace Go.Proofs.Ytfgknbflgmblmaa
open Go.ChangeShapes Go.WideShapes Go.ChangeAt Go.RowKit Go.Joins

theorem own : ownKnob Try.prog.godebug = none := by kernel_rfl
theorem laidOut : laidOutB Try.prog = true := js1

set_option maxRecDepth 100000 in
theorem lifted (os : Os) (started : os.Started) (H : Type) (enc : TypeId × Value → H) :
    ReturnsInHanded {} Try.checked os 10 .any (Rows.fnExactResumeSpec.pre6 enc Try.prog Try.f10 Rows.fnExactResumeRow.domain false) (Rows.fnExactResumeSpec.post enc Try.prog Try.f10 false true false false) := by
  refine returnsInHanded_of_change (C := Try.checked) own started (by kernel_rfl) Try.func10
    (ChangeSpec.witness6 (enc := enc) (C := Try.checked) false ⟨#[], #[.agg #[.bool false, .slice none 0 0, .slice none 0 0, .int .i64 0, .int .i64 0, .int .i64 0], .int .i64 0], []⟩ 8 (by kernel_rfl) (by kernel_rfl) (by kernel_rfl) (by kernel_rfl)) ?_
  intro W base args ds gs before hval0 hW hcnd _
  have hval : ∀ (j : Nat) t v, Try.f10.params[j]? = some t → args[j]? = some v → Value.okWide Try.prog W .any base t v := hval0
  have hW' := hW
  obtain ⟨p, q, hA0, hV, rfl, hfz, hnd⟩ := hW
  have hA : DataW.TrodAll enc Try.prog W 0 (fun _ => true) true Try.f10.params.toList args.toList ds p := hA0
  rw [Try.params10] at hA hval
  obtain ⟨v0, vs0, d0, ds0, p0, q0, hargs, rfl, rfl, h0, r0⟩ := trodAll_cons hA
  obtain ⟨v1, vs1, d1, ds1, p1, q1, hargs1, rfl, rfl, h1, r1⟩ := trodAll_cons r0
  obtain ⟨rfl, rfl, rfl⟩ := trodAll_nil r1
  obtain rfl : args = #[v0, v1] := by cases args; simp_all
  obtain ⟨rfl, rfl⟩ := trodVars_none hV
  obtain ⟨y, rfl⟩ := okWide_int Try.underlying3 (hval 1 3 v1 rfl rfl)
  have k0 := h0
  have k1 := h1
  have hx : (Lit.int .i64 y).wf = true := by
    obtain ⟨fuel, hf⟩ := h1
    obtain ⟨x', e, _, hwx⟩ := DataW.trod_int Try.underlying3 hf
    simp [Value.cells] at e
    subst e
    exact hwx
  have lt0 : ∀ x ∈ p0, x.block < W.heap.size := by obtain ⟨m, hm⟩ := k0; exact DataW.trod_lt m _ _ _ hm
  have lt1 : ∀ x ∈ p1, x.block < W.heap.size := by obtain ⟨m, hm⟩ := k1; exact DataW.trod_lt m _ _ _ hm
  obtain ⟨A, x, rfl, hn0, hn1, hi, hw⟩ := note_arg (hval 0 47 v0 rfl rfl) h0
  clear hA0 hval0
  refine (exactResume_of resumeM specResume_any implResume_any resume_len A x y W hn0 hn1 hi hw hx).mono fun e W' ⟨he, bel⟩ => ?_
  subst he
  exact ⟨_, rfl, _, _, _, [], _, [], hW', trodAll_mk1 (shut_bool Try.underlying4 _), (trodAll_cons_mk (Below.trod laidOut (by kernel_rfl) (of_decide_eq_true (by kernel_rfl)) k0 bel lt0) (trodAll_cons_mk (Below.trod laidOut (by kernel_rfl) (of_decide_eq_true (by kernel_rfl)) k1 bel lt1) trodAll_mk0)), rfl, bel.frame _, fun h => by cases h⟩

theorem jf0 : (Rows.fnExactResumeRow.wf (OpenSpec.ofChange Rows.fnExactResumeSpec)) = true := by kernel_rfl
theorem jf3 : (Try.f10.params.all (Try.prog.readableRec ·)) = true := by kernel_rfl
theorem jf4 : (namedTie Try.prog Rows.fnExactResumeRow.named Rows.fnExactResumeSpec.vars) = true := by kernel_rfl
theorem jf5 : ((Rows.fnExactResumeRow.stops == [])) = true := by kernel_rfl
theorem jf7 : ((Rows.fnExactResumeRow.knobs == [])) = true := by kernel_rfl
theorem jf9 : ((Rows.fnExactResumeRow.inPlace == Try.prog.inPlace 10)) = true := by kernel_rfl
theorem jf10 : ((Rows.fnExactResumeRow.unfollowed == Try.prog.unfollowed 10)) = true := by kernel_rfl
theorem jf11 : ((Rows.fnExactResumeRow.recurses == Try.prog.recurses 10)) = true := by kernel_rfl
theorem jf12 : ((Rows.fnExactResumeRow.named == Try.prog.varsNamed 10)) = true := by kernel_rfl
theorem jf13 : ((Rows.fnExactResumeRow.maps == (Try.f10.params.toList ++ Rows.fnExactResumeSpec.plain.varTypes Try.prog).any (Try.prog.mapsRec ·))) = true := by kernel_rfl
theorem jf14 : ((Rows.fnExactResumeRow.ifaces == (Try.f10.params.toList ++ Rows.fnExactResumeSpec.plain.varTypes Try.prog).any (Try.prog.ifacesRec ·))) = true := by kernel_rfl
theorem jf15 : ((Rows.fnExactResumeRow.mapsOut == Try.prog.mapsAmong Try.f10.resultTypes.toList)) = true := by kernel_rfl
theorem jf16 : ((Rows.fnExactResumeRow.loops == (Try.f10.params.toList ++ Rows.fnExactResumeSpec.plain.varTypes Try.prog).any (Try.prog.loopsFrom ·))) = true := by kernel_rfl
theorem jf17 : ((Rows.fnExactResumeRow.wideKeys == (Try.f10.params.toList ++ Rows.fnExactResumeSpec.plain.varTypes Try.prog ++ Try.f10.resultTypes.toList).any (Try.prog.wideKeysFrom ·))) = true := by kernel_rfl
theorem jf18 : (Rows.fnExactResumeSpec.vars.all (Try.prog.varReadable ·)) = true := by kernel_rfl
theorem jf19 : (Try.f10.resultTypes.all (fun t => Try.prog.readableRec t && decide (t < Try.prog.types.size))) = true := by kernel_rfl
theorem jf20 : ((Rows.fnExactResumeRow.ifacesOut == Try.f10.resultTypes.toList.any (Try.prog.ifacesRec ·))) = true := by kernel_rfl
theorem jf21 : ((Rows.fnExactResumeRow.loopsOut == Try.f10.resultTypes.toList.any (Try.prog.loopsFrom ·))) = true := by kernel_rfl
theorem jf22 : ((Rows.fnExactResumeRow.plainKeys == Try.prog.plainKeys)) = true := by
  rw [show Rows.fnExactResumeRow.plainKeys = true from rfl]
  exact js22
theorem jf23 : (Rows.fnExactResumeRow.shortTexts.isNone) = true := by kernel_rfl
theorem jf26 : ((Rows.fnExactResumeRow.lifted == Try.prog.liftsFinal)) = true := by
  rw [show Rows.fnExactResumeRow.lifted = false from rfl]
  exact js26
theorem jf27 : ((Try.prog.make == some Rows.fnExactResumeRow.make)) = true := by
  rw [show Rows.fnExactResumeRow.make = Make.cut from rfl]
  exact js27
theorem jf29 : ((Rows.fnExactResumeRow.pinned == Rows.fnExactResumeRow.pinnedBy)) = true := by kernel_rfl
theorem jf30 : ((Rows.fnExactResumeRow.veiled == (Try.f10.params.toList ++ Rows.fnExactResumeSpec.plain.varTypes Try.prog ++ Try.f10.resultTypes.toList).any (Try.prog.veiledRec ·))) = true := by kernel_rfl
theorem jf31 : (Rows.fnExactResumeRow.veiledFits Try.prog Try.f10.params.toList (Try.f10.params.toList ++ Rows.fnExactResumeSpec.plain.varTypes Try.prog ++ Try.f10.resultTypes.toList)) = true := by kernel_rfl
theorem closed : joinedFacts Try.prog 10 Try.f10 Rows.fnExactResumeSpec Rows.fnExactResumeRow = true := by
  unfold joinedFacts
  exact and_all jf0 js1 js2 jf3 jf4 jf5 js6 jf7 js8 jf9 jf10 jf11 jf12 jf13 jf14 jf15 jf16 jf17 jf18 jf19 jf20 jf21 jf22 jf23 js24 js25 jf26 jf27 (by kernel_rfl) jf29 jf30 jf31
theorem over : Rows.fnExactResumeRow.holds Try.pinned (OpenSpec.ofChange Rows.fnExactResumeSpec) :=
  OpenClaim.holds_of_wide 10 Try.f10 rfl rfl rfl rfl rfl rfl rfl ⟨rfl, rfl, rfl, rfl, rfl⟩ rfl rfl rfl rfl rfl (by kernel_rfl) Try.func10 closed
    (of_decide_eq_true (by kernel_rfl)) (by unfold Func.isWrapper; first | (rw [if_pos (by decide +kernel)]; kernel_rfl) | (rw [if_neg (by decide +kernel)]; exact ⟨rfl, rfl⟩))
    (fun os started H enc _ => lifted os started H enc)

theorem exactResume_holds : Rows.FnExactResumeSaid := over
#print axioms exactResume_holds
end Go.Proofs.Ytfgknbflgmblmaa
