/-
  Proved: at every ring and every number the law on Unwait answers true (the program's Unwait answers as its specification, and writes into no argument), and the arguments read afterwards as they read before. No condition.
-/
import Derived.Test.YtihdglmiecifjaaGreatZRa0
import Derived.Test.YtihdglmiecifjaaGreatZRa55
import Derived.Test.YtihdglmiecifjaaGreatZRa56
import Derived.Test.YtihdglmiecifjaaGreatZRa38
import Derived.Test.YtihdglmiecifjaaGreatZRa11
import Derived.ProofKit
import Derived.OpenShut
import Derived.ChangeOld
import Derived.Lib.SmallJoins
namespace Go.Proofs.YtihdglmiecifjaaGreat
open Go.ChangeShapes Go.WideShapes Go.ChangeAt Go.RowKit Go.Joins

theorem own : ownKnob Tryz.prog.godebug = none := by kernel_rfl
theorem laidOut : laidOutB Tryz.prog = true := js1

set_option maxRecDepth 100000 in
theorem lifted (os : Os) (started : os.Started) (H : Type) (enc : TypeId × Value → H) :
    ReturnsInHanded {} Tryz.checked os 13 .any (Rows.fnExactUnwaitSpec.pre6 enc Tryz.prog Tryz.f13 Rows.fnExactUnwaitRow.domain false) (Rows.fnExactUnwaitSpec.post enc Tryz.prog Tryz.f13 false true false false) := by
  refine returnsInHanded_of_change (C := Tryz.checked) own started (by kernel_rfl) Tryz.func13
    (ChangeSpec.witness6 (enc := enc) (C := Tryz.checked) false ⟨#[], #[.agg #[.int .i64 0, .int .i64 0, .slice none 0 0, .int .i64 0, .slice none 0 0, .slice none 0 0, .slice none 0 0, .bool false], .int .i64 0], []⟩ 8 (by kernel_rfl) (by kernel_rfl) (by kernel_rfl) (by kernel_rfl)) ?_
  intro W base args ds gs before hval0 hW hcnd _
  have hval : ∀ (j : Nat) t v, Tryz.f13.params[j]? = some t → args[j]? = some v → Value.okWide Tryz.prog W .any base t v := hval0
  have hW' := hW
  obtain ⟨p, q, hA0, hV, rfl, hfz, hnd⟩ := hW
  have hA : DataW.TrodAll enc Tryz.prog W 0 (fun _ => true) true Tryz.f13.params.toList args.toList ds p := hA0
  rw [Tryz.params13] at hA hval
  obtain ⟨v0, vs0, d0, ds0, p0, q0, hargs, rfl, rfl, h0, r0⟩ := trodAll_cons hA
  obtain ⟨v1, vs1, d1, ds1, p1, q1, hargs1, rfl, rfl, h1, r1⟩ := trodAll_cons r0
  obtain ⟨rfl, rfl, rfl⟩ := trodAll_nil r1
  obtain rfl : args = #[v0, v1] := by cases args; simp_all
  obtain ⟨rfl, rfl⟩ := trodVars_none hV
  obtain ⟨y1, rfl⟩ := okWide_int Tryz.underlying3 (hval 1 3 v1 rfl rfl)
  have hx1 : (Lit.int .i64 y1).wf = true := by
    obtain ⟨fuel, hf⟩ := id h1
    obtain ⟨x', e, _, hwx⟩ := DataW.trod_int Tryz.underlying3 hf
    simp [Value.cells] at e
    subst e
    exact hwx
  have k0 := h0
  have lt0 : ∀ x ∈ p0, x.block < W.heap.size := by obtain ⟨m, hm⟩ := k0; exact DataW.trod_lt m _ _ _ hm
  have k1 := h1
  have lt1 : ∀ x ∈ p1, x.block < W.heap.size := by obtain ⟨m, hm⟩ := k1; exact DataW.trod_lt m _ _ _ hm
  obtain ⟨M, x, rfl, hm, hi, hw⟩ := ring_arg (hval 0 68 v0 rfl rfl) h0
  clear hA0 hval0
  refine (exactUnwait_of y1 x (unwR x y1) (unwC x y1) (fun M w hI hl hC => specUnwait_any M x y1 w hI hl hC hw hx1) (fun M w hI hl hC => implUnwait_any M x y1 w hI hl hC hw hx1) M W hi hm).mono fun e W' ⟨he, bel⟩ => ?_
  subst he
  exact ⟨_, rfl, _, _, _, [], _, [], hW', trodAll_mk1 (shut_bool Tryz.underlying4 _), (trodAll_cons_mk (Below.trod laidOut (by kernel_rfl) (of_decide_eq_true (by kernel_rfl)) k0 bel lt0) (trodAll_cons_mk (Below.trod laidOut (by kernel_rfl) (of_decide_eq_true (by kernel_rfl)) k1 bel lt1) trodAll_mk0)), rfl, bel.frame _, fun h => by cases h⟩

theorem jf0 : (Rows.fnExactUnwaitRow.wf (OpenSpec.ofChange Rows.fnExactUnwaitSpec)) = true := by kernel_rfl
theorem jf3 : (Tryz.f13.params.all (Tryz.prog.readableRec ·)) = true := by kernel_rfl
theorem jf4 : (namedTie Tryz.prog Rows.fnExactUnwaitRow.named Rows.fnExactUnwaitSpec.vars) = true := by kernel_rfl
theorem jf5 : ((Rows.fnExactUnwaitRow.stops == [])) = true := by kernel_rfl
theorem jf7 : ((Rows.fnExactUnwaitRow.knobs == [])) = true := by kernel_rfl
theorem jf9 : ((Rows.fnExactUnwaitRow.inPlace == Tryz.prog.inPlace 13)) = true := by kernel_rfl
theorem jf10 : ((Rows.fnExactUnwaitRow.unfollowed == Tryz.prog.unfollowed 13)) = true := by kernel_rfl
theorem jf11 : ((Rows.fnExactUnwaitRow.recurses == Tryz.prog.recurses 13)) = true := by kernel_rfl
theorem jf12 : ((Rows.fnExactUnwaitRow.named == Tryz.prog.varsNamed 13)) = true := by kernel_rfl
theorem jf13 : ((Rows.fnExactUnwaitRow.maps == (Tryz.f13.params.toList ++ Rows.fnExactUnwaitSpec.plain.varTypes Tryz.prog).any (Tryz.prog.mapsRec ·))) = true := by kernel_rfl
theorem jf14 : ((Rows.fnExactUnwaitRow.ifaces == (Tryz.f13.params.toList ++ Rows.fnExactUnwaitSpec.plain.varTypes Tryz.prog).any (Tryz.prog.ifacesRec ·))) = true := by kernel_rfl
theorem jf15 : ((Rows.fnExactUnwaitRow.mapsOut == Tryz.prog.mapsAmong Tryz.f13.resultTypes.toList)) = true := by kernel_rfl
theorem jf16 : ((Rows.fnExactUnwaitRow.loops == (Tryz.f13.params.toList ++ Rows.fnExactUnwaitSpec.plain.varTypes Tryz.prog).any (Tryz.prog.loopsFrom ·))) = true := by kernel_rfl
theorem jf17 : ((Rows.fnExactUnwaitRow.wideKeys == (Tryz.f13.params.toList ++ Rows.fnExactUnwaitSpec.plain.varTypes Tryz.prog ++ Tryz.f13.resultTypes.toList).any (Tryz.prog.wideKeysFrom ·))) = true := by kernel_rfl
theorem jf18 : (Rows.fnExactUnwaitSpec.vars.all (Tryz.prog.varReadable ·)) = true := by kernel_rfl
theorem jf19 : (Tryz.f13.resultTypes.all (fun t => Tryz.prog.readableRec t && decide (t < Tryz.prog.types.size))) = true := by kernel_rfl
theorem jf20 : ((Rows.fnExactUnwaitRow.ifacesOut == Tryz.f13.resultTypes.toList.any (Tryz.prog.ifacesRec ·))) = true := by kernel_rfl
theorem jf21 : ((Rows.fnExactUnwaitRow.loopsOut == Tryz.f13.resultTypes.toList.any (Tryz.prog.loopsFrom ·))) = true := by kernel_rfl
theorem jf22 : ((Rows.fnExactUnwaitRow.plainKeys == Tryz.prog.plainKeys)) = true := by
  rw [show Rows.fnExactUnwaitRow.plainKeys = true from rfl]
  exact js22
theorem jf23 : (Rows.fnExactUnwaitRow.shortTexts.isNone) = true := by kernel_rfl
theorem jf26 : ((Rows.fnExactUnwaitRow.lifted == Tryz.prog.liftsFinal)) = true := by
  rw [show Rows.fnExactUnwaitRow.lifted = false from rfl]
  exact js26
theorem jf27 : ((Tryz.prog.make == some Rows.fnExactUnwaitRow.make)) = true := by
  rw [show Rows.fnExactUnwaitRow.make = Make.cut from rfl]
  exact js27
theorem jf29 : ((Rows.fnExactUnwaitRow.pinned == Rows.fnExactUnwaitRow.pinnedBy)) = true := by kernel_rfl
theorem jf30 : ((Rows.fnExactUnwaitRow.veiled == (Tryz.f13.params.toList ++ Rows.fnExactUnwaitSpec.plain.varTypes Tryz.prog ++ Tryz.f13.resultTypes.toList).any (Tryz.prog.veiledRec ·))) = true := by kernel_rfl
theorem jf31 : (Rows.fnExactUnwaitRow.veiledFits Tryz.prog Tryz.f13.params.toList (Tryz.f13.params.toList ++ Rows.fnExactUnwaitSpec.plain.varTypes Tryz.prog ++ Tryz.f13.resultTypes.toList)) = true := by kernel_rfl
theorem closed : joinedFacts Tryz.prog 13 Tryz.f13 Rows.fnExactUnwaitSpec Rows.fnExactUnwaitRow = true := by
  unfold joinedFacts
  exact and_all jf0 js1 js2 jf3 jf4 jf5 js6 jf7 js8 jf9 jf10 jf11 jf12 jf13 jf14 jf15 jf16 jf17 jf18 jf19 jf20 jf21 jf22 jf23 js24 js25 jf26 jf27 (by kernel_rfl) jf29 jf30 jf31
theorem over : Rows.fnExactUnwaitRow.holds Tryz.pinned (OpenSpec.ofChange Rows.fnExactUnwaitSpec) :=
  OpenClaim.holds_of_wide 13 Tryz.f13 rfl rfl rfl rfl rfl rfl rfl ⟨rfl, rfl, rfl, rfl, rfl⟩ rfl rfl rfl rfl rfl (by kernel_rfl) Tryz.func13 closed
    (of_decide_eq_true (by kernel_rfl)) (by unfold Func.isWrapper; first | (rw [if_pos (by decide +kernel)]; kernel_rfl) | (rw [if_neg (by decide +kernel)]; exact ⟨rfl, rfl⟩))
    (fun os started H enc _ => lifted os started H enc)

theorem exactUnwait_holds : Rows.FnExactUnwaitSaid := over
#print axioms exactUnwait_holds
end Go.Proofs.YtihdglmiecifjaaGreat
