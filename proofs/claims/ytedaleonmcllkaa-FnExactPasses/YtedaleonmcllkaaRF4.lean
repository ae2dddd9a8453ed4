/-
  Proved: at every list of terms and every message the law on Passes answers true (the program's Passes answers as its specification, and writes into no argument), and passes read afterwards as they read before. No condition.
-/
import Derived.Test.YtedaleonmcllkaaWF4
import Derived.Test.YtedaleonmcllkaaJS
import Derived.Test.YtedaleonmcllkaaL8
import Derived.ProofKit
import Derived.OpenShut
import Derived.ChangeOld
import Derived.HandedShaped
import Derived.Shelf.Vars
import Derived.Lib.SmallJoins
namespace Go.Proofs.Ytedaleonmcllkaa
open Go.ChangeShapes Go.WideShapes Go.ChangeAt Go.RowKit Go.Joins Go.Shelf

theorem own : ownKnob Try.prog.godebug = none := by kernel_rfl
theorem laidOut : laidOutB Try.prog = true := js1

theorem cellsPi : Try.prog.cellsOf 3 = 1 := by kernel_rfl
theorem cellsPs : Try.prog.cellsOf 9 = 1 := by kernel_rfl
set_option maxRecDepth 100000 in
/-- A message among the arguments. -/
theorem msg_argP {H : Type} {enc : TypeId × Value → H} {W : World} {base b0 : Nat} {v : Value} {d : DataW H} {p : List MemPlace} {r : Reach} (hv : Value.okWide Try.prog W r b0 45 v) (h : DataW.Trod enc Try.prog W base (fun _ => true) true 45 v d p) :
    ∃ (k n : Int) (s : ByteArray), v = .agg #[.int .i64 k, .int .i64 n, .string s] ∧ s.size ≤ maxLen := by
  obtain ⟨cs, rfl, hsz⟩ := okWide_struct Try.underlying45 hv
  have hszn : cs.size = 3 := hsz.trans (by kernel_rfl)
  obtain ⟨cl⟩ := cs
  match cl, hszn with
  | [c0, c1, c2], _ =>
    obtain ⟨fuel, hf⟩ := h
    obtain ⟨zs, m', _, _, _, hlenz, hgg⟩ := DataW.trod_struct Try.underlying45 hf
    match zs, hlenz with
    | [z0, z1, z2], _ =>
      have r0 : DataW.trod enc Try.prog W base (fun _ => true) true m' 3 [c0] = some z0 := by simpa [Value.cells, cellsPi] using hgg 0 _ rfl
      have r1 : DataW.trod enc Try.prog W base (fun _ => true) true m' 3 [c1] = some z1 := by simpa [Value.cells, cellsPi] using hgg 1 _ rfl
      have r2 : DataW.trod enc Try.prog W base (fun _ => true) true m' 9 [c2] = some z2 := by simpa [Value.cells, cellsPs] using hgg 2 _ rfl
      obtain ⟨k, e0, _, _⟩ := DataW.trod_int Try.underlying3 r0
      obtain ⟨n, e1, _, _⟩ := DataW.trod_int Try.underlying3 r1
      obtain ⟨s, e2, _, hs⟩ := DataW.trod_string Try.underlying9 r2
      simp only [List.cons.injEq, and_true] at e0 e1 e2
      subst e0 e1 e2
      exact ⟨k, n, s, rfl, hs⟩
theorem gok_of {W : World} (h : W.ShapedOpen Try.prog) : GOk W :=
  cell_of_shapedOpen_int (P := Try.prog) (g := 0) (t := 3) (zero := #[.int .i64 0]) h (of_decide_eq_true (by kernel_rfl)) (by kernel_rfl) rfl (by kernel_rfl) (by kernel_rfl) Try.underlying3
set_option maxRecDepth 100000 in
theorem lifted (os : Os) (started : os.Started) (H : Type) (enc : TypeId × Value → H) :
    ReturnsInHanded {} Try.checked os 6 .any (Rows.fnExactPassesSpec.pre6 enc Try.prog Try.f6 Rows.fnExactPassesRow.domain false) (Rows.fnExactPassesSpec.post enc Try.prog Try.f6 false true false false) := by
  refine returnsInHanded_of_change_shaped (C := Try.checked) own started (by kernel_rfl) Try.func6
    (ChangeSpec.witness6 (enc := enc) (C := Try.checked) false ⟨#[], #[.slice none 0 0, .agg #[.int .i64 0, .int .i64 0, .string ⟨#[]⟩]], []⟩ 8 (by kernel_rfl) (by kernel_rfl) (by kernel_rfl) (by kernel_rfl)) ?_
  intro W base args ds gs before hval0 hW hcnd _ hsh _
  have hval : ∀ (j : Nat) t v, Try.f6.params[j]? = some t → args[j]? = some v → Value.okWide Try.prog W .any base t v := hval0
  have hW' := hW
  obtain ⟨p, q, hA0, hV, rfl, hfz, hnd⟩ := hW
  have hA : DataW.TrodAll enc Try.prog W 0 (fun _ => true) true Try.f6.params.toList args.toList ds p := hA0
  rw [Try.params6] at hA hval
  obtain ⟨v0, vs0, d0, ds0, p0, q0, hargs, rfl, rfl, h0, r0⟩ := trodAll_cons hA
  obtain ⟨v1, vs1, d1, ds1, p1, q1, hargs1, rfl, rfl, h1, r1⟩ := trodAll_cons r0
  obtain ⟨rfl, rfl, rfl⟩ := trodAll_nil r1
  obtain rfl : args = #[v0, v1] := by cases args; simp_all
  obtain ⟨rfl, rfl⟩ := trodVars_none hV
  obtain ⟨a0, len0, cap0, rfl⟩ := okWide_slice Try.underlying40 (hval 0 40 v0 rfl rfl)
  obtain ⟨k, n, s, rfl, hs⟩ := msg_argP (hval 1 45 v1 rfl rfl) h1
  have k0 := h0
  have k1 := h1
  have lt1 : ∀ x ∈ p1, x.block < W.heap.size := by obtain ⟨m, hm⟩ := k1; exact DataW.trod_lt m _ _ _ hm
  have lt0 : ∀ x ∈ p0, x.block < W.heap.size := by obtain ⟨m, hm⟩ := k0; exact DataW.trod_lt m _ _ _ hm
  clear hA0 hval0
  obtain ⟨fuel, hf⟩ := h0
  obtain ⟨hlen, hts⟩ := terms_of hf
  refine (exactPasses_any a0 len0 cap0 k n s W hlen hts hs (gok_of hsh)).mono fun e W' ⟨he, bel⟩ => ?_
  subst he
  exact ⟨_, rfl, _, _, _, [], _, [], hW', trodAll_mk1 (shut_bool Try.underlying4 _), (trodAll_cons_mk (Below.trod laidOut (by kernel_rfl) (of_decide_eq_true (by kernel_rfl)) k0 bel lt0) (trodAll_cons_mk (Below.trod laidOut (by kernel_rfl) (of_decide_eq_true (by kernel_rfl)) k1 bel lt1) trodAll_mk0)), rfl, bel.frame _, fun h => by cases h⟩

theorem jf0 : (Rows.fnExactPassesRow.wf (OpenSpec.ofChange Rows.fnExactPassesSpec)) = true := by kernel_rfl
theorem jf3 : (Try.f6.params.all (Try.prog.readableRec ·)) = true := by kernel_rfl
theorem jf4 : (namedTie Try.prog Rows.fnExactPassesRow.named Rows.fnExactPassesSpec.vars) = true := by kernel_rfl
theorem jf5 : ((Rows.fnExactPassesRow.stops == [])) = true := by kernel_rfl
theorem jf7 : ((Rows.fnExactPassesRow.knobs == [])) = true := by kernel_rfl
theorem jf9 : ((Rows.fnExactPassesRow.inPlace == Try.prog.inPlace 6)) = true := by kernel_rfl
theorem jf10 : ((Rows.fnExactPassesRow.unfollowed == Try.prog.unfollowed 6)) = true := by kernel_rfl
theorem jf11 : ((Rows.fnExactPassesRow.recurses == Try.prog.recurses 6)) = true := by kernel_rfl
theorem jf12 : ((Rows.fnExactPassesRow.named == Try.prog.varsNamed 6)) = true := by kernel_rfl
theorem jf13 : ((Rows.fnExactPassesRow.maps == (Try.f6.params.toList ++ Rows.fnExactPassesSpec.plain.varTypes Try.prog).any (Try.prog.mapsRec ·))) = true := by kernel_rfl
theorem jf14 : ((Rows.fnExactPassesRow.ifaces == (Try.f6.params.toList ++ Rows.fnExactPassesSpec.plain.varTypes Try.prog).any (Try.prog.ifacesRec ·))) = true := by kernel_rfl
theorem jf15 : ((Rows.fnExactPassesRow.mapsOut == Try.prog.mapsAmong Try.f6.resultTypes.toList)) = true := by kernel_rfl
theorem jf16 : ((Rows.fnExactPassesRow.loops == (Try.f6.params.toList ++ Rows.fnExactPassesSpec.plain.varTypes Try.prog).any (Try.prog.loopsFrom ·))) = true := by kernel_rfl
theorem jf17 : ((Rows.fnExactPassesRow.wideKeys == (Try.f6.params.toList ++ Rows.fnExactPassesSpec.plain.varTypes Try.prog ++ Try.f6.resultTypes.toList).any (Try.prog.wideKeysFrom ·))) = true := by kernel_rfl
theorem jf18 : (Rows.fnExactPassesSpec.vars.all (Try.prog.varReadable ·)) = true := by kernel_rfl
theorem jf19 : (Try.f6.resultTypes.all (fun t => Try.prog.readableRec t && decide (t < Try.prog.types.size))) = true := by kernel_rfl
theorem jf20 : ((Rows.fnExactPassesRow.ifacesOut == Try.f6.resultTypes.toList.any (Try.prog.ifacesRec ·))) = true := by kernel_rfl
theorem jf21 : ((Rows.fnExactPassesRow.loopsOut == Try.f6.resultTypes.toList.any (Try.prog.loopsFrom ·))) = true := by kernel_rfl
theorem jf22 : ((Rows.fnExactPassesRow.plainKeys == Try.prog.plainKeys)) = true := by
  rw [show Rows.fnExactPassesRow.plainKeys = true from rfl]
  exact js22
theorem jf23 : (Rows.fnExactPassesRow.shortTexts.isNone) = true := by kernel_rfl
theorem jf26 : ((Rows.fnExactPassesRow.lifted == Try.prog.liftsFinal)) = true := by
  rw [show Rows.fnExactPassesRow.lifted = false from rfl]
  exact js26
theorem jf27 : ((Try.prog.make == some Rows.fnExactPassesRow.make)) = true := by
  rw [show Rows.fnExactPassesRow.make = Make.cut from rfl]
  exact js27
theorem jf29 : ((Rows.fnExactPassesRow.pinned == Rows.fnExactPassesRow.pinnedBy)) = true := by kernel_rfl
theorem jf30 : ((Rows.fnExactPassesRow.veiled == (Try.f6.params.toList ++ Rows.fnExactPassesSpec.plain.varTypes Try.prog ++ Try.f6.resultTypes.toList).any (Try.prog.veiledRec ·))) = true := by kernel_rfl
theorem jf31 : (Rows.fnExactPassesRow.veiledFits Try.prog Try.f6.params.toList (Try.f6.params.toList ++ Rows.fnExactPassesSpec.plain.varTypes Try.prog ++ Try.f6.resultTypes.toList)) = true := by kernel_rfl
theorem closed : joinedFacts Try.prog 6 Try.f6 Rows.fnExactPassesSpec Rows.fnExactPassesRow = true := by
  unfold joinedFacts
  exact and_all jf0 js1 js2 jf3 jf4 jf5 js6 jf7 js8 jf9 jf10 jf11 jf12 jf13 jf14 jf15 jf16 jf17 jf18 jf19 jf20 jf21 jf22 jf23 js24 js25 jf26 jf27 (by kernel_rfl) jf29 jf30 jf31
theorem over : Rows.fnExactPassesRow.holds Try.pinned (OpenSpec.ofChange Rows.fnExactPassesSpec) :=
  OpenClaim.holds_of_wide 6 Try.f6 rfl rfl rfl rfl rfl rfl rfl ⟨rfl, rfl, rfl, rfl, rfl⟩ rfl rfl rfl rfl rfl (by kernel_rfl) Try.func6 closed
    (of_decide_eq_true (by kernel_rfl)) (by unfold Func.isWrapper; first | (rw [if_pos (by decide +kernel)]; kernel_rfl) | (rw [if_neg (by decide +kernel)]; exact ⟨rfl, rfl⟩))
    (fun os started H enc _ => lifted os started H enc)

theorem exactPasses_holds : Rows.FnExactPassesSaid := over
#print axioms exactPasses_holds
end Go.Proofs.Ytedaleonmcllkaa
