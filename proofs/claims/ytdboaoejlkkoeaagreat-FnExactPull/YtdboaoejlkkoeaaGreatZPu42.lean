/-
  Proved: at every ring and every two numbers the law on Pull answers true (the program's Pull answers as its specification, and writes into no argument), and the arguments read afterwards as they read before. No condition.
-/
import Derived.Test.YtdboaoejlkkoeaaGreatZPu36
import Derived.Test.YtdboaoejlkkoeaaGreatZPu40
import Derived.Test.YtdboaoejlkkoeaaGreatZPu41
import Derived.HandedShaped
import Derived.Shelf.Vars
namespace Go.Proofs.YtdboaoejlkkoeaaGreat
open Go.ChangeShapes Go.WideShapes Go.ChangeAt Go.RowKit Go.Joins Go.Shelf
theorem own : ownKnob Tryz.prog.godebug = none := by kernel_rfl
theorem laidOut : laidOutB Tryz.prog = true := js1
theorem gok_of {W : World} (h : W.ShapedOpen Tryz.prog) : GOk W :=
  cell_of_shapedOpen_int (P := Tryz.prog) (g := 0) (t := 3) (zero := #[.int .i64 0]) h (of_decide_eq_true (by kernel_rfl)) (by kernel_rfl) rfl (by kernel_rfl) (by kernel_rfl) Tryz.underlying3
set_option maxRecDepth 100000 in
theorem lifted (os : Os) (started : os.Started) (H : Type) (enc : TypeId × Value → H) :
  ReturnsInHanded {} Tryz.checked os 15 .any (Rows.fnExactPullSpec.pre6 enc Tryz.prog Tryz.f15 Rows.fnExactPullRow.domain false) (Rows.fnExactPullSpec.post enc Tryz.prog Tryz.f15 false true false false) := by
 refine returnsInHanded_of_change_shaped (C := Tryz.checked) own started (by kernel_rfl) Tryz.func15
  (ChangeSpec.witness6 (enc := enc) (C := Tryz.checked) false ⟨#[], #[.agg #[.int .i64 0, .int .i64 0, .slice none 0 0, .int .i64 0, .slice none 0 0, .slice none 0 0, .slice none 0 0, .bool false], .int .i64 0, .int .i64 0], []⟩ 8 (by kernel_rfl) (by kernel_rfl) (by kernel_rfl) (by kernel_rfl)) ?_
 intro W base args ds gs before hval0 hW hcnd _ hsh _
 have hval : ∀ (j : Nat) t v, Tryz.f15.params[j]? = some t → args[j]? = some v → Value.okWide Tryz.prog W .any base t v := hval0
 have hW' := hW
 obtain ⟨p, q, hA0, hV, rfl, hfz, hnd⟩ := hW
 have hA : DataW.TrodAll enc Tryz.prog W 0 (fun _ => true) true Tryz.f15.params.toList args.toList ds p := hA0
 rw [Tryz.params15] at hA hval
 obtain ⟨v0, vs0, d0, ds0, p0, q0, hargs, rfl, rfl, h0, r0⟩ := trodAll_cons hA
 obtain ⟨v1, vs1, d1, ds1, p1, q1, hargs1, rfl, rfl, h1, r1⟩ := trodAll_cons r0
 obtain ⟨v2, vs2, d2, ds2, p2, q2, hargs2, rfl, rfl, h2, r2⟩ := trodAll_cons r1
 obtain ⟨rfl, rfl, rfl⟩ := trodAll_nil r2
 obtain rfl : args = #[v0, v1, v2] := by cases args; simp_all
 obtain ⟨rfl, rfl⟩ := trodVars_none hV
 obtain ⟨y1, rfl⟩ := okWide_int Tryz.underlying3 (hval 1 3 v1 rfl rfl)
 obtain ⟨y2, rfl⟩ := okWide_int Tryz.underlying3 (hval 2 3 v2 rfl rfl)
 have hx1 : (Lit.int .i64 y1).wf = true := by
  obtain ⟨fuel, hf⟩ := id h1
  obtain ⟨x', e, _, hwx⟩ := DataW.trod_int Tryz.underlying3 hf
  simp [Value.cells] at e
  subst e
  exact hwx
 have hx2 : (Lit.int .i64 y2).wf = true := by
  obtain ⟨fuel, hf⟩ := id h2
  obtain ⟨x', e, _, hwx⟩ := DataW.trod_int Tryz.underlying3 hf
  simp [Value.cells] at e
  subst e
  exact hwx
 have k0 := h0
 have lt0 : ∀ x ∈ p0, x.block < W.heap.size := by obtain ⟨m, hm⟩ := k0; exact DataW.trod_lt m _ _ _ hm
 have k1 := h1
 have lt1 : ∀ x ∈ p1, x.block < W.heap.size := by obtain ⟨m, hm⟩ := k1; exact DataW.trod_lt m _ _ _ hm
 have k2 := h2
 have lt2 : ∀ x ∈ p2, x.block < W.heap.size := by obtain ⟨m, hm⟩ := k2; exact DataW.trod_lt m _ _ _ hm
 obtain ⟨M, x, rfl, hm, hi, hw⟩ := ring_arg (hval 0 68 v0 rfl rfl) h0
 clear hA0 hval0
 have hG : GOk W := gok_of hsh
 refine (exactPull_of y1 y2 x (pulR x y1 y2) (pulT x y1 y2) (pulC x y1 y2) (fun M w hI hl hC => (specPull_any M x y1 y2 w hI hl hC hw).mono fun e w' h => h.weak (pulT_len x y1 y2)) (fun M w hI hl hC hg => (implPull_any M x y1 y2 w hI hl hC hw hx1 hg).mono fun e w' h => h.weak (pulT_len x y1 y2)) M W hi hm hG).mono fun e W' ⟨he, bel⟩ => ?_
 subst he
 exact ⟨_, rfl, _, _, _, [], _, [], hW', trodAll_mk1 (shut_bool Tryz.underlying4 _), (trodAll_cons_mk (Below.trod laidOut (by kernel_rfl) (of_decide_eq_true (by kernel_rfl)) k0 bel lt0) (trodAll_cons_mk (Below.trod laidOut (by kernel_rfl) (of_decide_eq_true (by kernel_rfl)) k1 bel lt1) (trodAll_cons_mk (Below.trod laidOut (by kernel_rfl) (of_decide_eq_true (by kernel_rfl)) k2 bel lt2) trodAll_mk0))), rfl, bel.frame _, fun h => by cases h⟩
theorem jf0 : (Rows.fnExactPullRow.wf (OpenSpec.ofChange Rows.fnExactPullSpec)) = true := by kernel_rfl
theorem jf3 : (Tryz.f15.params.all (Tryz.prog.readableRec ·)) = true := by kernel_rfl
theorem jf4 : (namedTie Tryz.prog Rows.fnExactPullRow.named Rows.fnExactPullSpec.vars) = true := by kernel_rfl
theorem jf5 : ((Rows.fnExactPullRow.stops == [])) = true := by kernel_rfl
theorem jf7 : ((Rows.fnExactPullRow.knobs == [])) = true := by kernel_rfl
theorem jf9 : ((Rows.fnExactPullRow.inPlace == Tryz.prog.inPlace 15)) = true := by kernel_rfl
theorem jf10 : ((Rows.fnExactPullRow.unfollowed == Tryz.prog.unfollowed 15)) = true := by kernel_rfl
theorem jf11 : ((Rows.fnExactPullRow.recurses == Tryz.prog.recurses 15)) = true := by kernel_rfl
theorem jf12 : ((Rows.fnExactPullRow.named == Tryz.prog.varsNamed 15)) = true := by kernel_rfl
theorem jf13 : ((Rows.fnExactPullRow.maps == (Tryz.f15.params.toList ++ Rows.fnExactPullSpec.plain.varTypes Tryz.prog).any (Tryz.prog.mapsRec ·))) = true := by kernel_rfl
theorem jf14 : ((Rows.fnExactPullRow.ifaces == (Tryz.f15.params.toList ++ Rows.fnExactPullSpec.plain.varTypes Tryz.prog).any (Tryz.prog.ifacesRec ·))) = true := by kernel_rfl
theorem jf15 : ((Rows.fnExactPullRow.mapsOut == Tryz.prog.mapsAmong Tryz.f15.resultTypes.toList)) = true := by kernel_rfl
theorem jf16 : ((Rows.fnExactPullRow.loops == (Tryz.f15.params.toList ++ Rows.fnExactPullSpec.plain.varTypes Tryz.prog).any (Tryz.prog.loopsFrom ·))) = true := by kernel_rfl
theorem jf17 : ((Rows.fnExactPullRow.wideKeys == (Tryz.f15.params.toList ++ Rows.fnExactPullSpec.plain.varTypes Tryz.prog ++ Tryz.f15.resultTypes.toList).any (Tryz.prog.wideKeysFrom ·))) = true := by kernel_rfl
theorem jf18 : (Rows.fnExactPullSpec.vars.all (Tryz.prog.varReadable ·)) = true := by kernel_rfl
theorem jf19 : (Tryz.f15.resultTypes.all (fun t => Tryz.prog.readableRec t && decide (t < Tryz.prog.types.size))) = true := by kernel_rfl
theorem jf20 : ((Rows.fnExactPullRow.ifacesOut == Tryz.f15.resultTypes.toList.any (Tryz.prog.ifacesRec ·))) = true := by kernel_rfl
theorem jf21 : ((Rows.fnExactPullRow.loopsOut == Tryz.f15.resultTypes.toList.any (Tryz.prog.loopsFrom ·))) = true := by kernel_rfl
theorem jf22 : ((Rows.fnExactPullRow.plainKeys == Tryz.prog.plainKeys)) = true := by
  rw [show Rows.fnExactPullRow.plainKeys = true from rfl]
  exact js22
theorem jf23 : (Rows.fnExactPullRow.shortTexts.isNone) = true := by kernel_rfl
theorem jf26 : ((Rows.fnExactPullRow.lifted == Tryz.prog.liftsFinal)) = true := by
  rw [show Rows.fnExactPullRow.lifted = false from rfl]
  exact js26
theorem jf27 : ((Tryz.prog.make == some Rows.fnExactPullRow.make)) = true := by
  rw [show Rows.fnExactPullRow.make = Make.cut from rfl]
  exact js27
theorem jf29 : ((Rows.fnExactPullRow.pinned == Rows.fnExactPullRow.pinnedBy)) = true := by kernel_rfl
theorem jf30 : ((Rows.fnExactPullRow.veiled == (Tryz.f15.params.toList ++ Rows.fnExactPullSpec.plain.varTypes Tryz.prog ++ Tryz.f15.resultTypes.toList).any (Tryz.prog.veiledRec ·))) = true := by kernel_rfl
theorem jf31 : (Rows.fnExactPullRow.veiledFits Tryz.prog Tryz.f15.params.toList (Tryz.f15.params.toList ++ Rows.fnExactPullSpec.plain.varTypes Tryz.prog ++ Tryz.f15.resultTypes.toList)) = true := by kernel_rfl
theorem closed : joinedFacts Tryz.prog 15 Tryz.f15 Rows.fnExactPullSpec Rows.fnExactPullRow = true := by
  unfold joinedFacts
  exact and_all jf0 js1 js2 jf3 jf4 jf5 js6 jf7 js8 jf9 jf10 jf11 jf12 jf13 jf14 jf15 jf16 jf17 jf18 jf19 jf20 jf21 jf22 jf23 js24 js25 jf26 jf27 (by kernel_rfl) jf29 jf30 jf31
theorem over : Rows.fnExactPullRow.holds Tryz.pinned (OpenSpec.ofChange Rows.fnExactPullSpec) :=
  OpenClaim.holds_of_wide 15 Tryz.f15 rfl rfl rfl rfl rfl rfl rfl ⟨rfl, rfl, rfl, rfl, rfl⟩ rfl rfl rfl rfl rfl (by kernel_rfl) Tryz.func15 closed
    (of_decide_eq_true (by kernel_rfl)) (by unfold Func.isWrapper; first | (rw [if_pos (by decide +kernel)]; kernel_rfl) | (rw [if_neg (by decide +kernel)]; exact ⟨rfl, rfl⟩))
    (fun os started H enc _ => lifted os started H enc)
theorem exactPull_holds : Rows.FnExactPullSaid := over
#print axioms exactPull_holds
end Go.Proofs.YtdboaoejlkkoeaaGreat
