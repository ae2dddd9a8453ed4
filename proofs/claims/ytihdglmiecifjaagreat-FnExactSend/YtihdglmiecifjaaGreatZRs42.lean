/-
  Proved: at every ring and every message the law on Send answers true (the program's Send answers as its specification, and writes into no argument), and the arguments read afterwards as they read before. No condition.
-/
import Derived.Test.YtihdglmiecifjaaGreatZRs34
import Derived.Test.YtihdglmiecifjaaGreatZRs41
import Derived.HandedShaped
import Derived.Shelf.Vars
namespace Go.Proofs.YtihdglmiecifjaaGreat
open Go.ChangeShapes Go.WideShapes Go.ChangeAt Go.RowKit Go.Joins Go.Shelf
theorem own : ownKnob Tryz.prog.godebug = none := by kernel_rfl
theorem laidOut : laidOutB Tryz.prog = true := js1
theorem cellsSi : Tryz.prog.cellsOf 3 = 1 := by kernel_rfl
theorem cellsSs : Tryz.prog.cellsOf 9 = 1 := by kernel_rfl
set_option maxRecDepth 100000 in
/-- A message among the arguments. -/
theorem msg_argS {H : Type} {enc : TypeId × Value → H} {W : World} {base b0 : Nat} {v : Value} {d : DataW H} {p : List MemPlace} {r : Reach} (hv : Value.okWide Tryz.prog W r b0 69 v) (h : DataW.Trod enc Tryz.prog W base (fun _ => true) true 69 v d p) :
    ∃ (k n : Int) (s : ByteArray), v = .agg #[.int .i64 k, .int .i64 n, .string s] ∧ s.size ≤ maxLen := by
  obtain ⟨cs, rfl, hsz⟩ := okWide_struct Tryz.underlying69 hv
  have hszn : cs.size = 3 := hsz.trans (by kernel_rfl)
  obtain ⟨cl⟩ := cs
  match cl, hszn with
  | [c0, c1, c2], _ =>
    obtain ⟨fuel, hf⟩ := h
    obtain ⟨zs, m', _, _, _, hlenz, hgg⟩ := DataW.trod_struct Tryz.underlying69 hf
    match zs, hlenz with
    | [z0, z1, z2], _ =>
      have r0 : DataW.trod enc Tryz.prog W base (fun _ => true) true m' 3 [c0] = some z0 := by simpa [Value.cells, cellsSi] using hgg 0 _ rfl
      have r1 : DataW.trod enc Tryz.prog W base (fun _ => true) true m' 3 [c1] = some z1 := by simpa [Value.cells, cellsSi] using hgg 1 _ rfl
      have r2 : DataW.trod enc Tryz.prog W base (fun _ => true) true m' 9 [c2] = some z2 := by simpa [Value.cells, cellsSs] using hgg 2 _ rfl
      obtain ⟨k, e0, _, _⟩ := DataW.trod_int Tryz.underlying3 r0
      obtain ⟨n, e1, _, _⟩ := DataW.trod_int Tryz.underlying3 r1
      obtain ⟨s, e2, _, hs⟩ := DataW.trod_string Tryz.underlying9 r2
      simp only [List.cons.injEq, and_true] at e0 e1 e2
      subst e0 e1 e2
      exact ⟨k, n, s, rfl, hs⟩
theorem gok_of {W : World} (h : W.ShapedOpen Tryz.prog) : GOk W :=
  cell_of_shapedOpen_int (P := Tryz.prog) (g := 0) (t := 3) (zero := #[.int .i64 0]) h (of_decide_eq_true (by kernel_rfl)) (by kernel_rfl) rfl (by kernel_rfl) (by kernel_rfl) Tryz.underlying3
set_option maxRecDepth 100000 in
theorem lifted (os : Os) (started : os.Started) (H : Type) (enc : TypeId × Value → H) :
    ReturnsInHanded {} Tryz.checked os 8 .any (Rows.fnExactSendSpec.pre6 enc Tryz.prog Tryz.f8 Rows.fnExactSendRow.domain false) (Rows.fnExactSendSpec.post enc Tryz.prog Tryz.f8 false true false false) := by
  refine returnsInHanded_of_change_shaped (C := Tryz.checked) own started (by kernel_rfl) Tryz.func8
    (ChangeSpec.witness6 (enc := enc) (C := Tryz.checked) false ⟨#[], #[.agg #[.int .i64 0, .int .i64 0, .slice none 0 0, .int .i64 0, .slice none 0 0, .slice none 0 0, .slice none 0 0, .bool false], .agg #[.int .i64 0, .int .i64 0, .string ⟨#[]⟩]], []⟩ 8 (by kernel_rfl) (by kernel_rfl) (by kernel_rfl) (by kernel_rfl)) ?_
  intro W base args ds gs before hval0 hW hcnd _ hsh _
  have hval : ∀ (j : Nat) t v, Tryz.f8.params[j]? = some t → args[j]? = some v → Value.okWide Tryz.prog W .any base t v := hval0
  have hW' := hW
  obtain ⟨p, q, hA0, hV, rfl, hfz, hnd⟩ := hW
  have hA : DataW.TrodAll enc Tryz.prog W 0 (fun _ => true) true Tryz.f8.params.toList args.toList ds p := hA0
  rw [Tryz.params8] at hA hval
  obtain ⟨v0, vs0, d0, ds0, p0, q0, hargs, rfl, rfl, h0, r0⟩ := trodAll_cons hA
  obtain ⟨v1, vs1, d1, ds1, p1, q1, hargs1, rfl, rfl, h1, r1⟩ := trodAll_cons r0
  obtain ⟨rfl, rfl, rfl⟩ := trodAll_nil r1
  obtain rfl : args = #[v0, v1] := by cases args; simp_all
  obtain ⟨rfl, rfl⟩ := trodVars_none hV
  obtain ⟨mk, mn, ms, rfl, hms⟩ := msg_argS (hval 1 69 v1 rfl rfl) h1
  have k0 := h0
  have lt0 : ∀ x ∈ p0, x.block < W.heap.size := by obtain ⟨m, hm⟩ := k0; exact DataW.trod_lt m _ _ _ hm
  have k1 := h1
  have lt1 : ∀ x ∈ p1, x.block < W.heap.size := by obtain ⟨m, hm⟩ := k1; exact DataW.trod_lt m _ _ _ hm
  obtain ⟨M, x, rfl, hm, hi, hw⟩ := ring_arg (hval 0 68 v0 rfl rfl) h0
  clear hA0 hval0
  have hG : GOk W := gok_of hsh
  refine (exactSend_of (mk, mn, ms) hms x (snR x (mk, mn, ms)) (snT x (mk, mn, ms)) (snC x (mk, mn, ms)) (fun M w hI hl hC hg => specSend_any M x (mk, mn, ms) w hI hl hC hw hms hg) (fun M w hI hl hC hg => implSend_any M x (mk, mn, ms) w hI hl hC hw hms hg) M W hi hm hG).mono fun e W' ⟨he, bel⟩ => ?_
  subst he
  exact ⟨_, rfl, _, _, _, [], _, [], hW', trodAll_mk1 (shut_bool Tryz.underlying4 _), (trodAll_cons_mk (Below.trod laidOut (by kernel_rfl) (of_decide_eq_true (by kernel_rfl)) k0 bel lt0) (trodAll_cons_mk (Below.trod laidOut (by kernel_rfl) (of_decide_eq_true (by kernel_rfl)) k1 bel lt1) trodAll_mk0)), rfl, bel.frame _, fun h => by cases h⟩
theorem jf0 : (Rows.fnExactSendRow.wf (OpenSpec.ofChange Rows.fnExactSendSpec)) = true := by kernel_rfl
theorem jf3 : (Tryz.f8.params.all (Tryz.prog.readableRec ·)) = true := by kernel_rfl
theorem jf4 : (namedTie Tryz.prog Rows.fnExactSendRow.named Rows.fnExactSendSpec.vars) = true := by kernel_rfl
theorem jf5 : ((Rows.fnExactSendRow.stops == [])) = true := by kernel_rfl
theorem jf7 : ((Rows.fnExactSendRow.knobs == [])) = true := by kernel_rfl
theorem jf9 : ((Rows.fnExactSendRow.inPlace == Tryz.prog.inPlace 8)) = true := by kernel_rfl
theorem jf10 : ((Rows.fnExactSendRow.unfollowed == Tryz.prog.unfollowed 8)) = true := by kernel_rfl
theorem jf11 : ((Rows.fnExactSendRow.recurses == Tryz.prog.recurses 8)) = true := by kernel_rfl
theorem jf12 : ((Rows.fnExactSendRow.named == Tryz.prog.varsNamed 8)) = true := by kernel_rfl
theorem jf13 : ((Rows.fnExactSendRow.maps == (Tryz.f8.params.toList ++ Rows.fnExactSendSpec.plain.varTypes Tryz.prog).any (Tryz.prog.mapsRec ·))) = true := by kernel_rfl
theorem jf14 : ((Rows.fnExactSendRow.ifaces == (Tryz.f8.params.toList ++ Rows.fnExactSendSpec.plain.varTypes Tryz.prog).any (Tryz.prog.ifacesRec ·))) = true := by kernel_rfl
theorem jf15 : ((Rows.fnExactSendRow.mapsOut == Tryz.prog.mapsAmong Tryz.f8.resultTypes.toList)) = true := by kernel_rfl
theorem jf16 : ((Rows.fnExactSendRow.loops == (Tryz.f8.params.toList ++ Rows.fnExactSendSpec.plain.varTypes Tryz.prog).any (Tryz.prog.loopsFrom ·))) = true := by kernel_rfl
theorem jf17 : ((Rows.fnExactSendRow.wideKeys == (Tryz.f8.params.toList ++ Rows.fnExactSendSpec.plain.varTypes Tryz.prog ++ Tryz.f8.resultTypes.toList).any (Tryz.prog.wideKeysFrom ·))) = true := by kernel_rfl
theorem jf18 : (Rows.fnExactSendSpec.vars.all (Tryz.prog.varReadable ·)) = true := by kernel_rfl
theorem jf19 : (Tryz.f8.resultTypes.all (fun t => Tryz.prog.readableRec t && decide (t < Tryz.prog.types.size))) = true := by kernel_rfl
theorem jf20 : ((Rows.fnExactSendRow.ifacesOut == Tryz.f8.resultTypes.toList.any (Tryz.prog.ifacesRec ·))) = true := by kernel_rfl
theorem jf21 : ((Rows.fnExactSendRow.loopsOut == Tryz.f8.resultTypes.toList.any (Tryz.prog.loopsFrom ·))) = true := by kernel_rfl
theorem jf22 : ((Rows.fnExactSendRow.plainKeys == Tryz.prog.plainKeys)) = true := by
  rw [show Rows.fnExactSendRow.plainKeys = true from rfl]
  exact js22
theorem jf23 : (Rows.fnExactSendRow.shortTexts.isNone) = true := by kernel_rfl
theorem jf26 : ((Rows.fnExactSendRow.lifted == Tryz.prog.liftsFinal)) = true := by
  rw [show Rows.fnExactSendRow.lifted = false from rfl]
  exact js26
theorem jf27 : ((Tryz.prog.make == some Rows.fnExactSendRow.make)) = true := by
  rw [show Rows.fnExactSendRow.make = Make.cut from rfl]
  exact js27
theorem jf29 : ((Rows.fnExactSendRow.pinned == Rows.fnExactSendRow.pinnedBy)) = true := by kernel_rfl
theorem jf30 : ((Rows.fnExactSendRow.veiled == (Tryz.f8.params.toList ++ Rows.fnExactSendSpec.plain.varTypes Tryz.prog ++ Tryz.f8.resultTypes.toList).any (Tryz.prog.veiledRec ·))) = true := by kernel_rfl
theorem jf31 : (Rows.fnExactSendRow.veiledFits Tryz.prog Tryz.f8.params.toList (Tryz.f8.params.toList ++ Rows.fnExactSendSpec.plain.varTypes Tryz.prog ++ Tryz.f8.resultTypes.toList)) = true := by kernel_rfl
theorem closed : joinedFacts Tryz.prog 8 Tryz.f8 Rows.fnExactSendSpec Rows.fnExactSendRow = true := by
  unfold joinedFacts
  exact and_all jf0 js1 js2 jf3 jf4 jf5 js6 jf7 js8 jf9 jf10 jf11 jf12 jf13 jf14 jf15 jf16 jf17 jf18 jf19 jf20 jf21 jf22 jf23 js24 js25 jf26 jf27 (by kernel_rfl) jf29 jf30 jf31
theorem over : Rows.fnExactSendRow.holds Tryz.pinned (OpenSpec.ofChange Rows.fnExactSendSpec) :=
  OpenClaim.holds_of_wide 8 Tryz.f8 rfl rfl rfl rfl rfl rfl rfl ⟨rfl, rfl, rfl, rfl, rfl⟩ rfl rfl rfl rfl rfl (by kernel_rfl) Tryz.func8 closed
    (of_decide_eq_true (by kernel_rfl)) (by unfold Func.isWrapper; first | (rw [if_pos (by decide +kernel)]; kernel_rfl) | (rw [if_neg (by decide +kernel)]; exact ⟨rfl, rfl⟩))
    (fun os started H enc _ => lifted os started H enc)
theorem exactSend_holds : Rows.FnExactSendSaid := over
#print axioms exactSend_holds
end Go.Proofs.YtihdglmiecifjaaGreat
