/-
  Proved: at every cell and change the law on Update answers true (the program's Update answers as its specification, writes into no argument, and its answers own their memory), and the arguments read afterwards as they read before. No condition.
-/
import Derived.Test.YtbhdjcggcgddfaaZFnExactUpdate13
import Derived.Test.YtbhdjcggcgddfaaZFnExactUpdate14
import Derived.Test.YtbhdjcggcgddfaaZFnExactUpdate17
import Derived.Test.YtbhdjcggcgddfaaZFnExactUpdate18
import Derived.ProofKit
import Derived.OpenShut
import Derived.ChangeOld
import Derived.Lib.SmallJoins
namespace Go.Proofs.Ytbhdjcggcgddfaa
open Go.ChangeShapes Go.WideShapes Go.ChangeAt Go.RowKit Go.Joins

theorem own : ownKnob Try.prog.godebug = none := by kernel_rfl
theorem laidOut : laidOutB Try.prog = true := by kernel_rfl

set_option maxRecDepth 100000 in
/-- A change among the arguments. -/
theorem change_arg {H : Type} {enc : TypeId × Value → H} {W : World} {base b0 : Nat} {v : Value} {d : DataW H} {p : List MemPlace} {r : Reach} (hv : Value.okWide Try.prog W r b0 93 v) (h : DataW.Trod enc Try.prog W base (fun _ => true) true 93 v d p) :
    ∃ (kind k n : Int) (s : ByteArray), v = .agg #[.int .i64 kind, .int .i64 k, .int .i64 n, .string s] ∧ s.size ≤ maxLen ∧ (Lit.int .i64 kind).wf = true := by
  obtain ⟨cs, rfl, hsz⟩ := okWide_struct Try.underlying93 hv
  have hszn : cs.size = 4 := hsz.trans (by kernel_rfl)
  obtain ⟨cl⟩ := cs
  match cl, hszn with
  | [c0, c1, c2, c3], _ =>
    obtain ⟨fuel, hf⟩ := h
    obtain ⟨xs, n, _, _, hl, hlen, hff⟩ := DataW.trod_struct Try.underlying93 hf
    match xs, hlen with
    | [y0, y1], _ =>
      have q0 : DataW.trod enc Try.prog W base (fun _ => true) true n 3 [c0] = some y0 := by simpa [Value.cells, cellsI] using hff 0 _ rfl
      have q1 : DataW.trod enc Try.prog W base (fun _ => true) true n 89 [c1, c2, c3] = some y1 := by simpa [Value.cells, cellsM] using hff 1 _ rfl
      obtain ⟨kind, e0, _, wk⟩ := DataW.trod_int Try.underlying3 q0
      obtain ⟨k, n', s, rfl, rfl, rfl, hs, _, _⟩ := msg_cells q1
      simp at e0
      subst e0
      exact ⟨kind, k, n', s, rfl, hs, wk⟩

set_option maxRecDepth 100000 in
theorem lifted (os : Os) (started : os.Started) (H : Type) (enc : TypeId × Value → H) :
    ReturnsInHanded {} Try.checked os 15 .any (Rows.fnExactUpdateSpec.pre6 enc Try.prog Try.f15 Rows.fnExactUpdateRow.domain false) (Rows.fnExactUpdateSpec.post enc Try.prog Try.f15 false true false false) := by
  refine returnsInHanded_of_change (C := Try.checked) own started (by kernel_rfl) Try.func15
    (ChangeSpec.witness6 (enc := enc) (C := Try.checked) false ⟨#[], #[.agg #[.int .i64 0, .int .i64 0, .string ⟨#[]⟩, .int .i64 0, .bool false, .slice none 0 0, .slice none 0 0], .agg #[.int .i64 0, .int .i64 0, .int .i64 0, .string ⟨#[]⟩]], []⟩ 8 (by kernel_rfl) (by kernel_rfl) (by kernel_rfl) (by kernel_rfl)) ?_
  intro W base args ds gs before hval0 hW hcnd _
  have hval : ∀ (j : Nat) t v, Try.f15.params[j]? = some t → args[j]? = some v → Value.okWide Try.prog W .any base t v := hval0
  have hW' := hW
  obtain ⟨p, q, hA0, hV, rfl, hfz, hnd⟩ := hW
  have hA : DataW.TrodAll enc Try.prog W 0 (fun _ => true) true Try.f15.params.toList args.toList ds p := hA0
  rw [Try.params15] at hA hval
  obtain ⟨v0, vs0, d0, ds0, p0, q0, hargs, rfl, rfl, h0, r0⟩ := trodAll_cons hA
  obtain ⟨v1, vs1, d1, ds1, p1, q1, hargs1, rfl, rfl, h1, r1⟩ := trodAll_cons r0
  obtain ⟨rfl, rfl, rfl⟩ := trodAll_nil r1
  obtain rfl : args = #[v0, v1] := by cases args; simp_all
  obtain ⟨rfl, rfl⟩ := trodVars_none hV
  have k0 := h0
  have k1 := h1
  have lt0 : ∀ x ∈ p0, x.block < W.heap.size := by obtain ⟨m, hm⟩ := k0; exact DataW.trod_lt m _ _ _ hm
  have lt1 : ∀ x ∈ p1, x.block < W.heap.size := by obtain ⟨m, hm⟩ := k1; exact DataW.trod_lt m _ _ _ hm
  obtain ⟨A, x, rfl, hn0, hn1, hi, hw⟩ := thing_arg (hval 0 91 v0 rfl rfl) h0
  obtain ⟨kind, k', n', s', rfl, hs', hk⟩ := change_arg (hval 1 93 v1 rfl rfl) h1
  clear hA0 hval0
  refine (exactUpdate_of (fun x q => updateM x q.1 q.2.1 q.2.2.1 q.2.2.2) (fun A x q w hI h1 h2 h3 h4 => specUpdate_any A x q w hI h1 h2 h3 h4) (fun A x q w hI h1 h2 h3 h4 h5 => implUpdate_any A x q w hI h1 h2 h3 h4 h5) (fun x q => update_len x q.1 q.2.1 q.2.2.1 q.2.2.2) A x (kind, k', n', s') W hn0 hn1 hi hw hs' hk).mono fun e W' ⟨he, bel⟩ => ?_
  subst he
  exact ⟨_, rfl, _, _, _, [], _, [], hW', trodAll_mk1 (shut_bool Try.underlying4 _), (trodAll_cons_mk (Below.trod laidOut (by kernel_rfl) (of_decide_eq_true (by kernel_rfl)) k0 bel lt0) (trodAll_cons_mk (Below.trod laidOut (by kernel_rfl) (of_decide_eq_true (by kernel_rfl)) k1 bel lt1) trodAll_mk0)), rfl, bel.frame _, fun h => by cases h⟩

theorem jf0 : (Rows.fnExactUpdateRow.wf (OpenSpec.ofChange Rows.fnExactUpdateSpec)) = true := by kernel_rfl
theorem jf1 : (laidOutB Try.prog) = true := by kernel_rfl
theorem jf2 : (mapsRowed Try.prog) = true := by kernel_rfl
theorem jf3 : (Try.f15.params.all (Try.prog.readableRec ·)) = true := by kernel_rfl
theorem jf4 : (namedTie Try.prog Rows.fnExactUpdateRow.named Rows.fnExactUpdateSpec.vars) = true := by kernel_rfl
theorem jf5 : ((Rows.fnExactUpdateRow.stops == [])) = true := by kernel_rfl
theorem jf6 : ((Try.prog.stops == [])) = true := by kernel_rfl
theorem jf7 : ((Rows.fnExactUpdateRow.knobs == [])) = true := by kernel_rfl
theorem jf8 : ((Try.prog.stopKnobs == [])) = true := by kernel_rfl
theorem jf9 : ((Rows.fnExactUpdateRow.inPlace == Try.prog.inPlace 15)) = true := by kernel_rfl
theorem jf10 : ((Rows.fnExactUpdateRow.unfollowed == Try.prog.unfollowed 15)) = true := by kernel_rfl
theorem jf11 : ((Rows.fnExactUpdateRow.recurses == Try.prog.recurses 15)) = true := by kernel_rfl
theorem jf12 : ((Rows.fnExactUpdateRow.named == Try.prog.varsNamed 15)) = true := by kernel_rfl
theorem jf13 : ((Rows.fnExactUpdateRow.maps == (Try.f15.params.toList ++ Rows.fnExactUpdateSpec.plain.varTypes Try.prog).any (Try.prog.mapsRec ·))) = true := by kernel_rfl
theorem jf14 : ((Rows.fnExactUpdateRow.ifaces == (Try.f15.params.toList ++ Rows.fnExactUpdateSpec.plain.varTypes Try.prog).any (Try.prog.ifacesRec ·))) = true := by kernel_rfl
theorem jf15 : ((Rows.fnExactUpdateRow.mapsOut == Try.prog.mapsAmong Try.f15.resultTypes.toList)) = true := by kernel_rfl
theorem jf16 : ((Rows.fnExactUpdateRow.loops == (Try.f15.params.toList ++ Rows.fnExactUpdateSpec.plain.varTypes Try.prog).any (Try.prog.loopsFrom ·))) = true := by kernel_rfl
theorem jf17 : ((Rows.fnExactUpdateRow.wideKeys == (Try.f15.params.toList ++ Rows.fnExactUpdateSpec.plain.varTypes Try.prog ++ Try.f15.resultTypes.toList).any (Try.prog.wideKeysFrom ·))) = true := by kernel_rfl
theorem jf18 : (Rows.fnExactUpdateSpec.vars.all (Try.prog.varReadable ·)) = true := by kernel_rfl
theorem jf19 : (Try.f15.resultTypes.all (fun t => Try.prog.readableRec t && decide (t < Try.prog.types.size))) = true := by kernel_rfl
theorem jf20 : ((Rows.fnExactUpdateRow.ifacesOut == Try.f15.resultTypes.toList.any (Try.prog.ifacesRec ·))) = true := by kernel_rfl
theorem jf21 : ((Rows.fnExactUpdateRow.loopsOut == Try.f15.resultTypes.toList.any (Try.prog.loopsFrom ·))) = true := by kernel_rfl
theorem jf22 : ((Rows.fnExactUpdateRow.plainKeys == Try.prog.plainKeys)) = true := by kernel_rfl
theorem jf23 : (Rows.fnExactUpdateRow.shortTexts.isNone) = true := by kernel_rfl
theorem jf24 : (Try.prog.stopsHeard) = true := by kernel_rfl
theorem jf25 : (Try.prog.mayEnter) = true := by kernel_rfl
theorem jf26 : ((Rows.fnExactUpdateRow.lifted == Try.prog.liftsFinal)) = true := by kernel_rfl
theorem jf27 : ((Try.prog.make == some Rows.fnExactUpdateRow.make)) = true := by kernel_rfl
theorem jf29 : ((Rows.fnExactUpdateRow.pinned == Rows.fnExactUpdateRow.pinnedBy)) = true := by kernel_rfl
theorem jf30 : ((Rows.fnExactUpdateRow.veiled == (Try.f15.params.toList ++ Rows.fnExactUpdateSpec.plain.varTypes Try.prog ++ Try.f15.resultTypes.toList).any (Try.prog.veiledRec ·))) = true := by kernel_rfl
theorem jf31 : (Rows.fnExactUpdateRow.veiledFits Try.prog Try.f15.params.toList (Try.f15.params.toList ++ Rows.fnExactUpdateSpec.plain.varTypes Try.prog ++ Try.f15.resultTypes.toList)) = true := by kernel_rfl
theorem and_all {b0 b1 b2 b3 b4 b5 b6 b7 b8 b9 b10 b11 b12 b13 b14 b15 b16 b17 b18 b19 b20 b21 b22 b23 b24 b25 b26 b27 b28 b29 b30 b31 : Bool} (h0 : b0 = true) (h1 : b1 = true) (h2 : b2 = true) (h3 : b3 = true) (h4 : b4 = true) (h5 : b5 = true) (h6 : b6 = true) (h7 : b7 = true) (h8 : b8 = true) (h9 : b9 = true) (h10 : b10 = true) (h11 : b11 = true) (h12 : b12 = true) (h13 : b13 = true) (h14 : b14 = true) (h15 : b15 = true) (h16 : b16 = true) (h17 : b17 = true) (h18 : b18 = true) (h19 : b19 = true) (h20 : b20 = true) (h21 : b21 = true) (h22 : b22 = true) (h23 : b23 = true) (h24 : b24 = true) (h25 : b25 = true) (h26 : b26 = true) (h27 : b27 = true) (h28 : b28 = true) (h29 : b29 = true) (h30 : b30 = true) (h31 : b31 = true) : (b0 && b1 && b2 && b3 && b4 && b5 && b6 && b7 && b8 && b9 && b10 && b11 && b12 && b13 && b14 && b15 && b16 && b17 && b18 && b19 && b20 && b21 && b22 && b23 && b24 && b25 && b26 && b27 && b28 && b29 && b30 && b31) = true := by
  subst h0 h1 h2 h3 h4 h5 h6 h7 h8 h9 h10 h11 h12 h13 h14 h15 h16 h17 h18 h19 h20 h21 h22 h23 h24 h25 h26 h27 h28 h29 h30 h31
  rfl
theorem closed : joinedFacts Try.prog 15 Try.f15 Rows.fnExactUpdateSpec Rows.fnExactUpdateRow = true := by
  unfold joinedFacts
  exact and_all jf0 jf1 jf2 jf3 jf4 jf5 jf6 jf7 jf8 jf9 jf10 jf11 jf12 jf13 jf14 jf15 jf16 jf17 jf18 jf19 jf20 jf21 jf22 jf23 jf24 jf25 jf26 jf27 (by kernel_rfl) jf29 jf30 jf31
theorem over : Rows.fnExactUpdateRow.holds Try.pinned (OpenSpec.ofChange Rows.fnExactUpdateSpec) :=
  OpenClaim.holds_of_wide 15 Try.f15 rfl rfl rfl rfl rfl rfl rfl ⟨rfl, rfl, rfl, rfl, rfl⟩ rfl rfl rfl rfl rfl (by kernel_rfl) Try.func15 closed
    (of_decide_eq_true (by kernel_rfl)) (by unfold Func.isWrapper; first | (rw [if_pos (by decide +kernel)]; kernel_rfl) | (rw [if_neg (by decide +kernel)]; exact ⟨rfl, rfl⟩))
    (fun os started H enc _ => lifted os started H enc)

theorem exactUpdate_holds : Rows.FnExactUpdateSaid := over
#print axioms exactUpdate_holds
end Go.Proofs.Ytbhdjcggcgddfaa
