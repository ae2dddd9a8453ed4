/-
  Proved: at every cell and change the law on Update answers true (the program's Update answers as its specification, writes into no argument, and its answers own their memory), and the arguments read afterwards as they read before. No condition.
-/
import Derived.Test.YtigmcbgcdjofjaaBC5
import Derived.Test.YtigmcbgcdjofjaaSpC7
import Derived.Test.YtigmcbgcdjofjaaWC7
import Derived.Test.YtigmcbgcdjofjaaAC
import Derived.ProofKit
import Derived.OpenShut
import Derived.ChangeOld
import Derived.Lib.SmallJoins
namespace Go.Proofs.Ytigmcbgcdjofjaa
open Go.ChangeShapes Go.WideShapes Go.ChangeAt Go.RowKit Go.Joins

theorem own : ownKnob Try.prog.godebug = none := by kernel_rfl
theorem laidOut : laidOutB Try.prog = true := by kernel_rfl

set_option maxRecDepth 100000 in
/-- A change among the arguments. -/
theorem change_arg {H : Type} {enc : TypeId × Value → H} {W : World} {base b0 : Nat} {v : Value} {d : DataW H} {p : List MemPlace} {r : Reach} (hv : Value.okWide Try.prog W r b0 68 v) (h : DataW.Trod enc Try.prog W base (fun _ => true) true 68 v d p) :
    ∃ (kind k n : Int) (s : ByteArray), v = .agg #[.int .i64 kind, .int .i64 k, .int .i64 n, .string s] ∧ s.size ≤ maxLen ∧ (Lit.int .i64 kind).wf = true := by
  obtain ⟨cs, rfl, hsz⟩ := okWide_struct Try.underlying68 hv
  have hszn : cs.size = 4 := hsz.trans (by kernel_rfl)
  obtain ⟨cl⟩ := cs
  match cl, hszn with
  | [c0, c1, c2, c3], _ =>
    obtain ⟨fuel, hf⟩ := h
    obtain ⟨xs, n, _, _, hl, hlen, hff⟩ := DataW.trod_struct Try.underlying68 hf
    match xs, hlen with
    | [y0, y1], _ =>
      have q0 : DataW.trod enc Try.prog W base (fun _ => true) true n 3 [c0] = some y0 := by simpa [Value.cells, cellsI] using hff 0 _ rfl
      have q1 : DataW.trod enc Try.prog W base (fun _ => true) true n 64 [c1, c2, c3] = some y1 := by simpa [Value.cells, cellsM] using hff 1 _ rfl
      obtain ⟨kind, e0, _, wk⟩ := DataW.trod_int Try.underlying3 q0
      obtain ⟨k, n', s, rfl, rfl, rfl, hs, _, _⟩ := msg_cells q1
      simp at e0
      subst e0
      exact ⟨kind, k, n', s, rfl, hs, wk⟩

set_option maxRecDepth 100000 in
theorem lifted (os : Os) (started : os.Started) (H : Type) (enc : TypeId × Value → H) :
    ReturnsInHanded {} Try.checked os 8 .any (Rows.fnExactUpdateSpec.pre6 enc Try.prog Try.f8 Rows.fnExactUpdateRow.domain false) (Rows.fnExactUpdateSpec.post enc Try.prog Try.f8 false true false false) := by
  refine returnsInHanded_of_change (C := Try.checked) own started (by kernel_rfl) Try.func8
    (ChangeSpec.witness6 (enc := enc) (C := Try.checked) false ⟨#[], #[.agg #[.int .i64 0, .int .i64 0, .string ⟨#[]⟩, .int .i64 0, .bool false, .slice none 0 0, .slice none 0 0], .agg #[.int .i64 0, .int .i64 0, .int .i64 0, .string ⟨#[]⟩]], []⟩ 8 (by kernel_rfl) (by kernel_rfl) (by kernel_rfl) (by kernel_rfl)) ?_
  intro W base args ds gs before hval0 hW hcnd _
  have hval : ∀ (j : Nat) t v, Try.f8.params[j]? = some t → args[j]? = some v → Value.okWide Try.prog W .any base t v := hval0
  have hW' := hW
  obtain ⟨p, q, hA0, hV, rfl, hfz, hnd⟩ := hW
  have hA : DataW.TrodAll enc Try.prog W 0 (fun _ => true) true Try.f8.params.toList args.toList ds p := hA0
  rw [Try.params8] at hA hval
  obtain ⟨v0, vs0, d0, ds0, p0, q0, hargs, rfl, rfl, h0, r0⟩ := trodAll_cons hA
  obtain ⟨v1, vs1, d1, ds1, p1, q1, hargs1, rfl, rfl, h1, r1⟩ := trodAll_cons r0
  obtain ⟨rfl, rfl, rfl⟩ := trodAll_nil r1
  obtain rfl : args = #[v0, v1] := by cases args; simp_all
  obtain ⟨rfl, rfl⟩ := trodVars_none hV
  have k0 := h0
  have k1 := h1
  have lt0 : ∀ x ∈ p0, x.block < W.heap.size := by obtain ⟨m, hm⟩ := k0; exact DataW.trod_lt m _ _ _ hm
  have lt1 : ∀ x ∈ p1, x.block < W.heap.size := by obtain ⟨m, hm⟩ := k1; exact DataW.trod_lt m _ _ _ hm
  obtain ⟨A, x, rfl, hn0, hn1, hi, hw⟩ := thing_arg (hval 0 66 v0 rfl rfl) h0
  obtain ⟨kind, k', n', s', rfl, hs', hk⟩ := change_arg (hval 1 68 v1 rfl rfl) h1
  clear hA0 hval0
  refine (exactUpdate_of (fun x q => updateM x q.1 q.2.1 q.2.2.1 q.2.2.2) (fun A x q w hI h1 h2 h3 h4 => specUpdate_any A x q w hI h1 h2 h3 h4) (fun A x q w hI h1 h2 h3 h4 h5 => implUpdate_any A x q w hI h1 h2 h3 h4 h5) (fun x q => update_len x q.1 q.2.1 q.2.2.1 q.2.2.2) A x (kind, k', n', s') W hn0 hn1 hi hw hs' hk).mono fun e W' ⟨he, bel⟩ => ?_
  subst he
  exact ⟨_, rfl, _, _, _, [], _, [], hW', trodAll_mk1 (shut_bool Try.underlying4 _), (trodAll_cons_mk (Below.trod laidOut (by kernel_rfl) (of_decide_eq_true (by kernel_rfl)) k0 bel lt0) (trodAll_cons_mk (Below.trod laidOut (by kernel_rfl) (of_decide_eq_true (by kernel_rfl)) k1 bel lt1) trodAll_mk0)), rfl, bel.frame _, fun h => by cases h⟩

theorem over : Rows.fnExactUpdateRow.holds Try.pinned (OpenSpec.ofChange Rows.fnExactUpdateSpec) :=
  OpenClaim.holds_of_wide 8 Try.f8 rfl rfl rfl rfl rfl rfl rfl ⟨rfl, rfl, rfl, rfl, rfl⟩ rfl rfl rfl rfl rfl (by kernel_rfl) Try.func8 (by kernel_rfl)
    (of_decide_eq_true (by kernel_rfl)) (by unfold Func.isWrapper; first | (rw [if_pos (by decide +kernel)]; kernel_rfl) | (rw [if_neg (by decide +kernel)]; exact ⟨rfl, rfl⟩))
    (fun os started H enc _ => lifted os started H enc)

theorem exactUpdate_holds : Rows.FnExactUpdateSaid := over
#print axioms exactUpdate_holds
end Go.Proofs.Ytigmcbgcdjofjaa
