/-
  Proved: at every slice of bytes the law on passing on (who was told by a telling of one and withdraws passes it on, to the first in line or to the permit; one who was told with all passes nothing on) answers true, and the slice reads afterwards as it read before. No condition.
-/
import Derived.Test.YtfgknbflgmblmaaZPq19
namespace Go.Proofs.Ytfgknbflgmblmaa
open Go.ChangeShapes Go.WideShapes Go.ChangeAt Go.RowKit Dr
theorem own : ownKnob Try.prog.godebug = none := by kernel_rfl
theorem laidOut : laidOutB Try.prog = true := js1
theorem u8_bounds {n : Int} (h : (Lit.int .u8 n).wf = true) : 0 ≤ n ∧ n ≤ 255 := by
  simpa [Lit.wf, IntKind.min, IntKind.max, IntKind.signed, IntKind.bits] using h
set_option maxRecDepth 100000 in
theorem lifted (os : Os) (started : os.Started) (H : Type) (enc : TypeId × Value → H) :
  ReturnsInHanded {} Try.checked os 5 .any (Rows.fnPassOnSpec.pre6 enc Try.prog Try.f5 Rows.fnPassOnRow.domain false) (Rows.fnPassOnSpec.post enc Try.prog Try.f5 false true false false) := by
 refine returnsInHanded_of_change (C := Try.checked) own started (by kernel_rfl) Try.func5
  (ChangeSpec.witness6 (enc := enc) (C := Try.checked) false ⟨#[], #[.slice none 0 0], []⟩ 8 (by kernel_rfl) (by kernel_rfl) (by kernel_rfl) (by kernel_rfl)) ?_
 intro W base args ds gs before hval0 hW hcnd _
 have hval : ∀ (j : Nat) t v, Try.f5.params[j]? = some t → args[j]? = some v → Value.okWide Try.prog W .any base t v := hval0
 have hW' := hW
 obtain ⟨p, q, hA0, hV, rfl, hfz, hnd⟩ := hW
 have hA : DataW.TrodAll enc Try.prog W 0 (fun _ => true) true Try.f5.params.toList args.toList ds p := hA0
 rw [Try.params5] at hA hval
 obtain ⟨v0, vs0, d0, ds0, p0, q0, hargs, rfl, rfl, h0, r0⟩ := trodAll_cons hA
 obtain ⟨rfl, rfl, rfl⟩ := trodAll_nil r0
 obtain rfl : args = #[v0] := by cases args; simp_all
 obtain ⟨rfl, rfl⟩ := trodVars_none hV
 obtain ⟨a0, len0, cap0, rfl⟩ := okWide_slice Try.underlying22 (hval 0 22 v0 rfl rfl)
 have k0 := h0
 have lt0 : ∀ x ∈ p0, x.block < W.heap.size := by obtain ⟨m, hm⟩ := k0; exact DataW.trod_lt m _ _ _ hm
 have hB : len0 ≤ 1048576 → Bytes W.heap.size W a0 len0 cap0 := by
  intro hl0
  obtain ⟨fuel, hf⟩ := h0
  rcases open_ints Try.underlying22 Try.underlying5 (by kernel_rfl) hf with ⟨hcs, _⟩ | ⟨x, l, c, zs, hcs, _, hl, hm, hz, _, hcell, hwz⟩
  ·simp [Value.cells] at hcs
   obtain ⟨rfl, rfl, rfl⟩ := hcs
   exact ⟨by omega, by decide, .inl rfl⟩
  ·simp [Value.cells] at hcs
   obtain ⟨rfl, rfl, rfl⟩ := hcs
   have hz' : zs.length = cap0 := by simpa using hz
   rcases Nat.eq_zero_or_pos len0 with h | hpos
   ·exact ⟨by omega, hm, .inl h⟩
   ·obtain ⟨b, off, spot⟩ := x
    have hc := hcell 0 (by omega)
    have hspot : spot = none := by simpa [Addr.add] using World.cell?_spot hc
    subst hspot
    have hb : b < W.heap.size := by
     rw [Addr.add_lit] at hc
     rcases Nat.lt_or_ge b W.heap.size with h | h
     ·exact h
     ·simp [World.cell?, Array.getElem?_eq_none h] at hc
    refine ⟨by omega, hm, .inr ⟨b, off, rfl, hb, by omega, fun i hi => ?_⟩⟩
    have hci := hcell i (by omega)
    rw [Addr.add_lit] at hci
    have hmem : zs.getD i 0 ∈ zs := by
     rw [List.getD_eq_getElem?_getD, List.getElem?_eq_getElem (by omega), Option.getD_some]
     exact List.getElem_mem _
    exact ⟨_, hci, (u8_bounds (hwz _ hmem)).1, (u8_bounds (hwz _ hmem)).2⟩
 clear hA0 hval0
 refine (fnPassOn_of a0 len0 cap0 W hB).mono fun e W' ⟨he, bel⟩ => ?_
 subst he
 exact ⟨_, rfl, _, _, _, [], _, [], hW', trodAll_mk1 (shut_bool Try.underlying4 _), (trodAll_cons_mk (Below.trod laidOut (by kernel_rfl) (of_decide_eq_true (by kernel_rfl)) k0 bel lt0) trodAll_mk0), rfl, bel.frame _, fun h => by cases h⟩
theorem jf0 : (Rows.fnPassOnRow.wf (OpenSpec.ofChange Rows.fnPassOnSpec)) = true := by kernel_rfl
theorem jf3 : (Try.f5.params.all (Try.prog.readableRec ·)) = true := by kernel_rfl
theorem jf4 : (namedTie Try.prog Rows.fnPassOnRow.named Rows.fnPassOnSpec.vars) = true := by kernel_rfl
theorem jf5 : ((Rows.fnPassOnRow.stops == [])) = true := by kernel_rfl
theorem jf7 : ((Rows.fnPassOnRow.knobs == [])) = true := by kernel_rfl
theorem jf9 : ((Rows.fnPassOnRow.inPlace == Try.prog.inPlace 5)) = true := by kernel_rfl
theorem jf10 : ((Rows.fnPassOnRow.unfollowed == Try.prog.unfollowed 5)) = true := by kernel_rfl
theorem jf11 : ((Rows.fnPassOnRow.recurses == Try.prog.recurses 5)) = true := by kernel_rfl
theorem jf12 : ((Rows.fnPassOnRow.named == Try.prog.varsNamed 5)) = true := by kernel_rfl
theorem jf13 : ((Rows.fnPassOnRow.maps == (Try.f5.params.toList ++ Rows.fnPassOnSpec.plain.varTypes Try.prog).any (Try.prog.mapsRec ·))) = true := by kernel_rfl
theorem jf14 : ((Rows.fnPassOnRow.ifaces == (Try.f5.params.toList ++ Rows.fnPassOnSpec.plain.varTypes Try.prog).any (Try.prog.ifacesRec ·))) = true := by kernel_rfl
theorem jf15 : ((Rows.fnPassOnRow.mapsOut == Try.prog.mapsAmong Try.f5.resultTypes.toList)) = true := by kernel_rfl
theorem jf16 : ((Rows.fnPassOnRow.loops == (Try.f5.params.toList ++ Rows.fnPassOnSpec.plain.varTypes Try.prog).any (Try.prog.loopsFrom ·))) = true := by kernel_rfl
theorem jf17 : ((Rows.fnPassOnRow.wideKeys == (Try.f5.params.toList ++ Rows.fnPassOnSpec.plain.varTypes Try.prog ++ Try.f5.resultTypes.toList).any (Try.prog.wideKeysFrom ·))) = true := by kernel_rfl
theorem jf18 : (Rows.fnPassOnSpec.vars.all (Try.prog.varReadable ·)) = true := by kernel_rfl
theorem jf19 : (Try.f5.resultTypes.all (fun t => Try.prog.readableRec t && decide (t < Try.prog.types.size))) = true := by kernel_rfl
theorem jf20 : ((Rows.fnPassOnRow.ifacesOut == Try.f5.resultTypes.toList.any (Try.prog.ifacesRec ·))) = true := by kernel_rfl
theorem jf21 : ((Rows.fnPassOnRow.loopsOut == Try.f5.resultTypes.toList.any (Try.prog.loopsFrom ·))) = true := by kernel_rfl
theorem jf22 : ((Rows.fnPassOnRow.plainKeys == Try.prog.plainKeys)) = true := by
  rw [show Rows.fnPassOnRow.plainKeys = true from rfl]
  exact js22
theorem jf23 : (Rows.fnPassOnRow.shortTexts.isNone) = true := by kernel_rfl
theorem jf26 : ((Rows.fnPassOnRow.lifted == Try.prog.liftsFinal)) = true := by
  rw [show Rows.fnPassOnRow.lifted = false from rfl]
  exact js26
theorem jf27 : ((Try.prog.make == some Rows.fnPassOnRow.make)) = true := by
  rw [show Rows.fnPassOnRow.make = Make.cut from rfl]
  exact js27
theorem jf29 : ((Rows.fnPassOnRow.pinned == Rows.fnPassOnRow.pinnedBy)) = true := by kernel_rfl
theorem jf30 : ((Rows.fnPassOnRow.veiled == (Try.f5.params.toList ++ Rows.fnPassOnSpec.plain.varTypes Try.prog ++ Try.f5.resultTypes.toList).any (Try.prog.veiledRec ·))) = true := by kernel_rfl
theorem jf31 : (Rows.fnPassOnRow.veiledFits Try.prog Try.f5.params.toList (Try.f5.params.toList ++ Rows.fnPassOnSpec.plain.varTypes Try.prog ++ Try.f5.resultTypes.toList)) = true := by kernel_rfl
theorem closed : joinedFacts Try.prog 5 Try.f5 Rows.fnPassOnSpec Rows.fnPassOnRow = true := by
  unfold joinedFacts
  exact and_all jf0 js1 js2 jf3 jf4 jf5 js6 jf7 js8 jf9 jf10 jf11 jf12 jf13 jf14 jf15 jf16 jf17 jf18 jf19 jf20 jf21 jf22 jf23 js24 js25 jf26 jf27 (by kernel_rfl) jf29 jf30 jf31
theorem over : Rows.fnPassOnRow.holds Try.pinned (OpenSpec.ofChange Rows.fnPassOnSpec) :=
  OpenClaim.holds_of_wide 5 Try.f5 rfl rfl rfl rfl rfl rfl rfl ⟨rfl, rfl, rfl, rfl, rfl⟩ rfl rfl rfl rfl rfl (by kernel_rfl) Try.func5 closed
    (of_decide_eq_true (by kernel_rfl)) (by unfold Func.isWrapper; first | (rw [if_pos (by decide +kernel)]; kernel_rfl) | (rw [if_neg (by decide +kernel)]; exact ⟨rfl, rfl⟩))
    (fun os started H enc _ => lifted os started H enc)
theorem passOn_holds : Rows.FnPassOnSaid := over
#print axioms passOn_holds
end Go.Proofs.Ytfgknbflgmblmaa
