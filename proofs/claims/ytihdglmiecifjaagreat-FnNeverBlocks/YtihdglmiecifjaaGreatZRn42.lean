/-
  Proved: at every slice of bytes the law on sending (a right open ring takes every right message, whatever its subscribers do; who waited and wants it is told, and who waits still has read all) answers true, and the slice reads afterwards as it read before. No condition.
-/
import Derived.Test.YtihdglmiecifjaaGreatZRn41
import Derived.HandedShaped
import Derived.Shelf.Vars
namespace Go.Proofs.YtihdglmiecifjaaGreat
open Go.ChangeShapes Go.WideShapes Go.ChangeAt Go.RowKit Dr Go.Shelf
theorem own : ownKnob Tryz.prog.godebug = none := by kernel_rfl
theorem laidOut : laidOutB Tryz.prog = true := js1
theorem u8_bounds {n : Int} (h : (Lit.int .u8 n).wf = true) : 0 ≤ n ∧ n ≤ 255 := by
  simpa [Lit.wf, IntKind.min, IntKind.max, IntKind.signed, IntKind.bits] using h
theorem gok_of {W : World} (h : W.ShapedOpen Tryz.prog) : GOk W :=
  cell_of_shapedOpen_int (P := Tryz.prog) (g := 0) (t := 3) (zero := #[.int .i64 0]) h (of_decide_eq_true (by kernel_rfl)) (by kernel_rfl) rfl (by kernel_rfl) (by kernel_rfl) Tryz.underlying3
set_option maxRecDepth 100000 in
theorem lifted (os : Os) (started : os.Started) (H : Type) (enc : TypeId × Value → H) :
  ReturnsInHanded {} Tryz.checked os 3 .any (Rows.fnNeverBlocksSpec.pre6 enc Tryz.prog Tryz.f3 Rows.fnNeverBlocksRow.domain false) (Rows.fnNeverBlocksSpec.post enc Tryz.prog Tryz.f3 false true false false) := by
 refine returnsInHanded_of_change_shaped (C := Tryz.checked) own started (by kernel_rfl) Tryz.func3
  (ChangeSpec.witness6 (enc := enc) (C := Tryz.checked) false ⟨#[], #[.slice none 0 0], []⟩ 8 (by kernel_rfl) (by kernel_rfl) (by kernel_rfl) (by kernel_rfl)) ?_
 intro W base args ds gs before hval0 hW hcnd _ hsh _
 have hval : ∀ (j : Nat) t v, Tryz.f3.params[j]? = some t → args[j]? = some v → Value.okWide Tryz.prog W .any base t v := hval0
 have hW' := hW
 obtain ⟨p, q, hA0, hV, rfl, hfz, hnd⟩ := hW
 have hA : DataW.TrodAll enc Tryz.prog W 0 (fun _ => true) true Tryz.f3.params.toList args.toList ds p := hA0
 rw [Tryz.params3] at hA hval
 obtain ⟨v0, vs0, d0, ds0, p0, q0, hargs, rfl, rfl, h0, r0⟩ := trodAll_cons hA
 obtain ⟨rfl, rfl, rfl⟩ := trodAll_nil r0
 obtain rfl : args = #[v0] := by cases args; simp_all
 obtain ⟨rfl, rfl⟩ := trodVars_none hV
 obtain ⟨a0, len0, cap0, rfl⟩ := okWide_slice Tryz.underlying22 (hval 0 22 v0 rfl rfl)
 have k0 := h0
 have lt0 : ∀ x ∈ p0, x.block < W.heap.size := by obtain ⟨m, hm⟩ := k0; exact DataW.trod_lt m _ _ _ hm
 have hB : len0 ≤ 1048576 → Bytes W.heap.size W a0 len0 cap0 := by
  intro hl0
  obtain ⟨fuel, hf⟩ := h0
  rcases open_ints Tryz.underlying22 Tryz.underlying5 (by kernel_rfl) hf with ⟨hcs, _⟩ | ⟨x, l, c, zs, hcs, _, hl, hm, hz, _, hcell, hwz⟩
  ·simp [Value.cells] at hcs
   obtain ⟨rfl, rfl, rfl⟩ := hcs
   exact ⟨by omega, by decide, .inl rfl⟩
  ·simp [Value.cells] at hcs
   obtain ⟨rfl, rfl, rfl⟩ := hcs
   have hz' : zs.length = cap0 := by simpa using hz
   rcases Nat.eq_zero_or_pos len0 with h | hpos
   ·exact ⟨by omega, hm, .inl h⟩
   ·obtain ⟨b, off, spot⟩ := x
    have hc := hcell 0 (by omega)
    have hspot : spot = none := by simpa [Addr.add] using World.cell?_spot hc
    subst hspot
    have hb : b < W.heap.size := by
     rw [Addr.add_lit] at hc
     rcases Nat.lt_or_ge b W.heap.size with h | h
     ·exact h
     ·simp [World.cell?, Array.getElem?_eq_none h] at hc
    refine ⟨by omega, hm, .inr ⟨b, off, rfl, hb, by omega, fun i hi => ?_⟩⟩
    have hci := hcell i (by omega)
    rw [Addr.add_lit] at hci
    have hmem : zs.getD i 0 ∈ zs := by
     rw [List.getD_eq_getElem?_getD, List.getElem?_eq_getElem (by omega), Option.getD_some]
     exact List.getElem_mem _
    exact ⟨_, hci, (u8_bounds (hwz _ hmem)).1, (u8_bounds (hwz _ hmem)).2⟩
 clear hA0 hval0
 refine (fnNever_of a0 len0 cap0 W hB (gok_of hsh)).mono fun e W' ⟨he, bel⟩ => ?_
 subst he
 exact ⟨_, rfl, _, _, _, [], _, [], hW', trodAll_mk1 (shut_bool Tryz.underlying4 _), (trodAll_cons_mk (Below.trod laidOut (by kernel_rfl) (of_decide_eq_true (by kernel_rfl)) k0 bel lt0) trodAll_mk0), rfl, bel.frame _, fun h => by cases h⟩
theorem jf0 : (Rows.fnNeverBlocksRow.wf (OpenSpec.ofChange Rows.fnNeverBlocksSpec)) = true := by kernel_rfl
theorem jf3 : (Tryz.f3.params.all (Tryz.prog.readableRec ·)) = true := by kernel_rfl
theorem jf4 : (namedTie Tryz.prog Rows.fnNeverBlocksRow.named Rows.fnNeverBlocksSpec.vars) = true := by kernel_rfl
theorem jf5 : ((Rows.fnNeverBlocksRow.stops == [])) = true := by kernel_rfl
theorem jf7 : ((Rows.fnNeverBlocksRow.knobs == [])) = true := by kernel_rfl
theorem jf9 : ((Rows.fnNeverBlocksRow.inPlace == Tryz.prog.inPlace 3)) = true := by kernel_rfl
theorem jf10 : ((Rows.fnNeverBlocksRow.unfollowed == Tryz.prog.unfollowed 3)) = true := by kernel_rfl
theorem jf11 : ((Rows.fnNeverBlocksRow.recurses == Tryz.prog.recurses 3)) = true := by kernel_rfl
theorem jf12 : ((Rows.fnNeverBlocksRow.named == Tryz.prog.varsNamed 3)) = true := by kernel_rfl
theorem jf13 : ((Rows.fnNeverBlocksRow.maps == (Tryz.f3.params.toList ++ Rows.fnNeverBlocksSpec.plain.varTypes Tryz.prog).any (Tryz.prog.mapsRec ·))) = true := by kernel_rfl
theorem jf14 : ((Rows.fnNeverBlocksRow.ifaces == (Tryz.f3.params.toList ++ Rows.fnNeverBlocksSpec.plain.varTypes Tryz.prog).any (Tryz.prog.ifacesRec ·))) = true := by kernel_rfl
theorem jf15 : ((Rows.fnNeverBlocksRow.mapsOut == Tryz.prog.mapsAmong Tryz.f3.resultTypes.toList)) = true := by kernel_rfl
theorem jf16 : ((Rows.fnNeverBlocksRow.loops == (Tryz.f3.params.toList ++ Rows.fnNeverBlocksSpec.plain.varTypes Tryz.prog).any (Tryz.prog.loopsFrom ·))) = true := by kernel_rfl
theorem jf17 : ((Rows.fnNeverBlocksRow.wideKeys == (Tryz.f3.params.toList ++ Rows.fnNeverBlocksSpec.plain.varTypes Tryz.prog ++ Tryz.f3.resultTypes.toList).any (Tryz.prog.wideKeysFrom ·))) = true := by kernel_rfl
theorem jf18 : (Rows.fnNeverBlocksSpec.vars.all (Tryz.prog.varReadable ·)) = true := by kernel_rfl
theorem jf19 : (Tryz.f3.resultTypes.all (fun t => Tryz.prog.readableRec t && decide (t < Tryz.prog.types.size))) = true := by kernel_rfl
theorem jf20 : ((Rows.fnNeverBlocksRow.ifacesOut == Tryz.f3.resultTypes.toList.any (Tryz.prog.ifacesRec ·))) = true := by kernel_rfl
theorem jf21 : ((Rows.fnNeverBlocksRow.loopsOut == Tryz.f3.resultTypes.toList.any (Tryz.prog.loopsFrom ·))) = true := by kernel_rfl
theorem jf22 : ((Rows.fnNeverBlocksRow.plainKeys == Tryz.prog.plainKeys)) = true := by
  rw [show Rows.fnNeverBlocksRow.plainKeys = true from rfl]
  exact js22
theorem jf23 : (Rows.fnNeverBlocksRow.shortTexts.isNone) = true := by kernel_rfl
theorem jf26 : ((Rows.fnNeverBlocksRow.lifted == Tryz.prog.liftsFinal)) = true := by
  rw [show Rows.fnNeverBlocksRow.lifted = false from rfl]
  exact js26
theorem jf27 : ((Tryz.prog.make == some Rows.fnNeverBlocksRow.make)) = true := by
  rw [show Rows.fnNeverBlocksRow.make = Make.cut from rfl]
  exact js27
theorem jf29 : ((Rows.fnNeverBlocksRow.pinned == Rows.fnNeverBlocksRow.pinnedBy)) = true := by kernel_rfl
theorem jf30 : ((Rows.fnNeverBlocksRow.veiled == (Tryz.f3.params.toList ++ Rows.fnNeverBlocksSpec.plain.varTypes Tryz.prog ++ Tryz.f3.resultTypes.toList).any (Tryz.prog.veiledRec ·))) = true := by kernel_rfl
theorem jf31 : (Rows.fnNeverBlocksRow.veiledFits Tryz.prog Tryz.f3.params.toList (Tryz.f3.params.toList ++ Rows.fnNeverBlocksSpec.plain.varTypes Tryz.prog ++ Tryz.f3.resultTypes.toList)) = true := by kernel_rfl
theorem closed : joinedFacts Tryz.prog 3 Tryz.f3 Rows.fnNeverBlocksSpec Rows.fnNeverBlocksRow = true := by
  unfold joinedFacts
  exact and_all jf0 js1 js2 jf3 jf4 jf5 js6 jf7 js8 jf9 jf10 jf11 jf12 jf13 jf14 jf15 jf16 jf17 jf18 jf19 jf20 jf21 jf22 jf23 js24 js25 jf26 jf27 (by kernel_rfl) jf29 jf30 jf31
theorem over : Rows.fnNeverBlocksRow.holds Tryz.pinned (OpenSpec.ofChange Rows.fnNeverBlocksSpec) :=
  OpenClaim.holds_of_wide 3 Tryz.f3 rfl rfl rfl rfl rfl rfl rfl ⟨rfl, rfl, rfl, rfl, rfl⟩ rfl rfl rfl rfl rfl (by kernel_rfl) Tryz.func3 closed
    (of_decide_eq_true (by kernel_rfl)) (by unfold Func.isWrapper; first | (rw [if_pos (by decide +kernel)]; kernel_rfl) | (rw [if_neg (by decide +kernel)]; exact ⟨rfl, rfl⟩))
    (fun os started H enc _ => lifted os started H enc)
theorem never_holds : Rows.FnNeverBlocksSaid := over
#print axioms never_holds
end Go.Proofs.YtihdglmiecifjaaGreat
