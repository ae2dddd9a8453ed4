/-
  Walks of the specification's draws: tokens and one that is to be cancelled.
-/
import Derived.Test.YtgklnpkeffobnaaO4
namespace Go.Proofs.Ytgklnpkeffobnaa
open Go.RowKit Pl Dr Il

theorem bytes_up {w : World} {a : Option Addr} {len cap : Nat} (h : Bytes w.heap.size w a len cap) (o : Obj) : Bytes (w.alloc o).heap.size (w.alloc o) a len cap := by
  have hb := bl_alloc (Below.refl w.heap.size w) o
  obtain ⟨hl, hm, k | ⟨b, off, rfl, hlt, hn, hc⟩⟩ := h
  · exact ⟨hl, hm, .inl k⟩
  · refine ⟨hl, hm, .inr ⟨b, off, rfl, by simp; omega, by simp; omega, fun i hi => ?_⟩⟩
    rw [hb.cell (p := ⟨b, off + i, none⟩) hlt]; exact hc i hi
theorem TokS.far2 {N M : Nat} {v v' : Value} {u : World} (h : TokS N v v' u) (hM : M < N) (x y : Value) : TokS N v v' ((u.setCell ⟨M, 0, none⟩ x).setCell ⟨M, 1, none⟩ y) := by
  have hne : M ≠ N := by omega
  refine ⟨?_, ?_, by simpa using h.2.2⟩
  · rw [World.cell?_setCell_other _ _ _ _ (fun e => hne (congrArg Addr.block e)), World.cell?_setCell_other _ _ _ _ (fun e => hne (congrArg Addr.block e))]; exact h.1
  · rw [World.cell?_setCell_other _ _ _ _ (fun e => hne (congrArg Addr.block e)), World.cell?_setCell_other _ _ _ _ (fun e => hne (congrArg Addr.block e))]; exact h.2.1
theorem TokOwn.ex {B c : Nat} {w w' : World} {a1 : Option Addr} {n1 : Nat} {ps : List Int} {a2 : Option Addr} {n2 : Nat} {qs : List Bool} (h : TokOwn B w a1 n1 ps a2 n2 qs) (hx : Ex c w w') (hc : c < B) : TokOwn B w' a1 n1 ps a2 n2 qs := by
  refine ⟨h.one.other hx ?_, h.two.other hx ?_, h.apart⟩
  · rcases h.one.own with e | ⟨b, off, rfl, hB, _⟩
    · exact .inl e
    · exact .inr fun b' off' e => by cases e; omega
  · rcases h.two.own with e | ⟨b, off, rfl, hB, _⟩
    · exact .inl e
    · exact .inr fun b' off' e => by cases e; omega
/-- What DrawCancel hands back. -/
def DrawnTok (w : World) (e : Ending) (w' : World) : Prop :=
  ∃ a1 n1 c1 a2 n2 c2 ps qs x, e = .returned (.tuple #[.agg #[.slice a1 n1 c1, .slice a2 n2 c2], .int .i64 x]) ∧ TokIn w' a1 n1 ps a2 n2 qs ∧ wfL ps ∧ n1 ≤ 24 ∧ n2 ≤ 24 ∧ (Lit.int .i64 x).wf = true ∧ Below w.heap.size w w'

set_option maxRecDepth 100000 in
set_option maxHeartbeats 400000 in
theorem drawCancel_any (a : Option Addr) (len cap : Nat) (w : World) (hB : Bytes w.heap.size w a len cap) :
    Calls Try.prog 10 #[.slice a len cap] w fun e w' => DrawnTok w e w' := by
  generalize hW0 : w.alloc (.cells #[.slice none 0 0, .slice none 0 0] 27) = W0
  have s0 : W0.heap.size = w.heap.size + 1 := by subst hW0; simp
  have b0 : Below w.heap.size w W0 := by subst hW0; exact bl_alloc (Below.refl _ _) _
  have r0 : W0.heap[w.heap.size]? = some (tokO (.slice none 0 0) (.slice none 0 0)) := by subst hW0; exact heap_alloc_new _ _
  have hB0 : Bytes W0.heap.size W0 a len cap := by subst hW0; exact bytes_up hB _
  have HN := hidOf (new_any a len cap W0 hB0)
  have HR := hidOf r0
  have HB0 := hidOf b0
  have HS := hidOf s0
  clear hB hB0 r0 b0 s0
  go_enter Try.func10, Try.ntmps10
  go_wp2_with fail
  refine HN.out.mono ?_
  rintro e w1 ⟨rfl, hC, hb1⟩
  have r1 : w1.heap[w.heap.size]? = some (tokO (.slice none 0 0) (.slice none 0 0)) := by rw [hb1.block _ (lt_of_some HR.out)]; exact HR.out
  have hcl : w.heap.size < W0.heap.size := by rw [HS.out]; omega
  have b1 : Below w.heap.size w w1 := HB0.out.trans (hb1.mono (by omega))
  have HL := hidOf (l3Some_any a len cap W0.heap.size w1 hC)
  have HR1 := hidOf r1
  have HB1 := hidOf b1
  have hs1 := hb1.size
  have hC0 := hC.lt
  clear hC hb1 r1 b1 HN
  go_wp2_with fail
  refine HL.out.mono ?_
  rintro e w2 ⟨a1, n1, c1, a2, n2, c2, ps, qs, rfl, hO, hw, hn1, hn2, hd⟩
  have r2 : w2.heap[w.heap.size]? = some (tokO (.slice none 0 0) (.slice none 0 0)) := by rw [hd.ex.block _ (lt_of_some HR1.out) (by simp; omega)]; exact HR1.out
  have b2 : Below w.heap.size w w2 := HB1.out.trans (hd.ex.below (by omega) (by have := lt_of_some HR1.out; omega))
  have hRl := lt_of_some HR1.out
  generalize hW3 : w2.alloc (.cells #[.slice a1 n1 c1, .slice a2 n2 c2] 27) = W3
  have b23 : Below w2.heap.size w2 W3 := by subst hW3; exact bl_alloc (Below.refl _ _) _
  have t3 : W3.heap[w2.heap.size]? = some (tokO (.slice a1 n1 c1) (.slice a2 n2 c2)) := by subst hW3; exact heap_alloc_new _ _
  have hS3 : TokS w2.heap.size (.slice a1 n1 c1) (.slice a2 n2 c2) W3 := ⟨(tok_cells t3).1, (tok_cells t3).2.1, lt_of_some t3⟩
  have hcur : Cur W0.heap.size a len cap W3.drew := (hd.cur.keep b23).drew
  have HBw := hidOf (below_any a len cap W0.heap.size ((n1 : Int) + 2) W3.drew hcur (by omega) (by omega))
  have hNc : w2.heap.size ≠ W0.heap.size := by have := hd.cur.lt; omega
  have hwk : IntKind.i64.wrap ((n1 : Int) + 2) = (n1 : Int) + 2 := wrap_small (by omega) (by omega)
  have r3 : W3.heap[w.heap.size]? = some (tokO (.slice none 0 0) (.slice none 0 0)) := by rw [b23.block _ (lt_of_some r2)]; exact r2
  have HO := hidOf (hO.keep b23)
  have HB3 := hidOf (b2.trans (b23.mono b2.size))
  have HR3 := hidOf r3
  have hcs : w.heap.size ≠ W0.heap.size := by omega
  have hRN : w.heap.size < w2.heap.size := lt_of_some r2
  have hB4 : W0.heap.size < w1.heap.size := hC0
  have hW3s : w.heap.size ≤ W3.heap.size := Nat.le_of_lt (lt_of_some r3)
  clear hO hd r2 b2 t3 hcur r3 b23 HL
  go_wp2_with fail
  go_region_held3 (fun w' => TokS w2.heap.size (.slice a1 n1 c1) (.slice a2 n2 c2) w') (first | (exact hS3.drew) | (exact TokS.draw (by assumption) hd4 hNc) | (exact TokS.far2 (by assumption) hRN _ _))
    (first
      | (go_at_call 34; refine HBw.out.mono ?_; rintro e w4 ⟨x, rfl, x0, x1, hd4⟩; have hwx : IntKind.i64.wrap (x - 1) = x - 1 := wrap_small (by omega) (by omega); have hr4 := (hd4.ex.block w.heap.size (show w.heap.size < W3.heap.size by have := lt_of_some HR3.out; exact this) (fun e => hcs (Option.some.inj e))).trans HR3.out; obtain ⟨q0, q1, qf⟩ := tok_cells hr4; have qf0 := qf 0; have qf1 := qf 1))
  go_wp2
  have hO4 := ((HO.out.keep (Below.refl _ _).drew).ex hd4.ex hB4).far w.heap.size 0 (by omega) (.slice a1 n1 c1)
  have hO5 := hO4.far w.heap.size 1 (by omega) (.slice a2 n2 c2)
  have hB5 := ((HB3.out.trans ((Below.refl _ W3).drew.trans (hd4.ex.below (B := w.heap.size) (by omega) hW3s))).setCell (p := ⟨w.heap.size, 0, none⟩) (Nat.le_refl _) (.slice a1 n1 c1)).setCell (p := ⟨w.heap.size, 1, none⟩) (Nat.le_refl _) (.slice a2 n2 c2)
  exact bodyPost_ret (v := .tuple #[.agg #[.slice a1 n1 c1, .slice a2 n2 c2], .int .i64 (x - 1)]) (by simp [results, Try.results10, go_sem, q0, q1]) rfl ⟨_, _, _, _, _, _, ps, qs, _, rfl, hO5.tin, hw, hn1, hn2, WalkArith.wf_i64 (by omega), hB5⟩
end Go.Proofs.Ytgklnpkeffobnaa
