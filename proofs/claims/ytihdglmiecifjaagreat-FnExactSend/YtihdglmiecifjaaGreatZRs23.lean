/-
  The program's waiters: who quits; no other block has turned
  The program's waiters made anew
-/
import Derived.Test.YtihdglmiecifjaaGreatZRs21
import Derived.ChangeAlike
import Derived.RegionTactic
namespace Go.Proofs.YtihdglmiecifjaaGreat
open Go.RowKit Go.Maps Pl Il
/-- The block is of the shape it was. -/
def Shp (b : Nat) (w w' : World) : Prop := ∀ (cur : Array Value) (t : TypeId), w.heap[b]? = some (.cells cur t (0, 0)) → ∃ cur' : Array Value, w'.heap[b]? = some (.cells cur' t (0, 0)) ∧ cur'.size = cur.size
theorem Shp.trans {b : Nat} {w u v : World} (h : Shp b w u) (k : Shp b u v) : Shp b w v := fun cur t hg => by
  obtain ⟨c1, h1, s1⟩ := h cur t hg
  obtain ⟨c2, h2, s2⟩ := k c1 t h1
  exact ⟨c2, h2, by omega⟩
theorem Shp.ofBelow {b : Nat} {w w' : World} (h : Below w.heap.size w w') : Shp b w w' := fun cur t hg => ⟨cur, by rw [h.block b (Array.getElem?_eq_some_iff.1 hg).1]; exact hg, rfl⟩
theorem Shp.set (b p : Nat) (w : World) (v : Value) : Shp b w (w.setCell ⟨b, p, none⟩ v) := fun cur t hg => ⟨cur.setIfInBounds p v, heap_setCell_same w b p cur t v hg, by simp⟩
abbrev TurnB (b : Nat) (w w' : World) : Prop := TurnL [(some ⟨b, 0, none⟩, 1)] w w'
end Go.Proofs.YtihdglmiecifjaaGreat
namespace Go.Proofs.YtihdglmiecifjaaGreat
open Go.RowKit Go.Maps Pl Il
theorem newWaiters_any (a : Option Addr) (n cap : Nat) (ls : List Int) (a' : Option Addr) (n' cap' : Nat) (ts : List Int) (w : World) (hI : IntsAt w a n ls) (hJ : IntsAt w a' n' ts) (hn : n ≤ 2097152) (hn' : n' ≤ 2097152) :
    Calls Tryz.prog 142 #[.slice a n cap, .slice a' n' cap'] w fun e w' => ∃ a1 c1 a2 c2, e = .returned (.agg #[.slice a1 n c1, .slice a2 n' c2]) ∧ Rows2 w.heap.size w' ⟨a1, n, c1, a2, n', c2⟩ ls ts ∧ Below w.heap.size w w' := by
  generalize hW : w.alloc (.cells #[.slice none 0 0, .slice none 0 0] 140) = W
  have b0 : Below w.heap.size w W := by subst hW; exact bl_alloc (Below.refl _ _) _
  have s0 : W.heap.size = w.heap.size + 1 := by subst hW; simp
  have HI := hidOf (hI.keep b0)
  have HJ := hidOf (hJ.keep b0)
  have e0 : W.cell? ⟨w.heap.size, 0, none⟩ = some (.slice none 0 0) := by subst hW; simp
  have e1 : W.cell? ⟨w.heap.size, 1, none⟩ = some (.slice none 0 0) := by subst hW; simp
  have ef : ∀ o, W.frozen? ⟨w.heap.size, o, none⟩ = false := by subst hW; intro o; simp [go_sem]
  have hl0 : w.heap.size < W.heap.size := by omega
  clear hI hJ
  subst hW
  go_enter Tryz.func142, Tryz.ntmps142
  go_wp2_with fail
  refine (copied_row a n cap ls _ HI.out hn).mono ?_
  rintro e w1 ⟨a1, c1, rfl, hr1, hb1⟩
  have HJ1 := hidOf (HJ.out.keep hb1)
  have d0 := e0
  rw [← hb1.cell (p := ⟨w.heap.size, 0, none⟩) hl0] at d0
  have d1 := e1
  rw [← hb1.cell (p := ⟨w.heap.size, 1, none⟩) hl0] at d1
  have df : ∀ o, w1.frozen? ⟨w.heap.size, o, none⟩ = false := fun o => by rw [hb1.frozen (p := ⟨w.heap.size, o, none⟩) hl0]; exact ef o
  have Hr1 := hidOf hr1
  have B1 := hidOf (bl_trans b0 hb1)
  have hs1 := hb1.size
  clear e0 e1 ef HI HJ hr1 hb1 b0
  go_wp2_with fail
  refine (copied_row a' n' cap' ts _ HJ1.out hn').mono ?_
  rintro e w2 ⟨a2, c2, rfl, hr2, hb2⟩
  have f0 := d0
  rw [← hb2.cell (p := ⟨w.heap.size, 0, none⟩) (by simp only; omega)] at f0
  have f1 := d1
  rw [← hb2.cell (p := ⟨w.heap.size, 1, none⟩) (by simp only; omega)] at f1
  have ff : ∀ o, w2.frozen? ⟨w.heap.size, o, none⟩ = false := fun o => by rw [hb2.frozen (p := ⟨w.heap.size, o, none⟩) (by simp only; omega)]; exact df o
  have hR : Rows2 (w.heap.size + 1) w2 ⟨a1, n, c1, a2, n', c2⟩ ls ts := by
    rw [s0] at Hr1
    refine ⟨row_below Hr1.out hb2, row_mono hr2 (by omega), fun q e e' => ?_⟩
    have h1 := (Hr1.out.lt q e).2
    have h2 := (hr2.lt q e').1
    omega
  have hR2 := (hR.far w.heap.size 0 (by omega) (.slice a1 n c1)).far w.heap.size 1 (by omega) (.slice a2 n' c2)
  have hB2 := bl_set1 (bl_set1 (bl_trans B1.out hb2) w.heap.size 0 (Nat.le_refl _) (.slice a1 n c1)) w.heap.size 1 (Nat.le_refl _) (.slice a2 n' c2)
  have HR2 := hidOf hR2
  have HB2 := hidOf hB2
  clear hR hR2 hB2 hr2 hb2 Hr1 B1 d0 d1 df HJ1
  go_wp2
  refine bodyPost_ret (v := .agg #[.slice a1 n c1, .slice a2 n' c2]) (by simp [results, Tryz.results142, go_sem, f0, f1]) rfl ⟨a1, c1, a2, c2, rfl, HR2.out.mono (by omega), HB2.out⟩
end Go.Proofs.YtihdglmiecifjaaGreat
