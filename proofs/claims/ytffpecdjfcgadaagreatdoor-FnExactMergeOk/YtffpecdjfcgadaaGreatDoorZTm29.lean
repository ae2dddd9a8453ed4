/-
  The program's round of messages: read out.
  The program's waiters: who quits; no other block has turned.
  The program's waiters made anew.
-/
import Derived.Test.YtffpecdjfcgadaaGreatDoorZTm28
import Derived.Test.YtffpecdjfcgadaaGreatDoorZTm24
namespace Go.Proofs.YtffpecdjfcgadaaGreatDoor
open Go.RowKit Pl Il

/-- What the round holds from number f on. -/
def itemsP (P : Nat → Tm) (f n : Nat) : List Tm := (List.range n).map fun i => P ((f + i) % 17)
def segP (P : Nat → Tm) (s n : Nat) : List Tm := (List.range n).map fun i => P (s + i)
theorem itemsP_len (P : Nat → Tm) (f n : Nat) : (itemsP P f n).length = n := by simp [itemsP]
theorem segP_len (P : Nat → Tm) (s n : Nat) : (segP P s n).length = n := by simp [segP]
theorem segP_get {P : Nat → Tm} {s n i : Nat} (h : i < n) : qg (segP P s n) i = P (s + i) := by rw [qg_eq (by rw [segP_len]; exact h)]; simp [segP]
theorem itemsP_get {P : Nat → Tm} {f n i : Nat} (h : i < n) : qg (itemsP P f n) i = P ((f + i) % 17) := by rw [qg_eq (by rw [itemsP_len]; exact h)]; simp [itemsP]
theorem itemsP_lay {P : Nat → Tm} {f : Nat} {its : List Tm} (h : its.length ≤ 17) : itemsP (layP P f its) f its.length = its := by
  refine List.ext_getElem (itemsP_len _ _ _) fun i h1 h2 => ?_
  simp only [itemsP, List.getElem_map, List.getElem_range, layP, dstP]
  rw [show ((f + i) % 17 + 17 - f % 17) % 17 = i by omega, if_pos h2, qg_eq h2]
theorem RndB.seg {b o : Nat} {P : Nat → Tm} {w : World} (h : RndB b o P w) (hP : ∀ j, (P j).2.2.size ≤ maxLen) {s n : Nat} (hs : s + n ≤ 17) : TmAt w (some ⟨b, o + s * 3, none⟩) n (segP P s n) := by
  refine ⟨segP_len _ _ _, fun p hp => ?_, .inr ⟨b, o + s * 3, rfl, h.lt, fun i hi => ?_⟩⟩
  · simp only [segP, List.mem_map] at hp
    obtain ⟨i, _, rfl⟩ := hp
    exact hP _
  · rw [segP_get hi, show o + s * 3 + i * 3 = o + (s + i) * 3 by omega]
    exact h.pl (s + i) (by omega)
/-- A list was made. -/
def ItmP (w : World) (L : List Tm) (n : Nat) (e : Ending) (w' : World) : Prop := ∃ g, e = .returned (.slice (some ⟨g, 0, none⟩) n n) ∧ w'.ownsRow w.heap.size 94 3 (.slice (some ⟨g, 0, none⟩) n n) n (qflat L) ∧ Below w.heap.size w w'
/-- A block whose cells are those of a list of messages is a row. -/
theorem row_of {B g n : Nat} {w : World} {cur : Array Value} {t : TypeId} {L : List Tm} (hB : B ≤ g) (hg : w.heap[g]? = some (.cells cur t (0, 0))) (hs : cur.size = n * 3) (hn : n ≤ 2097152) (hL : L.length = n) (hc : ∀ j, j < n * 3 → w.cell? ⟨g, j, none⟩ = (qflat L)[j]?) : w.ownsRow B t 3 (.slice (some ⟨g, 0, none⟩) n n) n (qflat L) := by
  refine ⟨by rw [length_qflat, hL], .inr ⟨g, n, cur, rfl, hB, hg, Nat.le_refl _, by unfold maxLen; omega, hs, ?_⟩⟩
  refine List.ext_getElem? fun j => ?_
  rw [List.take_of_length_le (by rw [Array.length_toList]; omega)]
  by_cases hj : j < n * 3
  · have := hc j hj
    rw [← this]
    simp [World.cell?, hg]
  · rw [List.getElem?_eq_none (by rw [Array.length_toList]; omega), List.getElem?_eq_none (by rw [length_qflat, hL]; omega)]
end Go.Proofs.YtffpecdjfcgadaaGreatDoor
namespace Go.Proofs.YtffpecdjfcgadaaGreatDoor
open Go.RowKit Go.Maps Pl Il

/-- The block is of the shape it was. -/
def Shp (b : Nat) (w w' : World) : Prop := ∀ (cur : Array Value) (t : TypeId), w.heap[b]? = some (.cells cur t (0, 0)) → ∃ cur' : Array Value, w'.heap[b]? = some (.cells cur' t (0, 0)) ∧ cur'.size = cur.size
theorem Shp.trans {b : Nat} {w u v : World} (h : Shp b w u) (k : Shp b u v) : Shp b w v := fun cur t hg => by
  obtain ⟨c1, h1, s1⟩ := h cur t hg
  obtain ⟨c2, h2, s2⟩ := k c1 t h1
  exact ⟨c2, h2, by omega⟩
theorem Shp.ofBelow {b : Nat} {w w' : World} (h : Below w.heap.size w w') : Shp b w w' := fun cur t hg => ⟨cur, by rw [h.block b (Array.getElem?_eq_some_iff.1 hg).1]; exact hg, rfl⟩
theorem Shp.set (b p : Nat) (w : World) (v : Value) : Shp b w (w.setCell ⟨b, p, none⟩ v) := fun cur t hg => ⟨cur.setIfInBounds p v, heap_setCell_same w b p cur t v hg, by simp⟩
abbrev TurnB (b : Nat) (w w' : World) : Prop := TurnL [(some ⟨b, 0, none⟩, 1)] w w'
/-- Its lists lie in blocks from K on. -/
def NewA (A : Na) (K : Nat) : Prop := (∀ q, (Value.slice A.a A.n A.c).ownBlock = some q → K ≤ q) ∧ ∀ q, (Value.slice A.a' A.n' A.c').ownBlock = some q → K ≤ q
def WOutF (A : Na) (B b : Nat) (w : World) (v : Value) (ln gs : List Int) (e : Ending) (w' : World) : Prop := ∃ A', e = .returned v ∧ WSt B b A' ln gs w' ∧ WTo B b w w' ∧ (TurnB b w w' ∧ Shp b w w') ∧ (A' = A ∨ NewA A' w.heap.size)
end Go.Proofs.YtffpecdjfcgadaaGreatDoor
namespace Go.Proofs.YtffpecdjfcgadaaGreatDoor
open Go.RowKit Go.Maps Pl Il

theorem newWaiters_any (a : Option Addr) (n cap : Nat) (ls : List Int) (a' : Option Addr) (n' cap' : Nat) (ts : List Int) (w : World) (hI : IntsAt w a n ls) (hJ : IntsAt w a' n' ts) (hn : n ≤ 2097152) (hn' : n' ≤ 2097152) :
    Calls Tryz.prog 85 #[.slice a n cap, .slice a' n' cap'] w fun e w' => ∃ a1 c1 a2 c2, e = .returned (.agg #[.slice a1 n c1, .slice a2 n' c2]) ∧ Rows2 w.heap.size w' ⟨a1, n, c1, a2, n', c2⟩ ls ts ∧ Below w.heap.size w w' := by
  generalize hW : w.alloc (.cells #[.slice none 0 0, .slice none 0 0] 108) = W
  have b0 : Below w.heap.size w W := by subst hW; exact bl_alloc (Below.refl _ _) _
  have s0 : W.heap.size = w.heap.size + 1 := by subst hW; simp
  have HI := hidOf (hI.keep b0)
  have HJ := hidOf (hJ.keep b0)
  have e0 : W.cell? ⟨w.heap.size, 0, none⟩ = some (.slice none 0 0) := by subst hW; simp
  have e1 : W.cell? ⟨w.heap.size, 1, none⟩ = some (.slice none 0 0) := by subst hW; simp
  have ef : ∀ o, W.frozen? ⟨w.heap.size, o, none⟩ = false := by subst hW; intro o; simp [go_sem]
  have hl0 : w.heap.size < W.heap.size := by omega
  clear hI hJ
  subst hW
  go_enter Tryz.func85, Tryz.ntmps85
  go_wp2_with fail
  refine (copied_row a n cap ls _ HI.out hn).mono ?_
  rintro e w1 ⟨a1, c1, rfl, hr1, hb1⟩
  have HJ1 := hidOf (HJ.out.keep hb1)
  have d0 := e0
  rw [← hb1.cell (p := ⟨w.heap.size, 0, none⟩) hl0] at d0
  have d1 := e1
  rw [← hb1.cell (p := ⟨w.heap.size, 1, none⟩) hl0] at d1
  have df : ∀ o, w1.frozen? ⟨w.heap.size, o, none⟩ = false := fun o => by rw [hb1.frozen (p := ⟨w.heap.size, o, none⟩) hl0]; exact ef o
  have Hr1 := hidOf hr1
  have B1 := hidOf (bl_trans b0 hb1)
  have hs1 := hb1.size
  clear e0 e1 ef HI HJ hr1 hb1 b0
  go_wp2_with fail
  refine (copied_row a' n' cap' ts _ HJ1.out hn').mono ?_
  rintro e w2 ⟨a2, c2, rfl, hr2, hb2⟩
  have f0 := d0
  rw [← hb2.cell (p := ⟨w.heap.size, 0, none⟩) (by simp only; omega)] at f0
  have f1 := d1
  rw [← hb2.cell (p := ⟨w.heap.size, 1, none⟩) (by simp only; omega)] at f1
  have ff : ∀ o, w2.frozen? ⟨w.heap.size, o, none⟩ = false := fun o => by rw [hb2.frozen (p := ⟨w.heap.size, o, none⟩) (by simp only; omega)]; exact df o
  have hR : Rows2 (w.heap.size + 1) w2 ⟨a1, n, c1, a2, n', c2⟩ ls ts := by
    rw [s0] at Hr1
    refine ⟨row_below Hr1.out hb2, row_mono hr2 (by omega), fun q e e' => ?_⟩
    have h1 := (Hr1.out.lt q e).2
    have h2 := (hr2.lt q e').1
    omega
  have hR2 := (hR.far w.heap.size 0 (by omega) (.slice a1 n c1)).far w.heap.size 1 (by omega) (.slice a2 n' c2)
  have hB2 := bl_set1 (bl_set1 (bl_trans B1.out hb2) w.heap.size 0 (Nat.le_refl _) (.slice a1 n c1)) w.heap.size 1 (Nat.le_refl _) (.slice a2 n' c2)
  have HR2 := hidOf hR2
  have HB2 := hidOf hB2
  clear hR hR2 hB2 hr2 hb2 Hr1 B1 d0 d1 df HJ1
  go_wp2
  refine bodyPost_ret (v := .agg #[.slice a1 n c1, .slice a2 n' c2]) (by simp [results, Tryz.results85, go_sem, f0, f1]) rfl ⟨a1, c1, a2, c2, rfl, HR2.out.mono (by omega), HB2.out⟩
end Go.Proofs.YtffpecdjfcgadaaGreatDoor
