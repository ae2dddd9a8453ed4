/-
  The program's heap of timers: two are swapped, one is put behind, the last one is taken.
-/
import Derived.Test.YtfahfbeemgigcaaU1
namespace Go.Proofs.Ytfahfbeemgigcaa
open Go.RowKit Pl Il Th

/-- What turning the heap leaves alone: what lay below B, and every block of another type. -/
structure HFr (B : Nat) (w w' : World) : Prop where
  below : Below B w w'
  oth : ∀ (b : Nat) (cs : Array Value) (t : TypeId) (z : Nat × Nat), w.heap[b]? = some (.cells cs t z) → t ≠ 80 → t ≠ 83 → w'.heap[b]? = w.heap[b]?
theorem HFr.refl (B : Nat) (w : World) : HFr B w w := ⟨Below.refl _ _, fun _ _ _ _ _ _ _ => rfl⟩
theorem HFr.trans {B : Nat} {w w1 w2 : World} (h : HFr B w w1) (k : HFr B w1 w2) : HFr B w w2 :=
  ⟨h.below.trans k.below, fun b cs t z hb h1 h2 => by
    have e := h.oth b cs t z hb h1 h2
    rw [k.oth b cs t z (e.trans hb) h1 h2, e]⟩
theorem lt_blk {w : World} {b : Nat} {o : Obj} (h : w.heap[b]? = some o) : b < w.heap.size := by
  rcases Nat.lt_or_ge b w.heap.size with q | q
  · exact q
  · rw [Array.getElem?_eq_none q] at h; cases h
theorem HFr.of {B : Nat} {w w' : World} (h : Below w.heap.size w w') (hB : B ≤ w.heap.size) : HFr B w w' :=
  ⟨h.mono hB, fun b _ _ _ hb _ _ => h.block b (lt_blk hb)⟩
theorem HFr.keepB {B : Nat} {w w' : World} (h : HFr B w w') (b : Nat) (cs : Array Value) (t : TypeId) (hb : w.heap[b]? = some (.cells cs t (0, 0))) (h1 : t ≠ 80) (h2 : t ≠ 83) : w'.heap[b]? = some (.cells cs t (0, 0)) := (h.oth b cs t _ hb h1 h2).trans hb
theorem HMem.rowH {B : Nat} {w : World} {hb : Nat} {tv : Value} {k : Int} {l : List NT} (h : HMem B w hb tv k l) : tv.ownBlock ≠ some hb := by
  intro e
  obtain ⟨_, ⟨rfl, _⟩ | ⟨g, cap, cur, rfl, _, hg, _⟩⟩ := h.row
  · cases e
  · simp [Value.ownBlock] at e
    subst e
    rw [h.blk] at hg
    simp at hg
theorem HMem.rowT {B : Nat} {w : World} {hb : Nat} {tv : Value} {k : Int} {l : List NT} (h : HMem B w hb tv k l) (b : Nat) (cs : Array Value) (t : TypeId) (z : Nat × Nat) (hbk : w.heap[b]? = some (.cells cs t z)) (ht : t ≠ 83) : some b ≠ tv.ownBlock := by
  intro e
  obtain ⟨_, ⟨rfl, _⟩ | ⟨g, cap, cur, rfl, _, hg, _⟩⟩ := h.row
  · cases e
  · simp [Value.ownBlock] at e
    subst e
    rw [hbk] at hg
    simp at hg
    exact ht hg.2.1
/-- The row alone has turned. -/
theorem HMem.turn {B : Nat} {w w' : World} {hb : Nat} {tv : Value} {k : Int} {l : List NT} (h : HMem B w hb tv k l) (hg : w.grownBy w' tv.ownBlock) : HFr B w w' ∧ w'.heap[hb]? = w.heap[hb]? := by
  refine ⟨⟨(Below.refl _ _).grown hg h.size (fun j hj => (h.row.lt j hj).1), fun b cs t z hbk _ h2 => hg.block b (lt_blk hbk) (h.rowT b cs t z hbk h2)⟩, ?_⟩
  exact hg.block hb h.lt (fun e => h.rowH e.symm)
theorem flat_set : ∀ (l : List NT) (i : Nat) (x : NT), i < l.length → flat (l.set i x) = (((flat l).set (i * 3) (.int .i64 x.tm)).set (i * 3 + 1) (.int .i64 x.tok)).set (i * 3 + 2) (.int .i64 x.num)
  | [], i, x, hi => by simp at hi
  | y :: l, 0, x, _ => by simp [flat, ntC]
  | y :: l, i + 1, x, hi => by
    have ih := flat_set l i x (by simpa using hi)
    simp only [flat, List.set_cons_succ, List.flatMap_cons] at ih ⊢
    rw [ih]
    have hc : (ntC y).length = 3 := rfl
    rw [List.set_append_right _ _ (by rw [hc]; omega), List.set_append_right _ _ (by rw [hc]; omega), List.set_append_right _ _ (by rw [hc]; omega), hc, show (i + 1) * 3 - 3 = i * 3 by omega, show (i + 1) * 3 + 1 - 3 = i * 3 + 1 by omega, show (i + 1) * 3 + 2 - 3 = i * 3 + 2 by omega]
theorem set3_own {B : Nat} {w : World} {b n cap : Nat} {l : List NT} (h : w.ownsRow B 83 3 (.slice (some ⟨b, 0, none⟩) n cap) n (flat l)) (i : Nat) (x : NT) (hi : i < l.length) :
    (((w.setCell ⟨b, i * 3, none⟩ (.int .i64 x.tm)).setCell ⟨b, i * 3 + 1, none⟩ (.int .i64 x.tok)).setCell ⟨b, i * 3 + 2, none⟩ (.int .i64 x.num)).ownsRow B 83 3 (.slice (some ⟨b, 0, none⟩) n cap) n (flat (l.set i x)) := by
  rw [flat_set l i x hi]
  exact (((h.stored (i * 3) _).1.stored (i * 3 + 1) _).1.stored (i * 3 + 2) _).1
theorem grown_set {w w' : World} {b : Nat} (h : w.grownBy w' (some b)) (o : Nat) (x : Value) : w.grownBy (w'.setCell ⟨b, o, none⟩ x) (some b) :=
  ⟨h.os, h.tape, h.output, by simpa using h.size, fun k hk hne => by
    rw [Below.heap_setCell w' ⟨b, o, none⟩ x k (by rintro rfl; exact hne rfl)]
    exact h.block k hk hne⟩
theorem grown_refl (w : World) (r : Option Nat) : w.grownBy w r := ⟨rfl, rfl, rfl, Nat.le_refl _, fun _ _ _ => rfl⟩

set_option maxHeartbeats 8000000 in
theorem swap_ne (b cap n hb i j : Nat) (x0 x1 x2 y0 y1 y2 : Int) (w : World) (c0 : w.cell? ⟨hb, 0, none⟩ = some (.slice (some ⟨b, 0, none⟩) n cap))
   (h1 : w.cell? ⟨b, i * 3, none⟩ = some (.int .i64 x0)) (h2 : w.cell? ⟨b, i * 3 + 1, none⟩ = some (.int .i64 x1)) (h3 : w.cell? ⟨b, i * 3 + 2, none⟩ = some (.int .i64 x2))
   (k1 : w.cell? ⟨b, j * 3, none⟩ = some (.int .i64 y0)) (k2 : w.cell? ⟨b, j * 3 + 1, none⟩ = some (.int .i64 y1)) (k3 : w.cell? ⟨b, j * 3 + 2, none⟩ = some (.int .i64 y2))
   (hi : (0 : Int) ≤ (i : Int) ∧ (i : Int) < (n : Int)) (hj : (0 : Int) ≤ (j : Int) ∧ (j : Int) < (n : Int)) (hf : ∀ o, w.frozen? ⟨b, o, none⟩ = false) (_p00 : ¬ i * 3 = j * 3) (_q00 : ¬ j * 3 = i * 3) (_p01 : ¬ i * 3 = j * 3 + 1) (_q01 : ¬ j * 3 + 1 = i * 3) (_p02 : ¬ i * 3 = j * 3 + 2) (_q02 : ¬ j * 3 + 2 = i * 3) (_p10 : ¬ i * 3 + 1 = j * 3) (_q10 : ¬ j * 3 = i * 3 + 1) (_p11 : ¬ i * 3 + 1 = j * 3 + 1) (_q11 : ¬ j * 3 + 1 = i * 3 + 1) (_p12 : ¬ i * 3 + 1 = j * 3 + 2) (_q12 : ¬ j * 3 + 2 = i * 3 + 1) (_p20 : ¬ i * 3 + 2 = j * 3) (_q20 : ¬ j * 3 = i * 3 + 2) (_p21 : ¬ i * 3 + 2 = j * 3 + 1) (_q21 : ¬ j * 3 + 1 = i * 3 + 2) (_p22 : ¬ i * 3 + 2 = j * 3 + 2) (_q22 : ¬ j * 3 + 2 = i * 3 + 2) :
    Calls Try.prog 86 #[.pointer (some ⟨hb, 0, none⟩), .int .i64 i, .int .i64 j] w fun e w' => e = .returned (.tuple #[]) ∧ w' = ((((((w.setCell ⟨b, i * 3, none⟩ (.int .i64 y0)).setCell ⟨b, i * 3 + 1, none⟩ (.int .i64 y1)).setCell ⟨b, i * 3 + 2, none⟩ (.int .i64 y2)).setCell ⟨b, j * 3, none⟩ (.int .i64 x0)).setCell ⟨b, j * 3 + 1, none⟩ (.int .i64 x1)).setCell ⟨b, j * 3 + 2, none⟩ (.int .i64 x2)).drew := by
  go_enter Try.func86, Try.ntmps86
  go_wp2_with fail
  go_big_region
  all_goals go_wp2
  all_goals go_end0
  all_goals exact ⟨rfl, rfl⟩
set_option maxHeartbeats 8000000 in
theorem swap_same (b cap n hb i : Nat) (y0 y1 y2 : Int) (w : World) (c0 : w.cell? ⟨hb, 0, none⟩ = some (.slice (some ⟨b, 0, none⟩) n cap))
   (k1 : w.cell? ⟨b, i * 3, none⟩ = some (.int .i64 y0)) (k2 : w.cell? ⟨b, i * 3 + 1, none⟩ = some (.int .i64 y1)) (k3 : w.cell? ⟨b, i * 3 + 2, none⟩ = some (.int .i64 y2))
   (hi : (0 : Int) ≤ (i : Int) ∧ (i : Int) < (n : Int)) (hf : ∀ o, w.frozen? ⟨b, o, none⟩ = false) :
    Calls Try.prog 86 #[.pointer (some ⟨hb, 0, none⟩), .int .i64 i, .int .i64 i] w fun e w' => e = .returned (.tuple #[]) ∧ w' = ((((((w.setCell ⟨b, i * 3, none⟩ (.int .i64 y0)).setCell ⟨b, i * 3 + 1, none⟩ (.int .i64 y1)).setCell ⟨b, i * 3 + 2, none⟩ (.int .i64 y2)).setCell ⟨b, i * 3, none⟩ (.int .i64 y0)).setCell ⟨b, i * 3 + 1, none⟩ (.int .i64 y1)).setCell ⟨b, i * 3 + 2, none⟩ (.int .i64 y2)).drew := by
  go_enter Try.func86, Try.ntmps86
  go_wp2_with fail
  go_big_region
  all_goals go_wp2
  all_goals go_end0
  all_goals exact ⟨rfl, rfl⟩
theorem swap_any (B hb : Nat) (tv : Value) (k : Int) (l : List NT) (i j : Nat) (w : World) (h : HMem B w hb tv k l) (hi : i < l.length) (hj : j < l.length) :
    Calls Try.prog 86 #[.pointer (some ⟨hb, 0, none⟩), .int .i64 i, .int .i64 j] w fun e w' => e = .returned (.tuple #[]) ∧ HMem B w' hb tv k (swapL l i j) ∧ HFr B w w' := by
  have c0 := h.c0
  obtain ⟨b, cap, rfl, _⟩ := h.form (by omega)
  have hii : (0 : Int) ≤ (i : Int) ∧ (i : Int) < (l.length : Int) := by omega
  have hjj : (0 : Int) ≤ (j : Int) ∧ (j : Int) < (l.length : Int) := by omega
  have z1 := row_cells h.row rfl hi
  have z2 := row_cells h.row rfl hj
  have hf : ∀ o, w.frozen? ⟨b, o, none⟩ = false := fun o => h.row.frozenAt o
  have q1 := set3_own (set3_own h.row i (g l j) hi) j (g l i) (by simpa using hj)
  have q2 := h.turn (grown_set (grown_set (grown_set (grown_set (grown_set (grown_set (grown_refl w (some b)) (i * 3) (.int .i64 (g l j).tm)) (i * 3 + 1) (.int .i64 (g l j).tok)) (i * 3 + 2) (.int .i64 (g l j).num)) (j * 3) (.int .i64 (g l i).tm)) (j * 3 + 1) (.int .i64 (g l i).tok)) (j * 3 + 2) (.int .i64 (g l i).num))
  have hlen : (swapL l i j).length = l.length := length_swap l i j
  have key : Calls Try.prog 86 #[.pointer (some ⟨hb, 0, none⟩), .int .i64 i, .int .i64 j] w fun e w' => e = .returned (.tuple #[]) ∧ w' = ((((((w.setCell ⟨b, i * 3, none⟩ (.int .i64 (g l j).tm)).setCell ⟨b, i * 3 + 1, none⟩ (.int .i64 (g l j).tok)).setCell ⟨b, i * 3 + 2, none⟩ (.int .i64 (g l j).num)).setCell ⟨b, j * 3, none⟩ (.int .i64 (g l i).tm)).setCell ⟨b, j * 3 + 1, none⟩ (.int .i64 (g l i).tok)).setCell ⟨b, j * 3 + 2, none⟩ (.int .i64 (g l i).num)).drew := by
    by_cases e : i = j
    · subst e
      exact swap_same b cap l.length hb i _ _ _ w c0 z2.c0 z2.c1 z2.c2 hii hf
    · exact swap_ne b cap l.length hb i j _ _ _ _ _ _ w c0 z1.c0 z1.c1 z1.c2 z2.c0 z2.c1 z2.c2 hii hjj hf (by omega) (by omega) (by omega) (by omega) (by omega) (by omega) (by omega) (by omega) (by omega) (by omega) (by omega) (by omega) (by omega) (by omega) (by omega) (by omega) (by omega) (by omega)
  refine key.mono ?_
  rintro e w' ⟨rfl, rfl⟩
  exact ⟨rfl, HMem.keep (HMem.mk (q2.2.trans h.blk) (by rw [hlen]; exact q1) h.ge) (Below.refl _ _).drew, q2.1.trans (HFr.of (Below.refl _ _).drew (HMem.mk (q2.2.trans h.blk) (by rw [hlen]; exact q1) h.ge : HMem B _ hb _ k (swapL l i j)).size)⟩
end Go.Proofs.Ytfahfbeemgigcaa
