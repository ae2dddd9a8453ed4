/-
  Walks of the specification's clocks: a list that is being built in a clock's variable.
-/
import Derived.Test.YtfahfbeemgigcaaSC2
namespace Go.Proofs.Ytfahfbeemgigcaa
open Go.RowKit Pl Il Th

theorem infoTs : (Try.prog.info? 36).map (fun i => (i.zero, i.size, i.bytes)) = some (some (.agg #[.int .i64 0, .int .i64 0]), 2, 16) := by kernel_rfl
theorem new_cellsS (w : World) (x : Int × Int) (t : TypeId) : ∀ j u, (tC x)[j]? = some u → (w.alloc (.cells #[.int .i64 x.1, .int .i64 x.2] t)).cell? ((⟨w.heap.size, 0, none⟩ : Addr).add j) = some u := by
  intro j u hu
  have hadd : (⟨w.heap.size, 0, none⟩ : Addr).add j = ⟨w.heap.size, j, none⟩ := by unfold Addr.add; split <;> simp_all
  rw [hadd, World.cell?_alloc_new]
  rw [← hu, ← Array.getElem?_toList]
  rfl
/-- One timer is appended. -/
theorem append_s (B : Nat) (v : Value) (l : List (Int × Int)) (x : Int × Int) (w : World) (ho : w.ownsRow B 36 2 v l.length (tflat l)) (hB : B ≤ w.heap.size) (hs : l.length + 1 ≤ 2097152) :
    ∃ (g' c' : Nat) (w' : World), (Builtin.append_ #[24, 24] 24 #[v, .slice (some ⟨w.heap.size, 0, none⟩) 1 1]).run Try.prog (w.alloc (.cells #[.int .i64 x.1, .int .i64 x.2] 36)) = .ok (.slice (some ⟨g', 0, none⟩) (l.length + 1) c') w' ∧
      w'.ownsRow B 36 2 (.slice (some ⟨g', 0, none⟩) (l.length + 1) c') (l ++ [x]).length (tflat (l ++ [x])) ∧ w.grownBy w' v.ownBlock := by
  obtain ⟨i, hi, hz0, hz1, hz2⟩ := info_parts infoTs
  obtain ⟨g', c', w', hr, hown, hgrow, hl, _⟩ := run_append_lies (P := Try.prog) (w.alloc (.cells #[.int .i64 x.1, .int .i64 x.2] 36)) 24 24 B 36 i _ 2 16 Try.underlying24 hi hz0 hz1 hz2 rfl (by omega) v l.length _ (ho.alloc _) ⟨w.heap.size, 0, none⟩ 1 1 (tC x) rfl
    (new_cellsS _ _ _) (fun u hu => by simp [tC] at hu; rcases hu with rfl | rfl <;> rfl) (by omega) (by unfold maxLen; omega) (by omega) (by simp; omega) _ rfl
  refine ⟨g', c', w', hr, ?_, (World.grownBy_alloc w _ _).trans hgrow⟩
  rw [List.length_append, tflat_snoc]
  exact hown
/-- A clock's variable in block NO: its list, in blocks from BB on, reads as L. -/
structure OutR (w : World) (now : Int) (a : Option Addr) (n cap NO BB : Nat) (t : Int) (v : Value) (L : List (Int × Int)) (wr : World) : Prop where
  box0 : Box2 w.heap.size (.int .i64 now) (.slice a n cap) wr
  box1 : Box2 (w.heap.size + 1) (.int .i64 0) (.slice none 0 0) wr
  out : Box2 NO (.int .i64 t) v wr
  row : wr.ownsRow BB 36 2 v L.length (tflat L)
  below : Below w.heap.size w wr
  lt0 : w.heap.size + 2 ≤ NO
  ltO : NO < BB
  le : BB ≤ wr.heap.size
section
variable {w : World} {now : Int} {a : Option Addr} {n cap NO BB : Nat} {t : Int} {v : Value} {L : List (Int × Int)} {wr u : World}
theorem OutR.keep (h : OutR w now a n cap NO BB t v L wr) (hb : Below wr.heap.size wr u) : OutR w now a n cap NO BB t v L u := by
  refine ⟨h.box0.keep hb, h.box1.keep hb, h.out.keep hb, ?_, bl_trans h.below hb, h.lt0, h.ltO, Nat.le_trans h.le hb.size⟩
  refine h.row.kept (row := none) ⟨hb.os, hb.tape, hb.output, hb.size, fun k hk _ => hb.block k hk⟩ ?_
  cases v.ownBlock <;> simp
theorem Box2.grow {N : Nat} {v0 v1 : Value} {w u : World} {r : Option Nat} (h : Box2 N v0 v1 w) (hg : w.grownBy u r) (hN : some N ≠ r) : Box2 N v0 v1 u := by
  have key : u.heap[N]? = w.heap[N]? := hg.block N h.lt hN
  exact ⟨Nat.lt_of_lt_of_le h.lt hg.size, by rw [← h.c0]; exact World.cell?_of_block key, by rw [← h.c1]; exact World.cell?_of_block key, fun k => by rw [← h.fr k]; exact World.frozen?_of_block key⟩
/-- One more. -/
theorem OutR.push (h : OutR w now a n cap NO BB t v L wr) (y : Int × Int) (hs : L.length + 1 ≤ 2097152) : ∃ (g c : Nat) (w1 : World),
    (Builtin.append_ #[24, 24] 24 #[v, .slice (some ⟨wr.heap.size, 0, none⟩) 1 1]).run Try.prog (wr.alloc (.cells #[.int .i64 y.1, .int .i64 y.2] 36)) = .ok (.slice (some ⟨g, 0, none⟩) (L.length + 1) c) w1 ∧
    w1.cell? ⟨NO, 1, none⟩ = some v ∧ (∀ o, w1.frozen? ⟨NO, o, none⟩ = false) ∧
    OutR w now a n cap NO BB t (.slice (some ⟨g, 0, none⟩) (L.length + 1) c) (L ++ [y]) (w1.setCell ⟨NO, 1, none⟩ (.slice (some ⟨g, 0, none⟩) (L.length + 1) c)) ∧
    (∀ N v0 v1, Box2 N v0 v1 wr → N < BB → N ≠ NO → Box2 N v0 v1 w1 ∧ Box2 N v0 v1 (w1.setCell ⟨NO, 1, none⟩ (.slice (some ⟨g, 0, none⟩) (L.length + 1) c))) := by
  obtain ⟨g, c, w1, hr, ho, hg⟩ := append_s BB v L y wr h.row h.le hs
  have hl := h.lt0
  have hO := h.ltO
  have key : ∀ N, N < BB → some N ≠ v.ownBlock := fun N hN e => by have := (h.row.lt N e.symm).1; omega
  have o1 := h.out.grow hg (key _ hO)
  have hx := fun N v0 v1 (hb : Box2 N v0 v1 wr) (hN : N < BB) => hb.grow hg (key N hN)
  refine ⟨g, c, w1, hr, o1.c1, o1.fr, ⟨(hx _ _ _ h.box0 (by omega)).far NO 1 (by omega) _, (hx _ _ _ h.box1 (by omega)).far NO 1 (by omega) _, o1.set1 _, ?_, ?_, h.lt0, h.ltO, by simp; exact Nat.le_trans h.le hg.size⟩, fun N v0 v1 hb hN hne => ⟨hx N v0 v1 hb hN, (hx N v0 v1 hb hN).far NO 1 hne _⟩⟩
  · exact own_farT ho NO 1 hO _
  · exact (h.below.grown hg h.below.size (fun k hk => by have := (h.row.lt k hk).1; omega)).setCell (p := ⟨NO, 1, none⟩) (by simp only; omega) _
theorem OutR.form (h : OutR w now a n cap NO BB t v L wr) : ∃ a' c', v = .slice a' L.length c' := by
  obtain ⟨a', c', e, _⟩ := ownT_of h.row L rfl
  exact ⟨a', c', e⟩
/-- The variable is handed back. -/
theorem OutR.fin (h : OutR w now a n cap NO BB t v L wr) (x y : Value) : ((wr.setCell ⟨w.heap.size + 1, 0, none⟩ x).setCell ⟨w.heap.size + 1, 1, none⟩ y).ownsRow w.heap.size 36 2 v L.length (tflat L) ∧ Below w.heap.size w ((wr.setCell ⟨w.heap.size + 1, 0, none⟩ x).setCell ⟨w.heap.size + 1, 1, none⟩ y) := by
  have hl := h.lt0
  have hO := h.ltO
  exact ⟨ownsRow_mono (own_farT (own_farT h.row (w.heap.size + 1) 0 (by omega) x) (w.heap.size + 1) 1 (by omega) y) (by omega), (h.below.setCell (p := ⟨w.heap.size + 1, 0, none⟩) (by simp) x).setCell (p := ⟨w.heap.size + 1, 1, none⟩) (by simp) y⟩
end
end Go.Proofs.Ytfahfbeemgigcaa
