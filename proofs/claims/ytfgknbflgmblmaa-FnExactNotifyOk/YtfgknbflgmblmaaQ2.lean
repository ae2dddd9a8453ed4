/-
  Walks of the program's queue: who joins.
-/
import Derived.Test.YtfgknbflgmblmaaQ1
namespace Go.Proofs.Ytfgknbflgmblmaa
open Go.RowKit Go.Maps Pl Il

theorem QMem.appended {B : Nat} {w w' : World} {qb mb g c n : Nat} {cv : Value} {D : DataW Unit} {xs : List Int} {x : Int} (h : QMem B w qb mb cv D n xs) (hr : w'.ownsRow B 3 1 (.slice (some ⟨g, 0, none⟩) (xs.length + 1) c) (xs.length + 1) ((xs ++ [x]).map (Value.int .i64)))
    (hg : w.grownBy w' cv.ownBlock) (hl : cv.ownBlock = some g ∨ w.heap.size ≤ g) :
    QMem B (w'.setCell ⟨qb, 0, none⟩ (.slice (some ⟨g, 0, none⟩) (xs.length + 1) c)) qb mb (.slice (some ⟨g, 0, none⟩) (xs.length + 1) c) D n (xs ++ [x]) := by
  have hq : w'.heap[qb]? = some (.cells #[cv, .map (some mb)] 106 (0, 0)) := by
    rw [hg.block qb h.lt (fun e => h.rowQ e.symm)]; exact h.blk
  have hgq : g ≠ qb := by
    rcases hl with hl | hl
    · intro e; subst e; exact h.rowQ hl
    · have := h.lt; omega
  have hm := (h.map.kept hg (fun e => h.rowM e.symm)).setCell (a := ⟨qb, 0, none⟩) h.ne (.slice (some ⟨g, 0, none⟩) (xs.length + 1) c)
  have hs : w'.grownBy (w'.setCell ⟨qb, 0, none⟩ (.slice (some ⟨g, 0, none⟩) (xs.length + 1) c)) (some qb) := ⟨rfl, rfl, rfl, by simp, fun k _ hk => Below.heap_setCell _ _ _ _ (by rintro rfl; exact hk rfl)⟩
  refine ⟨?_, ?_, hm, h.ge, h.ge'⟩
  · have hlt : qb < w'.heap.size := by
      rcases Nat.lt_or_ge qb w'.heap.size with k | k
      · exact k
      · rw [Array.getElem?_eq_none k] at hq; cases hq
    have hq' : w'.heap[qb] = .cells #[cv, .map (some mb)] 106 (0, 0) := by
      rw [Array.getElem?_eq_getElem hlt] at hq
      exact Option.some.inj hq
    simp [World.setCell, Array.getElem_modify, hlt, hq']
  · have := hr.kept hs (.inr (by simp [Value.ownBlock]; exact hgq))
    simpa using this

theorem QMem.mono {B : Nat} {w : World} {qb mb n n' : Nat} {cv : Value} {D : DataW Unit} {xs : List Int} (h : QMem B w qb mb cv D n xs) (hn : n ≤ n') : QMem B w qb mb cv D n' xs := ⟨h.blk, h.row, h.map.mono hn, h.ge, h.ge'⟩
/-- What is needed of the world at the walk's last store. -/
theorem QMem.ready {B : Nat} {w : World} {qb mb n : Nat} {cv : Value} {D : DataW Unit} {xs : List Int} (x : Int) (h : QMem B w qb mb cv D n xs) (hn : xs.length ≤ 2097152) : ∃ (g c : Nat) (w' : World),
    (Builtin.append_ #[24, 24] 24 #[cv, .slice (some ⟨w.heap.size, 0, none⟩) 1 1]).run Try.prog (w.alloc (.cells #[.int .i64 x] 3)) = .ok (.slice (some ⟨g, 0, none⟩) (xs.length + 1) c) w' ∧
    QMem B (w'.setCell ⟨qb, 0, none⟩ (.slice (some ⟨g, 0, none⟩) (xs.length + 1) c)) qb mb (.slice (some ⟨g, 0, none⟩) (xs.length + 1) c) D n (xs ++ [x]) ∧
    Below B w (w'.setCell ⟨qb, 0, none⟩ (.slice (some ⟨g, 0, none⟩) (xs.length + 1) c)) ∧ w'.cell? ⟨qb, 0, none⟩ = some cv ∧ w'.frozen? ⟨qb, 0, none⟩ = false := by
  obtain ⟨g, c, w', hr, ho, hg, hl⟩ := append_own1 B xs.length cv xs x w h.row h.size (by omega)
  refine ⟨g, c, w', hr, h.appended ho hg hl, ((Below.refl _ _).grown hg h.size (fun k hk => (h.row.lt k hk).1)).setCell (p := ⟨qb, 0, none⟩) h.ge _, ?_, ?_⟩
  · rw [← h.c0]; exact World.cell?_of_block (hg.block qb h.lt (fun e => h.rowQ e.symm))
  · rw [← h.f0]; exact World.frozen?_of_block (hg.block qb h.lt (fun e => h.rowQ e.symm))

theorem join_any (B qb : Nat) (xs : List Int) (x : Int) (w : World) (hQ : QAt B w qb xs []) (hx : (Lit.int .i64 x).wf = true) (hn : xs.length ≤ 2097152) :
    Calls Try.prog 92 #[.pointer (some ⟨qb, 0, none⟩), .int .i64 x] w fun e w' => e = .returned (.tuple #[]) ∧ QAt B w' qb (xs ++ [x]) [] ∧ Below B w w' := by
  obtain ⟨mb, cv, D, hq⟩ := hQ
  have hkey := keyOf_int_mk Try.underlying3 hx
  have c0 := hq.mem.c0
  have c1 := hq.mem.c1
  have hown := hq.mem.map
  have hh := hq.has x
  rw [place_isSome] at hh
  cases hhas : hasL xs x
  · rw [hhas] at hh
    obtain ⟨a, ca, rfl, _⟩ := hq.mem.form
    have hwl : (Lit.int .i64 (xs.length : Int)).wf = true := WalkArith.wf_i64 (by omega)
    obtain ⟨w1, hrun, hown1, hturn1⟩ := World.ownsMap.store (t := 104) (e := 3) hown.drew law3 Try.underlying104 (by unfold maxLen; omega) hkey (plainElem_int Try.underlying3 hwl)
    have hM1 := (hq.mem.keep (Below.refl _ w).drew).mapped hown1 hturn1.grown
    have hb1 : Below B w w1 := (Below.refl _ w).drew.grown hturn1.grown hq.mem.size (fun k hk => by cases hk; exact hq.mem.ge')
    have hrd := hq.rd.join_new (hown.tidy law3) hhas
    obtain ⟨g, c, w', hr, hP, hb, c0', f0'⟩ := hM1.ready x hn
    have d0 := hM1.c0
    have d1 := hM1.c1
    have Hr := hidOf hr
    have HP := hidOf hP
    have hb2 := hb1.trans hb
    clear hr hP hq hown1 hturn1 hM1 hb1 hb
    go_enter Try.func92, Try.ntmps92
    go_wp2_with (first
      | (at_lookup; refine wpList_lookup_own_ok_int _ rfl _ _ 104 rfl 3 3 .i64 law3 Try.underlying104 Try.underlying3 (zero3 _) mb _ D rfl hown _ _ rfl hkey ?_; intro c0 hat hwc)
      | go_in)
    go_region_with (fail)
    all_goals go_wp2_with (first
      | (at_builtin; refine wpList_append_run rfl _ _ 24 rfl _ _ _ rfl rfl Hr.out ?_)
      | go_in)
    all_goals go_end0
    all_goals exact ⟨rfl, ⟨mb, _, _, HP.out.mono (by simp), hrd⟩, hb2⟩
  · rw [hhas] at hh
    obtain ⟨g, c, w', hr, hP, hb, c0', f0'⟩ := hq.mem.ready x hn
    have hrd := hq.rd.join_old hhas
    obtain ⟨a, ca, rfl, _⟩ := hq.mem.form
    have Hr := hidOf hr
    have HP := hidOf hP
    clear hr hP hq
    go_enter Try.func92, Try.ntmps92
    go_wp2_with (first
      | (at_lookup; refine wpList_lookup_own_ok_int _ rfl _ _ 104 rfl 3 3 .i64 law3 Try.underlying104 Try.underlying3 (zero3 _) mb _ D rfl hown _ _ rfl hkey ?_; intro c0 hat hwc)
      | (at_builtin; refine wpList_append_run rfl _ _ 24 rfl _ _ _ rfl rfl Hr.out ?_)
      | go_in)
    go_end0
    exact ⟨rfl, ⟨mb, _, _, HP.out.mono (by simp), hrd⟩, hb⟩
end Go.Proofs.Ytfgknbflgmblmaa
