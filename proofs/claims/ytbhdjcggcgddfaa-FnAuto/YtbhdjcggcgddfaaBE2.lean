/-
  The program's events: one is handed back; one of either kind is made.
-/
import Derived.Test.YtbhdjcggcgddfaaMrg12
namespace Go.Proofs.Ytbhdjcggcgddfaa
open Go.RowKit Go.Maps Pl Il

set_option maxHeartbeats 1000000 in
theorem event_any (B b : Nat) (A : Na) (x : Et) (w : World) (hM : EMem B b A x w) :
    Calls Try.prog 187 #[.pointer (some ⟨b, 0, none⟩)] w fun e w' => e = .returned (.agg #[.bool false, .bool x.up, .slice A.a A.n A.c, .slice A.a' A.n' A.c', .int .i64 x.st, .int .i64 x.sp, .int .i64 x.tk]) ∧ Below w.heap.size w w' := by
  have HH0 := hidOf (show BHeld B b A x w w from BHeld.mk' hM (Below.refl _ _))
  have hH : BHeld B b A x w (w.alloc (.cells #[.bool false, .bool false, .slice none 0 0, .slice none 0 0, .int .i64 0, .int .i64 0, .int .i64 0] 46)) := BHeld.keep HH0.out (bl_alloc (Below.refl _ _) _)
  clear hM
  go_enter Try.func187, Try.ntmps187
  go_wp2_with fail
  go_region_held3 (fun w' => BHeld B b A x w w') (first | (exact hH.drew) | assumption | (exact (BHeld.keep HH0.out (bl_alloc (Below.refl _ _) _)).drew))
    (first | fail)
  rename_i hU
  go_wp2
  exact bodyPost_ret (v := .agg #[.bool false, .bool x.up, .slice A.a A.n A.c, .slice A.a' A.n' A.c', .int .i64 x.st, .int .i64 x.sp, .int .i64 x.tk]) (by simp [results, Try.results187, go_sem]) rfl ⟨rfl, hU.bel⟩
set_option maxHeartbeats 1000000 in
theorem autoEvent_any (B b : Nat) (A : Na) (x : Et) (w : World) (hM : EMem B b A x w) :
    Calls Try.prog 195 #[.pointer (some ⟨b, 0, none⟩)] w fun e w' => e = .returned (.agg #[.bool true, .bool x.up, .slice A.a A.n A.c, .slice A.a' A.n' A.c', .int .i64 x.st, .int .i64 x.sp, .int .i64 x.tk]) ∧ Below w.heap.size w w' := by
  have b0 : Below w.heap.size w (w.alloc (.cells #[.bool false, .bool false, .slice none 0 0, .slice none 0 0, .int .i64 0, .int .i64 0, .int .i64 0] 46)) := bl_alloc (Below.refl _ _) _
  have HC := hidOf (event_any B b A x _ (hM.keep b0))
  have x0 := EBox.newZ w 46
  have X0 := hidOf x0
  clear hM x0
  go_enter Try.func195, Try.ntmps195
  go_wp2_with fail
  refine HC.out.mono ?_
  rintro e w1 ⟨rfl, hb1⟩
  have B1 := bl_trans b0 hb1
  have x1 := (X0.out.keep hb1).alloc (.cells #[.bool true, .bool x.up, .slice A.a A.n A.c, .slice A.a' A.n' A.c', .int .i64 x.st, .int .i64 x.sp, .int .i64 x.tk] 46)
  have hE := bl_sE (bl_alloc B1 (.cells #[.bool true, .bool x.up, .slice A.a A.n A.c, .slice A.a' A.n' A.c', .int .i64 x.st, .int .i64 x.sp, .int .i64 x.tk] 46)) w.heap.size (Nat.le_refl _) (.bool true) (.bool x.up) (.slice A.a A.n A.c) (.slice A.a' A.n' A.c') (.int .i64 x.st) (.int .i64 x.sp) (.int .i64 x.tk)
  have HE := hidOf hE
  obtain ⟨_, p0, p1, p2, p3, p4, p5, p6, pf⟩ := id x1
  clear hE B1 hb1 x1 X0 HC b0
  go_wp2
  exact bodyPost_ret (v := .agg #[.bool true, .bool x.up, .slice A.a A.n A.c, .slice A.a' A.n' A.c', .int .i64 x.st, .int .i64 x.sp, .int .i64 x.tk]) (by simp [results, Try.results195, go_sem, p0, p1, p2, p3, p4, p5, p6]) rfl ⟨rfl, HE.out⟩
/-- What flagOf holds on to. -/
abbrev EHeld (w : World) (A : Na) (x : Et) (w' : World) : Prop := w'.cell? ⟨w.heap.size, 0, none⟩ = some (.bool x.au) ∧ w'.cell? ⟨w.heap.size, 1, none⟩ = some (.bool x.up) ∧ w'.cell? ⟨w.heap.size, 2, none⟩ = some (.slice A.a A.n A.c) ∧ w'.cell? ⟨w.heap.size, 3, none⟩ = some (.slice A.a' A.n' A.c') ∧ w'.cell? ⟨w.heap.size, 4, none⟩ = some (.int .i64 x.st) ∧ w'.cell? ⟨w.heap.size, 5, none⟩ = some (.int .i64 x.sp) ∧ w'.cell? ⟨w.heap.size, 6, none⟩ = some (.int .i64 x.tk) ∧ EBox w.heap.size A x w' ∧ Below w.heap.size w w'
section
variable {w : World} {A : Na} {x : Et} {u u' : World}
theorem EHeld.mk' (h : EBox w.heap.size A x u) (hb : Below w.heap.size w u) : EHeld w A x u := ⟨h.c0, h.c1, h.c2, h.c3, h.c4, h.c5, h.c6, h, hb⟩
theorem EHeld.box (h : EHeld w A x u) : EBox w.heap.size A x u := h.2.2.2.2.2.2.2.1
theorem EHeld.bel (h : EHeld w A x u) : Below w.heap.size w u := h.2.2.2.2.2.2.2.2
theorem EHeld.keep (h : EHeld w A x u) (hb : Below u.heap.size u u') : EHeld w A x u' := EHeld.mk' (h.box.keep hb) (bl_trans h.bel hb)
theorem EHeld.drew (h : EHeld w A x u) : EHeld w A x u.drew := h.keep (Below.refl _ _).drew
end
theorem EHeld.st6 {w : World} {A : Na} {x : Et} {u : World} {M : Nat} (h : EHeld w A x u) (hM : w.heap.size < M) (y0 y1 y2 y3 y4 y5 : Value) : EHeld w A x ((((((u.setCell ⟨M, 0, none⟩ y0).setCell ⟨M, 1, none⟩ y1).setCell ⟨M, 2, none⟩ y2).setCell ⟨M, 3, none⟩ y3).setCell ⟨M, 4, none⟩ y4).setCell ⟨M, 5, none⟩ y5) :=
  EHeld.mk' ((((((h.box.far M 0 (by omega) y0).far M 1 (by omega) y1).far M 2 (by omega) y2).far M 3 (by omega) y3).far M 4 (by omega) y4).far M 5 (by omega) y5) (bl_set1 (bl_set1 (bl_set1 (bl_set1 (bl_set1 (bl_set1 h.bel M 0 (by omega) y0) M 1 (by omega) y1) M 2 (by omega) y2) M 3 (by omega) y3) M 4 (by omega) y4) M 5 (by omega) y5)
/-- A variable of six cells. -/
structure Box6 (N : Nat) (v0 v1 v2 v3 v4 v5 : Value) (w : World) : Prop where
  lt : N < w.heap.size
  c0 : w.cell? ⟨N, 0, none⟩ = some v0
  c1 : w.cell? ⟨N, 1, none⟩ = some v1
  c2 : w.cell? ⟨N, 2, none⟩ = some v2
  c3 : w.cell? ⟨N, 3, none⟩ = some v3
  c4 : w.cell? ⟨N, 4, none⟩ = some v4
  c5 : w.cell? ⟨N, 5, none⟩ = some v5
  fr : ∀ o, w.frozen? ⟨N, o, none⟩ = false
theorem Box6.new (w : World) (v0 v1 v2 v3 v4 v5 : Value) (t : TypeId) : Box6 w.heap.size v0 v1 v2 v3 v4 v5 (w.alloc (.cells #[v0, v1, v2, v3, v4, v5] t)) := ⟨by simp, by simp, by simp, by simp, by simp, by simp, by simp, fun o => by simp [go_sem]⟩
theorem Box6.keep {N : Nat} {v0 v1 v2 v3 v4 v5 : Value} {w u : World} (h : Box6 N v0 v1 v2 v3 v4 v5 w) (hb : Below w.heap.size w u) : Box6 N v0 v1 v2 v3 v4 v5 u :=
  ⟨Nat.lt_of_lt_of_le h.lt hb.size, by rw [hb.cell (p := ⟨N, 0, none⟩) h.lt]; exact h.c0, by rw [hb.cell (p := ⟨N, 1, none⟩) h.lt]; exact h.c1, by rw [hb.cell (p := ⟨N, 2, none⟩) h.lt]; exact h.c2, by rw [hb.cell (p := ⟨N, 3, none⟩) h.lt]; exact h.c3, by rw [hb.cell (p := ⟨N, 4, none⟩) h.lt]; exact h.c4, by rw [hb.cell (p := ⟨N, 5, none⟩) h.lt]; exact h.c5, fun o => by rw [hb.frozen (p := ⟨N, o, none⟩) h.lt]; exact h.fr o⟩
/-- While the body is made: the argument's variable, what is common, its two lists. -/
structure CSt (w : World) (A A1 : Na) (x : Et) (M : Nat) (u : World) : Prop where
  held : EHeld w A x u
  box : Box6 M (.slice A1.a A1.n A1.c) (.slice A1.a' A1.n' A1.c') (.int .i64 x.st) (.int .i64 x.sp) (.int .i64 x.tk) (.bool x.up) u
  rows : Rows2 (w.heap.size + 1) u A1 x.ln x.gs
theorem CSt.keep {w : World} {A A1 : Na} {x : Et} {M : Nat} {u u' : World} (h : CSt w A A1 x M u) (hb : Below u.heap.size u u') : CSt w A A1 x M u' := ⟨h.held.keep hb, h.box.keep hb, h.rows.keep hb⟩
/-- A body out of what is common. -/
theorem CSt.body {w : World} {A A1 : Na} {x : Et} {M : Nat} {u : World} (h : CSt w A A1 x M u) (t : TypeId) : EMem w.heap.size u.heap.size A1 x (u.alloc (.cells #[.slice A1.a A1.n A1.c, .slice A1.a' A1.n' A1.c', .int .i64 x.st, .int .i64 x.sp, .int .i64 x.tk, .bool x.up] t)) := by
  have hb : Below u.heap.size u (u.alloc (.cells #[.slice A1.a A1.n A1.c, .slice A1.a' A1.n' A1.c', .int .i64 x.st, .int .i64 x.sp, .int .i64 x.tk, .bool x.up] t)) := bl_alloc (Below.refl _ _) _
  obtain ⟨h0, h1, h2, h3, h4, h5, h6, h7⟩ := Box6.new u (.slice A1.a A1.n A1.c) (.slice A1.a' A1.n' A1.c') (.int .i64 x.st) (.int .i64 x.sp) (.int .i64 x.tk) (.bool x.up) t
  exact ⟨⟨h0, h.held.bel.size, h1, h2, h7, (h.rows.keep hb).mono (by omega), fun e => Nat.lt_irrefl _ (h.rows.one.lt _ e).2, fun e => Nat.lt_irrefl _ (h.rows.two.lt _ e).2⟩, h3, h4, h5, h6⟩
theorem cst_one {w : World} {A : Na} {x : Et} {u u' : World} {a1 a2 : Option Addr} {c1 c2 : Nat} (hH : EHeld w A x u) (hu : w.heap.size + 1 ≤ u.heap.size) (hb : Below u.drew.heap.size u.drew u') (hR : Rows2 u.drew.heap.size u' ⟨a1, A.n, c1, a2, A.n', c2⟩ x.ln x.gs) (t : TypeId) :
    CSt w A ⟨a1, A.n, c1, a2, A.n', c2⟩ x u'.heap.size (u'.alloc (.cells #[.slice a1 A.n c1, .slice a2 A.n' c2, .int .i64 x.st, .int .i64 x.sp, .int .i64 x.tk, .bool x.up] t)) := by
  have hb2 : Below u'.heap.size u' (u'.alloc (.cells #[.slice a1 A.n c1, .slice a2 A.n' c2, .int .i64 x.st, .int .i64 x.sp, .int .i64 x.tk, .bool x.up] t)) := bl_alloc (Below.refl _ _) _
  exact ⟨(EHeld.keep hH.drew hb).keep hb2, Box6.new u' _ _ _ _ _ _ t, (hR.mono hu).keep hb2⟩
theorem cst_two {w : World} {A : Na} {x : Et} {u u' : World} {a1 a2 : Option Addr} {c1 c2 : Nat} (hH : EHeld w A x u) (hu : w.heap.size + 1 ≤ u.heap.size) (t : TypeId) (hb : Below (u.alloc (.cells #[.slice none 0 0, .slice none 0 0, .int .i64 0, .int .i64 0, .int .i64 0, .bool false] t)).drew.heap.size (u.alloc (.cells #[.slice none 0 0, .slice none 0 0, .int .i64 0, .int .i64 0, .int .i64 0, .bool false] t)).drew u') (hR : Rows2 (u.alloc (.cells #[.slice none 0 0, .slice none 0 0, .int .i64 0, .int .i64 0, .int .i64 0, .bool false] t)).drew.heap.size u' ⟨a1, A.n, c1, a2, A.n', c2⟩ x.ln x.gs) :
    CSt w A ⟨a1, A.n, c1, a2, A.n', c2⟩ x u.heap.size ((((((u'.setCell ⟨u.heap.size, 0, none⟩ (.slice a1 A.n c1)).setCell ⟨u.heap.size, 1, none⟩ (.slice a2 A.n' c2)).setCell ⟨u.heap.size, 2, none⟩ (.int .i64 x.st)).setCell ⟨u.heap.size, 3, none⟩ (.int .i64 x.sp)).setCell ⟨u.heap.size, 4, none⟩ (.int .i64 x.tk)).setCell ⟨u.heap.size, 5, none⟩ (.bool x.up)) := by
  have h1 : EHeld w A x u' := EHeld.keep ((EHeld.keep hH (bl_alloc (Below.refl _ _) _)).drew) hb
  have hk := (Box6.new u (.slice none 0 0) (.slice none 0 0) (.int .i64 0) (.int .i64 0) (.int .i64 0) (.bool false) t).keep (bl_trans (Below.refl _ _).drew hb)
  have hne1 : (Value.slice a1 A.n c1).ownBlock ≠ some u.heap.size := fun e => by
    have h := (hR.one.lt _ e).1
    have h2 : (u.alloc (.cells #[.slice none 0 0, .slice none 0 0, .int .i64 0, .int .i64 0, .int .i64 0, .bool false] t)).drew.heap.size = u.heap.size + 1 := by simp [World.drew]
    omega
  have hne2 : (Value.slice a2 A.n' c2).ownBlock ≠ some u.heap.size := fun e => by
    have h := (hR.two.lt _ e).1
    have h2 : (u.alloc (.cells #[.slice none 0 0, .slice none 0 0, .int .i64 0, .int .i64 0, .int .i64 0, .bool false] t)).drew.heap.size = u.heap.size + 1 := by simp [World.drew]
    omega
  refine ⟨h1.st6 (by omega) _ _ _ _ _ _, ⟨by simpa using hk.lt, ?_, ?_, ?_, ?_, ?_, ?_, fun o => by simpa using hk.fr o⟩, ?_⟩
  · exact cell_other (by omega) (cell_other (by omega) (cell_other (by omega) (cell_other (by omega) (cell_other (by omega) (World.cell?_setCell_same _ _ _ hk.c0)))))
  · exact cell_other (by omega) (cell_other (by omega) (cell_other (by omega) (cell_other (by omega) (World.cell?_setCell_same _ _ _ (cell_other (by omega) hk.c1)))))
  · exact cell_other (by omega) (cell_other (by omega) (cell_other (by omega) (World.cell?_setCell_same _ _ _ (cell_other (by omega) (cell_other (by omega) hk.c2)))))
  · exact cell_other (by omega) (cell_other (by omega) (World.cell?_setCell_same _ _ _ (cell_other (by omega) (cell_other (by omega) (cell_other (by omega) hk.c3)))))
  · exact cell_other (by omega) (World.cell?_setCell_same _ _ _ (cell_other (by omega) (cell_other (by omega) (cell_other (by omega) (cell_other (by omega) hk.c4)))))
  · exact World.cell?_setCell_same _ _ _ (cell_other (by omega) (cell_other (by omega) (cell_other (by omega) (cell_other (by omega) (cell_other (by omega) hk.c5)))))
  · exact ((((((hR.mono (by simp; omega)).set _ 0 hne1 hne2 _).set _ 1 hne1 hne2 _).set _ 2 hne1 hne2 _).set _ 3 hne1 hne2 _).set _ 4 hne1 hne2 _).set _ 5 hne1 hne2 _
/-- An event of its kind behind a pointer, and whether it is right. -/
def FlagP (w : World) (A : Na) (x : Et) (e : Ending) (w' : World) : Prop := ∃ (b : Nat) (A' : Na), e = .returned (.tuple #[.iface (if x.au = true then 195 else 192) (.pointer (some ⟨b, 0, none⟩)), .bool (okE x)]) ∧ (A'.n = A.n ∧ A'.n' = A.n') ∧ EMem w.heap.size b A' x w' ∧ Below w.heap.size w w'
set_option maxRecDepth 100000 in
set_option maxHeartbeats 4000000 in
theorem flagOf_any (A : Na) (x : Et) (w : World) (hI : EIn w A x) (hn : A.n ≤ 2097152) (hn' : A.n' ≤ 2097152) (hw : EWf x) :
    Calls Try.prog 105 #[.agg #[.bool x.au, .bool x.up, .slice A.a A.n A.c, .slice A.a' A.n' A.c', .int .i64 x.st, .int .i64 x.sp, .int .i64 x.tk]] w fun e w' => FlagP w A x e w' := by
  generalize hW0 : w.alloc (.cells #[.bool x.au, .bool x.up, .slice A.a A.n A.c, .slice A.a' A.n' A.c', .int .i64 x.st, .int .i64 x.sp, .int .i64 x.tk] 46) = W0
  have B0 : Below w.heap.size w W0 := by subst hW0; exact bl_alloc (Below.refl _ _) _
  have s0 : W0.heap.size = w.heap.size + 1 := by subst hW0; simp
  have x0 : EBox w.heap.size A x W0 := by subst hW0; exact EBox.new w A x _
  have hH : EHeld w A x W0 := EHeld.mk' x0 B0
  have hu : w.heap.size + 1 ≤ W0.heap.size := by omega
  clear x0 s0
  go_enter Try.func105, Try.ntmps105
  go_wp2_with fail
  have HI := hidOf hI
  clear hI
  refine wp_region_noPanic ?_
  refine wp_region_held_drew (S := fun w' => EHeld w A x w') (by kernel_rfl) hH.drew (fun hHeld => ?_)
  refine wpAnyH_take (i := 0) (v := ?_) rfl (by kernel_rfl) (by kernel_rfl) (by kernel_rfl) (fun _ _ _ h => h) (Or.inl ⟨by rfl, ?_⟩) (by assumption) ?_
  case refine_2 => (intro w hSw; (try dsimp only at hSw); go_simp; try with_reducible rfl)
  simp only [Act.put, List.getElem_toArray, List.getElem_cons_zero, List.setIfInBounds_toArray, List.set_cons_zero, List.set_cons_succ]
  refine wpAnyH_take (i := 1) (v := ?_) rfl (by kernel_rfl) (by kernel_rfl) (by kernel_rfl) (fun _ _ _ h => h) (Or.inl ⟨by rfl, ?_⟩) (by assumption) ?_
  case refine_2 => (intro w hSw; (try dsimp only at hSw); go_simp; try with_reducible rfl)
  simp only [Act.put, List.getElem_toArray, List.getElem_cons_zero, List.getElem_cons_succ, List.setIfInBounds_toArray, List.set_cons_zero, List.set_cons_succ]
  refine wpAnyH_take (i := 2) (v := ?_) rfl (by kernel_rfl) (by kernel_rfl) (by kernel_rfl) (fun _ _ _ h => h) (Or.inl ⟨by rfl, ?_⟩) (by assumption) ?_
  case refine_2 => (intro w hSw; (try dsimp only at hSw); go_simp; try with_reducible rfl)
  simp only [Act.put, List.getElem_toArray, List.getElem_cons_zero, List.getElem_cons_succ, List.setIfInBounds_toArray, List.set_cons_zero, List.set_cons_succ]
  refine wpAnyH_take (i := 3) (v := ?_) rfl (by kernel_rfl) (by kernel_rfl) (by kernel_rfl) (fun _ _ _ h => h) (Or.inl ⟨by rfl, ?_⟩) (by assumption) ?_
  case refine_2 => (intro w hSw; (try dsimp only at hSw); go_simp; try with_reducible rfl)
  simp only [Act.put, List.getElem_toArray, List.getElem_cons_zero, List.getElem_cons_succ, List.setIfInBounds_toArray, List.set_cons_zero, List.set_cons_succ]
  refine wpAnyH_take (i := 5) (v := ?_) rfl (by kernel_rfl) (by kernel_rfl) (by kernel_rfl) (fun _ _ _ h => h) (Or.inl ⟨by rfl, ?_⟩) (by assumption) ?_
  case refine_2 => (intro w hSw; (try dsimp only at hSw); go_simp; try with_reducible rfl)
  simp only [Act.put, List.getElem_toArray, List.getElem_cons_zero, List.getElem_cons_succ, List.setIfInBounds_toArray, List.set_cons_zero, List.set_cons_succ]
  refine wpAnyH_take (i := 6) (v := ?_) rfl (by kernel_rfl) (by kernel_rfl) (by kernel_rfl) (fun _ _ _ h => h) (Or.inl ⟨by rfl, ?_⟩) (by assumption) ?_
  case refine_2 => (intro w hSw; (try dsimp only at hSw); go_simp; try with_reducible rfl)
  simp only [Act.put, List.getElem_toArray, List.getElem_cons_zero, List.getElem_cons_succ, List.setIfInBounds_toArray, List.set_cons_zero, List.set_cons_succ]
  refine wpAnyH_take (i := 7) (v := ?_) rfl (by kernel_rfl) (by kernel_rfl) (by kernel_rfl) (fun _ _ _ h => h) (Or.inl ⟨by rfl, ?_⟩) (by assumption) ?_
  case refine_2 => (intro w hSw; (try dsimp only at hSw); go_simp; try with_reducible rfl)
  simp only [Act.put, List.getElem_toArray, List.getElem_cons_zero, List.getElem_cons_succ, List.setIfInBounds_toArray, List.set_cons_zero, List.set_cons_succ]
  refine wpAnyH_take (i := 8) (v := ?_) rfl (by kernel_rfl) (by kernel_rfl) (by kernel_rfl) (fun _ _ _ h => h) (Or.inl ⟨by rfl, ?_⟩) (by assumption) ?_
  case refine_2 => (intro w hSw; (try dsimp only at hSw); go_simp; try with_reducible rfl)
  simp only [Act.put, List.getElem_toArray, List.getElem_cons_zero, List.getElem_cons_succ, List.setIfInBounds_toArray, List.set_cons_zero, List.set_cons_succ]
  refine wpAnyH_take (i := 9) (v := ?_) rfl (by kernel_rfl) (by kernel_rfl) (by kernel_rfl) (fun _ _ _ h => h) (Or.inl ⟨by rfl, ?_⟩) (by assumption) ?_
  case refine_2 => (intro w hSw; (try dsimp only at hSw); go_simp; try with_reducible rfl)
  simp only [Act.put, List.getElem_toArray, List.getElem_cons_zero, List.getElem_cons_succ, List.setIfInBounds_toArray, List.set_cons_zero, List.set_cons_succ]
  refine wpAnyH_take (i := 10) (v := ?_) rfl (by kernel_rfl) (by kernel_rfl) (by kernel_rfl) (fun _ _ _ h => h) (Or.inl ⟨by rfl, ?_⟩) (by assumption) ?_
  case refine_2 => (intro w hSw; (try dsimp only at hSw); go_simp; try with_reducible rfl)
  simp only [Act.put, List.getElem_toArray, List.getElem_cons_zero, List.getElem_cons_succ, List.setIfInBounds_toArray, List.set_cons_zero, List.set_cons_succ]
  refine wpAnyH_take (i := 11) (v := ?_) rfl (by kernel_rfl) (by kernel_rfl) (by kernel_rfl) (fun _ _ _ h => h) (Or.inl ⟨by rfl, ?_⟩) (by assumption) ?_
  case refine_2 => (intro w hSw; (try dsimp only at hSw); go_simp; try with_reducible rfl)
  simp only [Act.put, List.getElem_toArray, List.getElem_cons_zero, List.getElem_cons_succ, List.setIfInBounds_toArray, List.set_cons_zero, List.set_cons_succ]
  refine wpAnyH_take (i := 12) (v := ?_) rfl (by kernel_rfl) (by kernel_rfl) (by kernel_rfl) (fun _ _ _ h => h) (Or.inl ⟨by rfl, ?_⟩) (by assumption) ?_
  case refine_2 => (intro w hSw; (try dsimp only at hSw); go_simp; try with_reducible rfl)
  simp only [Act.put, List.getElem_toArray, List.getElem_cons_zero, List.getElem_cons_succ, List.setIfInBounds_toArray, List.set_cons_zero, List.set_cons_succ]
  refine wpAnyH_take (i := 13) (v := ?_) rfl (by kernel_rfl) (by kernel_rfl) (by kernel_rfl) (fun _ _ _ h => h) (Or.inl ⟨by rfl, ?_⟩) (by assumption) ?_
  case refine_2 => (intro w hSw; (try dsimp only at hSw); go_simp; try with_reducible rfl)
  simp only [Act.put, List.getElem_toArray, List.getElem_cons_zero, List.getElem_cons_succ, List.setIfInBounds_toArray, List.set_cons_zero, List.set_cons_succ]
  refine wpAnyH_ready (rs := [4, 15]) (by kernel_rfl) (by simp) ?_
  refine AllReadyH.cons rfl (fun K hK => ?_) (AllReadyH.cons rfl (fun K hK => ?_) AllReadyH.nil)
  rotate_left
  · go_simp
    refine hK.out _ _ ((EHeld.keep hH (bl_alloc (Below.refl _ _) _)).drew) (fun hHeld => ?_)
    clear hK K
    refine wpAnyH_ready (rs := [4]) (by kernel_rfl) (by simp) ?_
    refine AllReadyH.cons rfl (fun K hK => ?_) AllReadyH.nil
    go_simp
    refine (newWaiters_any A.a A.n A.c x.ln A.a' A.n' A.c' x.gs _ (HI.out.keep hHeld.bel).ints (HI.out.keep hHeld.bel).grs hn hn').mono ?_
    rintro e w1 ⟨a1, c1, a2, c2, rfl, hR, hb1⟩
    go_wp2_with fail
    have hS1 := EHeld.keep hHeld hb1
    refine hK.out _ _ hS1 (fun hHeld => ?_)
    clear hK K
    obtain ⟨kl, k0, k1, k2, k3, k4, k5, kf⟩ := (Box6.new W0 (.slice none 0 0) (.slice none 0 0) (.int .i64 0) (.int .i64 0) (.int .i64 0) (.bool false) 191).keep (bl_trans (Below.refl _ _).drew hb1)
    refine wpAnyH_take (i := 14) (v := ?_) rfl (by kernel_rfl) (by kernel_rfl) (by kernel_rfl) (fun _ _ _ h => h) (Or.inl ⟨by rfl, ?_⟩) (by assumption) ?_
    case refine_2 => (intro w hSw; (try dsimp only at hSw); go_simp; try with_reducible rfl)
    simp only [Act.put, List.getElem_toArray, List.getElem_cons_zero, List.getElem_cons_succ, List.setIfInBounds_toArray, List.set_cons_zero, List.set_cons_succ]
    refine wpAnyH_ready (rs := [16]) (by kernel_rfl) (by simp) ?_
    refine AllReadyH.cons rfl (fun K hK => ?_) AllReadyH.nil
    go_simp
    refine hK.out _ _ (EHeld.st6 (M := W0.heap.size) hS1 (by omega) _ _ _ _ _ _) (fun hHeld => ?_)
    clear hK K
    refine wpAnyH_done (by kernel_rfl) ?_ _
    refine NoPanic.normal ?_
    clear hHeld
    have hC := cst_two hH hu 191 hb1 hR
    generalize hU : ((((((w1.setCell ⟨W0.heap.size, 0, none⟩ (.slice a1 A.n c1)).setCell ⟨W0.heap.size, 1, none⟩ (.slice a2 A.n' c2)).setCell ⟨W0.heap.size, 2, none⟩ (.int .i64 x.st)).setCell ⟨W0.heap.size, 3, none⟩ (.int .i64 x.sp)).setCell ⟨W0.heap.size, 4, none⟩ (.int .i64 x.tk)).setCell ⟨W0.heap.size, 5, none⟩ (.bool x.up)) = U at hC ⊢
    clear hU
    clear hS1 hb1 hR kl k0 k1 k2 k3 k4 k5 kf
    obtain ⟨ml, m0, m1, m2, m3, m4, m5, mf⟩ := id hC.box
    have hMm := hC.body 194
    have hCV := hC.keep (bl_alloc (Below.refl _ _) (.cells #[.slice a1 A.n c1, .slice a2 A.n' c2, .int .i64 x.st, .int .i64 x.sp, .int .i64 x.tk, .bool x.up] 194))
    simp only at hMm m0 m1 m2 m3 m4 m5
    generalize hV : U.alloc (.cells #[.slice a1 A.n c1, .slice a2 A.n' c2, .int .i64 x.st, .int .i64 x.sp, .int .i64 x.tk, .bool x.up] 194) = V at hMm hCV
    obtain ⟨e0, e1, e2, e3, e4, e5, e6, _, _⟩ := id hCV.held
    obtain ⟨_, v0, v1, v2, v3, v4, v5, _⟩ := id hCV.box
    have hMa := hCV.body 196
    have hVV := hCV.held.bel
    have hVA : Below V.heap.size V (V.alloc (.cells #[.slice a1 A.n c1, .slice a2 A.n' c2, .int .i64 x.st, .int .i64 x.sp, .int .i64 x.tk, .bool x.up] 196)) := bl_alloc (Below.refl _ _) _
    simp only at hMa v0 v1 v2 v3 v4 v5
    generalize hV2 : V.alloc (.cells #[.slice a1 A.n c1, .slice a2 A.n' c2, .int .i64 x.st, .int .i64 x.sp, .int .i64 x.tk, .bool x.up] 196) = V2 at hMa hVA
    have HMm := hidOf hMm
    have HMa := hidOf hMa
    have HBm := hidOf hVV
    have HBa := hidOf (bl_trans hVV hVA)
    clear hMm hMa hVV hVA hC hCV hH hW0
    cases hau : x.au
    · rw [hau] at e0
      have mm := meth_man_right U.heap.size
      have HR := hidOf (manRight_any w.heap.size U.heap.size ⟨a1, A.n, c1, a2, A.n', c2⟩ x _ HMm.out hn hn' hw.ln hw.gs hau)
      go_wp2_with fail
      refine HR.out.mono ?_
      rintro e w9 ⟨rfl, hb9⟩
      have HF := hidOf (And.intro (HMm.out.keep hb9) (bl_trans HBm.out hb9))
      clear HR hb9
      go_wp2
      go_ret2
      exact ⟨U.heap.size, ⟨a1, A.n, c1, a2, A.n', c2⟩, by rw [hau]; rfl, ⟨rfl, rfl⟩, HF.out.1, HF.out.2⟩
    · rw [hau] at e0
      have mm := meth_auto_right V.heap.size
      have HR := hidOf (autoRight_any w.heap.size V.heap.size ⟨a1, A.n, c1, a2, A.n', c2⟩ x _ HMa.out hn hn' hw.ln hw.gs hau)
      go_wp2_with fail
      refine HR.out.mono ?_
      rintro e w9 ⟨rfl, hb9⟩
      have HF := hidOf (And.intro (HMa.out.keep hb9) (bl_trans HBa.out hb9))
      clear HR hb9
      go_wp2
      go_ret2
      exact ⟨V.heap.size, ⟨a1, A.n, c1, a2, A.n', c2⟩, by rw [hau]; rfl, ⟨rfl, rfl⟩, HF.out.1, HF.out.2⟩
  · go_simp
    refine (newWaiters_any A.a A.n A.c x.ln A.a' A.n' A.c' x.gs _ (HI.out.keep hHeld.bel).ints (HI.out.keep hHeld.bel).grs hn hn').mono ?_
    rintro e w1 ⟨a1, c1, a2, c2, rfl, hR, hb1⟩
    go_wp2_with fail
    have hS1 := EHeld.keep hHeld hb1
    refine hK.out _ _ hS1 (fun hHeld => ?_)
    clear hK K
    refine wpAnyH_take (i := 14) (v := ?_) rfl (by kernel_rfl) (by kernel_rfl) (by kernel_rfl) (fun _ _ _ h => h) (Or.inl ⟨by rfl, ?_⟩) (by assumption) ?_
    case refine_2 => (intro w hSw; (try dsimp only at hSw); go_simp; try with_reducible rfl)
    simp only [Act.put, List.getElem_toArray, List.getElem_cons_zero, List.getElem_cons_succ, List.setIfInBounds_toArray, List.set_cons_zero, List.set_cons_succ]
    refine wpAnyH_ready (rs := [15]) (by kernel_rfl) (by simp) ?_
    refine AllReadyH.cons rfl (fun K hK => ?_) AllReadyH.nil
    go_simp
    refine hK.out _ _ (EHeld.keep hS1 (bl_alloc (Below.refl _ _) _)) (fun hHeld => ?_)
    clear hK K
    refine wpAnyH_ready (rs := [16]) (by kernel_rfl) (by simp) ?_
    refine AllReadyH.cons rfl (fun K hK => ?_) AllReadyH.nil
    go_simp
    refine hK.out _ _ (EHeld.keep hS1 (bl_alloc (Below.refl _ _) _)) (fun hHeld => ?_)
    clear hK K
    refine wpAnyH_done (by kernel_rfl) ?_ _
    refine NoPanic.normal ?_
    clear hHeld
    have hC := cst_one hH hu hb1 hR 191
    generalize hU : w1.alloc (.cells #[.slice a1 A.n c1, .slice a2 A.n' c2, .int .i64 x.st, .int .i64 x.sp, .int .i64 x.tk, .bool x.up] 191) = U at hC ⊢
    clear hU
    clear hS1 hb1 hR
    obtain ⟨ml, m0, m1, m2, m3, m4, m5, mf⟩ := id hC.box
    have hMm := hC.body 194
    have hCV := hC.keep (bl_alloc (Below.refl _ _) (.cells #[.slice a1 A.n c1, .slice a2 A.n' c2, .int .i64 x.st, .int .i64 x.sp, .int .i64 x.tk, .bool x.up] 194))
    simp only at hMm m0 m1 m2 m3 m4 m5
    generalize hV : U.alloc (.cells #[.slice a1 A.n c1, .slice a2 A.n' c2, .int .i64 x.st, .int .i64 x.sp, .int .i64 x.tk, .bool x.up] 194) = V at hMm hCV
    obtain ⟨e0, e1, e2, e3, e4, e5, e6, _, _⟩ := id hCV.held
    obtain ⟨_, v0, v1, v2, v3, v4, v5, _⟩ := id hCV.box
    have hMa := hCV.body 196
    have hVV := hCV.held.bel
    have hVA : Below V.heap.size V (V.alloc (.cells #[.slice a1 A.n c1, .slice a2 A.n' c2, .int .i64 x.st, .int .i64 x.sp, .int .i64 x.tk, .bool x.up] 196)) := bl_alloc (Below.refl _ _) _
    simp only at hMa v0 v1 v2 v3 v4 v5
    generalize hV2 : V.alloc (.cells #[.slice a1 A.n c1, .slice a2 A.n' c2, .int .i64 x.st, .int .i64 x.sp, .int .i64 x.tk, .bool x.up] 196) = V2 at hMa hVA
    have HMm := hidOf hMm
    have HMa := hidOf hMa
    have HBm := hidOf hVV
    have HBa := hidOf (bl_trans hVV hVA)
    clear hMm hMa hVV hVA hC hCV hH hW0
    cases hau : x.au
    · rw [hau] at e0
      have mm := meth_man_right U.heap.size
      have HR := hidOf (manRight_any w.heap.size U.heap.size ⟨a1, A.n, c1, a2, A.n', c2⟩ x _ HMm.out hn hn' hw.ln hw.gs hau)
      go_wp2_with fail
      refine HR.out.mono ?_
      rintro e w9 ⟨rfl, hb9⟩
      have HF := hidOf (And.intro (HMm.out.keep hb9) (bl_trans HBm.out hb9))
      clear HR hb9
      go_wp2
      go_ret2
      exact ⟨U.heap.size, ⟨a1, A.n, c1, a2, A.n', c2⟩, by rw [hau]; rfl, ⟨rfl, rfl⟩, HF.out.1, HF.out.2⟩
    · rw [hau] at e0
      have mm := meth_auto_right V.heap.size
      have HR := hidOf (autoRight_any w.heap.size V.heap.size ⟨a1, A.n, c1, a2, A.n', c2⟩ x _ HMa.out hn hn' hw.ln hw.gs hau)
      go_wp2_with fail
      refine HR.out.mono ?_
      rintro e w9 ⟨rfl, hb9⟩
      have HF := hidOf (And.intro (HMa.out.keep hb9) (bl_trans HBa.out hb9))
      clear HR hb9
      go_wp2
      go_ret2
      exact ⟨V.heap.size, ⟨a1, A.n, c1, a2, A.n', c2⟩, by rw [hau]; rfl, ⟨rfl, rfl⟩, HF.out.1, HF.out.2⟩
end Go.Proofs.Ytbhdjcggcgddfaa
