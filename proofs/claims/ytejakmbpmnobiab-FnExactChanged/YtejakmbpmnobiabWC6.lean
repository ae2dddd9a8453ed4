/-
  Walk of the law on Changed, out of the contracts.
-/
import Derived.Test.YtejakmbpmnobiabBQ
import Derived.Test.YtejakmbpmnobiabHC
import Derived.Deep.RegionHeld3
import Derived.Deep.CutRange
namespace Go.Proofs.Ytejakmbpmnobiab
open Go.RowKit Pl Il

/-- What the law on Changed holds on to. -/
abbrev LawCh (w : World) (k n : Int) (s : ByteArray) (kind k' n' : Int) (s' : ByteArray) (M : Nat) (y0 y1 y2 : Value) (w' : World) : Prop := w'.cell? ⟨w.heap.size, 0, none⟩ = some (.int .i64 k) ∧ w'.cell? ⟨w.heap.size, 1, none⟩ = some (.int .i64 n) ∧ w'.cell? ⟨w.heap.size, 2, none⟩ = some (.string s) ∧ w'.cell? ⟨w.heap.size + 1, 0, none⟩ = some (.int .i64 kind) ∧ w'.cell? ⟨w.heap.size + 1, 1, none⟩ = some (.int .i64 k') ∧ w'.cell? ⟨w.heap.size + 1, 2, none⟩ = some (.int .i64 n') ∧ w'.cell? ⟨w.heap.size + 1, 3, none⟩ = some (.string s') ∧ Box3 w.heap.size (.int .i64 k) (.int .i64 n) (.string s) w' ∧ Box4 (w.heap.size + 1) (.int .i64 kind) (.int .i64 k') (.int .i64 n') (.string s') w' ∧ Box3 M y0 y1 y2 w' ∧ Below w.heap.size w w'
section
variable {w : World} {k n : Int} {s : ByteArray} {kind k' n' : Int} {s' : ByteArray} {M : Nat} {y0 y1 y2 : Value} {u u' : World}
theorem LawCh.mk' (h1 : Box3 w.heap.size (.int .i64 k) (.int .i64 n) (.string s) u) (h2 : Box4 (w.heap.size + 1) (.int .i64 kind) (.int .i64 k') (.int .i64 n') (.string s') u) (h3 : Box3 M y0 y1 y2 u) (h4 : Below w.heap.size w u) : LawCh w k n s kind k' n' s' M y0 y1 y2 u := ⟨h1.c0, h1.c1, h1.c2, h2.c0, h2.c1, h2.c2, h2.c3, h1, h2, h3, h4⟩
theorem LawCh.b1 (h : LawCh w k n s kind k' n' s' M y0 y1 y2 u) : Box3 w.heap.size (.int .i64 k) (.int .i64 n) (.string s) u := h.2.2.2.2.2.2.2.1
theorem LawCh.b2 (h : LawCh w k n s kind k' n' s' M y0 y1 y2 u) : Box4 (w.heap.size + 1) (.int .i64 kind) (.int .i64 k') (.int .i64 n') (.string s') u := h.2.2.2.2.2.2.2.2.1
theorem LawCh.b3 (h : LawCh w k n s kind k' n' s' M y0 y1 y2 u) : Box3 M y0 y1 y2 u := h.2.2.2.2.2.2.2.2.2.1
theorem LawCh.bel (h : LawCh w k n s kind k' n' s' M y0 y1 y2 u) : Below w.heap.size w u := h.2.2.2.2.2.2.2.2.2.2
theorem LawCh.keep (h : LawCh w k n s kind k' n' s' M y0 y1 y2 u) (hb : Below u.heap.size u u') : LawCh w k n s kind k' n' s' M y0 y1 y2 u' := LawCh.mk' (h.b1.keep hb) (h.b2.keep hb) (h.b3.keep hb) (bl_trans h.bel hb)
theorem LawCh.drew (h : LawCh w k n s kind k' n' s' M y0 y1 y2 u) : LawCh w k n s kind k' n' s' M y0 y1 y2 u.drew := h.keep (Below.refl _ _).drew
theorem LawCh.st3 {R : Nat} (h : LawCh w k n s kind k' n' s' M y0 y1 y2 u) (h1 : w.heap.size + 1 < R) (h2 : M < R) (a b c : Value) : LawCh w k n s kind k' n' s' M y0 y1 y2 (((u.setCell ⟨R, 0, none⟩ a).setCell ⟨R, 1, none⟩ b).setCell ⟨R, 2, none⟩ c) :=
  LawCh.mk' (((h.b1.far R 0 (by omega) a).far R 1 (by omega) b).far R 2 (by omega) c) (((h.b2.far R 0 (by omega) a).far R 1 (by omega) b).far R 2 (by omega) c) (((h.b3.far R 0 (by omega) a).far R 1 (by omega) b).far R 2 (by omega) c) (bl_set1 (bl_set1 (bl_set1 h.bel R 0 (by omega) a) R 1 (by omega) b) R 2 (by omega) c)
end
theorem Pl.Box3.all {N : Nat} {v0 v1 v2 : Value} {w : World} (h : Box3 N v0 v1 v2 w) (a b c : Value) : Box3 N a b c (((w.setCell ⟨N, 0, none⟩ a).setCell ⟨N, 1, none⟩ b).setCell ⟨N, 2, none⟩ c) := by
  have g0 : (w.setCell ⟨N, 0, none⟩ a).cell? ⟨N, 0, none⟩ = some a := World.cell?_setCell_same _ _ _ h.c0
  have g1 : (w.setCell ⟨N, 0, none⟩ a).cell? ⟨N, 1, none⟩ = some v1 := by rw [World.cell?_setCell_other _ _ _ _ (by simp)]; exact h.c1
  have g2 : (w.setCell ⟨N, 0, none⟩ a).cell? ⟨N, 2, none⟩ = some v2 := by rw [World.cell?_setCell_other _ _ _ _ (by simp)]; exact h.c2
  have f0 : ((w.setCell ⟨N, 0, none⟩ a).setCell ⟨N, 1, none⟩ b).cell? ⟨N, 0, none⟩ = some a := by rw [World.cell?_setCell_other _ _ _ _ (by simp)]; exact g0
  have f1 : ((w.setCell ⟨N, 0, none⟩ a).setCell ⟨N, 1, none⟩ b).cell? ⟨N, 1, none⟩ = some b := World.cell?_setCell_same _ _ _ g1
  have f2 : ((w.setCell ⟨N, 0, none⟩ a).setCell ⟨N, 1, none⟩ b).cell? ⟨N, 2, none⟩ = some v2 := by rw [World.cell?_setCell_other _ _ _ _ (by simp)]; exact g2
  exact ⟨by simpa using h.lt, by rw [World.cell?_setCell_other _ _ _ _ (by simp)]; exact f0, by rw [World.cell?_setCell_other _ _ _ _ (by simp)]; exact f1, World.cell?_setCell_same _ _ _ f2, fun q => by simpa using h.fr q⟩
/-- What is asked of a Changed. -/
def ChSays (f : Nat) : Prop := ∀ (k n : Int) (s : ByteArray) (kind k' n' : Int) (s' : ByteArray) (w : World), s.size ≤ maxLen → s'.size ≤ maxLen → (Lit.int .i64 kind).wf = true →
  Calls Try.prog f #[.agg #[.int .i64 k, .int .i64 n, .string s], .agg #[.int .i64 kind, .int .i64 k', .int .i64 n', .string s']] w fun e w' => ChP (changedM k n s kind k' n' s') e ∧ Below w.heap.size w w'
set_option maxRecDepth 100000 in
set_option maxHeartbeats 4000000 in
theorem exactChanged_of (hSp : ChSays 19) (hI : ChSays 22) (k n : Int) (s : ByteArray) (kind k' n' : Int) (s' : ByteArray) (w : World) (hs : s.size ≤ maxLen) (hs' : s'.size ≤ maxLen) (hk : (Lit.int .i64 kind).wf = true) :
    Calls Try.prog 4 #[.agg #[.int .i64 k, .int .i64 n, .string s], .agg #[.int .i64 kind, .int .i64 k', .int .i64 n', .string s']] w fun e w' => e = .returned (.bool true) ∧ Below w.heap.size w w' := by
  obtain ⟨rk, rn, rs, rb, hm⟩ : ∃ (rk rn : Int) (rs : ByteArray) (rb : Bool), changedM k n s kind k' n' s' = (rk, rn, rs, rb) := ⟨_, _, _, _, rfl⟩
  have HS := hidOf (fun u => (hSp k n s kind k' n' s' u hs hs' hk).mono fun e w' (h : _ ∧ _) => (show e = .returned (.tuple #[.agg #[.int .i64 rk, .int .i64 rn, .string rs], .bool rb]) ∧ Below u.heap.size u w' from ⟨by have h1 := h.1; unfold ChP at h1; rw [hm] at h1; exact h1, h.2⟩))
  have HI := hidOf (fun u => (hI k n s kind k' n' s' u hs hs' hk).mono fun e w' (h : _ ∧ _) => (show e = .returned (.tuple #[.agg #[.int .i64 rk, .int .i64 rn, .string rs], .bool rb]) ∧ Below u.heap.size u w' from ⟨by have h1 := h.1; unfold ChP at h1; rw [hm] at h1; exact h1, h.2⟩))
  clear hSp hI hm hk
  generalize hW0 : w.alloc (.cells #[.int .i64 k, .int .i64 n, .string s] 23) = W0
  generalize hW1 : W0.alloc (.cells #[.int .i64 kind, .int .i64 k', .int .i64 n', .string s'] 36) = W1
  have z0 : W0.heap.size = w.heap.size + 1 := by subst hW0; simp
  have x0 : Box3 w.heap.size (.int .i64 k) (.int .i64 n) (.string s) W1 := by subst hW1 hW0; exact (Box3.new w _ _ _ _).alloc _
  have x1 : Box4 (w.heap.size + 1) (.int .i64 kind) (.int .i64 k') (.int .i64 n') (.string s') W1 := by subst hW1; rw [← z0]; exact Box4.new W0 _ _ _ _ _
  have B0 : Below w.heap.size w W1 := by subst hW1 hW0; exact bl_alloc (bl_alloc (Below.refl _ _) _) _
  have HH0 := hidOf (LawCh.mk' x0 x1 x0 B0)
  clear x0 x1 B0 z0
  subst hW1 hW0
  go_enter Try.func4, Try.ntmps4
  go_wp2_with fail
  refine (szMsg_any k n 1048576 s _ hs (by omega) (by omega)).mono ?_
  rintro e w1 ⟨hj, hb1⟩
  obtain ⟨j, rfl, hj2⟩ : ∃ j : Int, e = .returned (.int .i64 j) ∧ j ≤ 1048576 := by
    rcases hj with ⟨_, rfl⟩ | ⟨_, rfl⟩
    · exact ⟨_, rfl, by omega⟩
    · exact ⟨_, rfl, by omega⟩
  have hH1 := HH0.out.keep hb1
  clear hb1 HH0 hj
  obtain ⟨g0, g1, g2, g3, g4, g5, g6, _⟩ := id hH1
  have HH1 := hidOf hH1
  clear hH1
  by_cases hj0 : j < 0
  · go_wp2
    go_ret
    exact ⟨rfl, HH1.out.bel⟩
  go_wp2_with fail
  refine (szChange_any kind k' n' j s' _ hs' (by omega) hj2).mono ?_
  rintro e w2 ⟨⟨i, rfl⟩, hb2⟩
  have hH2 := HH1.out.keep hb2
  clear hb2 HH1 g0 g1 g2 g3 g4 g5 g6 hj0 hj2
  by_cases hi0 : i < 0
  · go_wp2
    go_ret
    exact ⟨rfl, hH2.bel⟩
  go_upto_region 8 with fail
  go_cut [6, 7] from 10 (fun v6 v7 wx => ∃ R : Nat, v6 = .pointer (some ⟨R, 0, none⟩) ∧ v7 = .bool rb ∧ LawCh w k n s kind k' n' s' w.heap.size (.int .i64 k) (.int .i64 n) (.string s) wx ∧ Box3 R (.int .i64 rk) (.int .i64 rn) (.string rs) wx)
  case first =>
    go_wp2_with fail
    refine wp_region_noPanic ?_
    refine wp_region_held_drew (S := fun w' => LawCh w k n s kind k' n' s' w.heap.size (.int .i64 k) (.int .i64 n) (.string s) w') (by kernel_rfl) hH2.drew (fun hHeld => ?_)
    refine wpAnyH_take (i := 0) (v := ?_) rfl (by kernel_rfl) (by kernel_rfl) (by kernel_rfl) (fun _ _ _ h => h) (Or.inl ⟨by rfl, ?_⟩) (by assumption) ?_
    case refine_2 => (intro w hSw; (try dsimp only at hSw); go_simp; try with_reducible rfl)
    simp only [Act.put, List.getElem_toArray, List.getElem_cons_zero, List.setIfInBounds_toArray, List.set_cons_zero, List.set_cons_succ]
    refine wpAnyH_take (i := 2) (v := ?_) rfl (by kernel_rfl) (by kernel_rfl) (by kernel_rfl) (fun _ _ _ h => h) (Or.inl ⟨by rfl, ?_⟩) (by assumption) ?_
    case refine_2 => (intro w hSw; (try dsimp only at hSw); go_simp; try with_reducible rfl)
    simp only [Act.put, List.getElem_toArray, List.getElem_cons_zero, List.getElem_cons_succ, List.setIfInBounds_toArray, List.set_cons_zero, List.set_cons_succ]
    refine wpAnyH_ready (rs := [1, 8]) (by kernel_rfl) (by simp) ?_
    refine AllReadyH.cons rfl (fun K hK => ?_) (AllReadyH.cons rfl (fun K hK => ?_) AllReadyH.nil)
    · go_simp
      refine (toMsg_any k n s _).mono ?_
      rintro e w1 ⟨rfl, hb1⟩
      go_wp2_with fail
      have hS1 := LawCh.keep hHeld hb1
      refine hK.out _ _ hS1 (fun hHeld => ?_)
      clear hK K
      refine wpAnyH_ready (rs := [3, 8]) (by kernel_rfl) (by simp) ?_
      refine AllReadyH.cons rfl (fun K hK => ?_) (AllReadyH.cons rfl (fun K hK => ?_) AllReadyH.nil)
      · go_simp
        refine (toChange_any kind k' n' s' _).mono ?_
        rintro e w2 ⟨rfl, hb2⟩
        go_wp2_with fail
        have hS2 := LawCh.keep hHeld hb2
        refine hK.out _ _ hS2 (fun hHeld => ?_)
        clear hK K
        refine wpAnyH_ready (rs := [4, 8]) (by kernel_rfl) (by simp) ?_
        refine AllReadyH.cons rfl (fun K hK => ?_) (AllReadyH.cons rfl (fun K hK => ?_) AllReadyH.nil)
        · go_simp
          refine (HS.out _).mono ?_
          rintro e w3 ⟨rfl, hb3⟩
          go_wp2_with fail
          have hS3 := LawCh.keep hHeld hb3
          refine hK.out _ _ hS3 (fun hHeld => ?_)
          clear hK K
          refine wpAnyH_take (i := 5) (v := ?_) rfl (by kernel_rfl) (by kernel_rfl) (by kernel_rfl) (fun _ _ _ h => h) (Or.inl ⟨by rfl, ?_⟩) (by assumption) ?_
          case refine_2 => (intro w hSw; (try dsimp only at hSw); go_simp; try with_reducible rfl)
          simp only [Act.put, List.getElem_toArray, List.getElem_cons_zero, List.getElem_cons_succ, List.setIfInBounds_toArray, List.set_cons_zero, List.set_cons_succ]
          refine wpAnyH_take (i := 6) (v := ?_) rfl (by kernel_rfl) (by kernel_rfl) (by kernel_rfl) (fun _ _ _ h => h) (Or.inl ⟨by rfl, ?_⟩) (by assumption) ?_
          case refine_2 => (intro w hSw; (try dsimp only at hSw); go_simp; try with_reducible rfl)
          simp only [Act.put, List.getElem_toArray, List.getElem_cons_zero, List.getElem_cons_succ, List.setIfInBounds_toArray, List.set_cons_zero, List.set_cons_succ]
          refine wpAnyH_take (i := 7) (v := ?_) rfl (by kernel_rfl) (by kernel_rfl) (by kernel_rfl) (fun _ _ _ h => h) (Or.inl ⟨by rfl, ?_⟩) (by assumption) ?_
          case refine_2 => (intro w hSw; (try dsimp only at hSw); go_simp; try with_reducible rfl)
          simp only [Act.put, List.getElem_toArray, List.getElem_cons_zero, List.getElem_cons_succ, List.setIfInBounds_toArray, List.set_cons_zero, List.set_cons_succ]
          refine wpAnyH_ready (rs := [8]) (by kernel_rfl) (by simp) ?_
          refine AllReadyH.cons rfl (fun K hK => ?_) AllReadyH.nil
          go_simp
          refine hK.out _ _ (LawCh.keep hS3 (bl_alloc (Below.refl _ _) _)) (fun hHeld => ?_)
          clear hK K
          refine wpAnyH_ready (rs := [9]) (by kernel_rfl) (by simp) ?_
          refine AllReadyH.cons rfl (fun K hK => ?_) AllReadyH.nil
          go_simp
          refine hK.out _ _ (LawCh.keep hS3 (bl_alloc (Below.refl _ _) _)) (fun hHeld => ?_)
          clear hK K
          refine wpAnyH_take (i := 10) (v := ?_) rfl (by kernel_rfl) (by kernel_rfl) (by kernel_rfl) (fun _ _ _ h => h) (Or.inl ⟨by rfl, ?_⟩) (by assumption) ?_
          case refine_2 => (intro w hSw; (try dsimp only at hSw); go_simp; try with_reducible rfl)
          simp only [Act.put, List.getElem_toArray, List.getElem_cons_zero, List.getElem_cons_succ, List.setIfInBounds_toArray, List.set_cons_zero, List.set_cons_succ]
          refine wpAnyH_done (by kernel_rfl) ?_ _
          refine NoPanic.normal ?_
          go_wp2_with fail
          go_meet
          exact ⟨_, rfl, rfl, LawCh.keep hS3 (bl_alloc (Below.refl _ _) _), Box3.new _ (.int .i64 rk) (.int .i64 rn) (.string rs) _⟩
        · go_simp
          have lt1 := hS2.b1.lt
          have lt2 := hS2.b2.lt
          have lt3 := hS2.b3.lt
          have Z2 := Box3.new w2 (.int .i64 0) (.int .i64 0) (.string ⟨#[]⟩) 29
          refine hK.out _ _ (LawCh.keep hS2 (bl_alloc (Below.refl _ _) _)) (fun hHeld => ?_)
          clear hK K
          refine wpAnyH_ready (rs := [4]) (by kernel_rfl) (by simp) ?_
          refine AllReadyH.cons rfl (fun K hK => ?_) AllReadyH.nil
          go_simp
          refine (HS.out _).mono ?_
          rintro e w3 ⟨rfl, hb3⟩
          go_wp2_with fail
          have hS3 := LawCh.keep hHeld hb3
          have Z3 := Z2.keep hb3
          refine hK.out _ _ hS3 (fun hHeld => ?_)
          clear hK K
          refine wpAnyH_take (i := 5) (v := ?_) rfl (by kernel_rfl) (by kernel_rfl) (by kernel_rfl) (fun _ _ _ h => h) (Or.inl ⟨by rfl, ?_⟩) (by assumption) ?_
          case refine_2 => (intro w hSw; (try dsimp only at hSw); go_simp; try with_reducible rfl)
          simp only [Act.put, List.getElem_toArray, List.getElem_cons_zero, List.getElem_cons_succ, List.setIfInBounds_toArray, List.set_cons_zero, List.set_cons_succ]
          refine wpAnyH_take (i := 6) (v := ?_) rfl (by kernel_rfl) (by kernel_rfl) (by kernel_rfl) (fun _ _ _ h => h) (Or.inl ⟨by rfl, ?_⟩) (by assumption) ?_
          case refine_2 => (intro w hSw; (try dsimp only at hSw); go_simp; try with_reducible rfl)
          simp only [Act.put, List.getElem_toArray, List.getElem_cons_zero, List.getElem_cons_succ, List.setIfInBounds_toArray, List.set_cons_zero, List.set_cons_succ]
          refine wpAnyH_take (i := 7) (v := ?_) rfl (by kernel_rfl) (by kernel_rfl) (by kernel_rfl) (fun _ _ _ h => h) (Or.inl ⟨by rfl, ?_⟩) (by assumption) ?_
          case refine_2 => (intro w hSw; (try dsimp only at hSw); go_simp; try with_reducible rfl)
          simp only [Act.put, List.getElem_toArray, List.getElem_cons_zero, List.getElem_cons_succ, List.setIfInBounds_toArray, List.set_cons_zero, List.set_cons_succ]
          obtain ⟨kl, k0, k1, k2, kf⟩ := id Z3
          refine wpAnyH_ready (rs := [9]) (by kernel_rfl) (by simp) ?_
          refine AllReadyH.cons rfl (fun K hK => ?_) AllReadyH.nil
          go_simp
          refine hK.out _ _ (LawCh.st3 hS3 (by omega) (by omega) _ _ _) (fun hHeld => ?_)
          clear hK K
          refine wpAnyH_take (i := 10) (v := ?_) rfl (by kernel_rfl) (by kernel_rfl) (by kernel_rfl) (fun _ _ _ h => h) (Or.inl ⟨by rfl, ?_⟩) (by assumption) ?_
          case refine_2 => (intro w hSw; (try dsimp only at hSw); go_simp; try with_reducible rfl)
          simp only [Act.put, List.getElem_toArray, List.getElem_cons_zero, List.getElem_cons_succ, List.setIfInBounds_toArray, List.set_cons_zero, List.set_cons_succ]
          refine wpAnyH_done (by kernel_rfl) ?_ _
          refine NoPanic.normal ?_
          go_wp2_with fail
          go_meet
          exact ⟨_, rfl, rfl, LawCh.st3 hS3 (by omega) (by omega) _ _ _, Z3.all (.int .i64 rk) (.int .i64 rn) (.string rs)⟩
      · go_simp
        have lt1 := hS1.b1.lt
        have lt2 := hS1.b2.lt
        have lt3 := hS1.b3.lt
        have Z1 := Box3.new w1 (.int .i64 0) (.int .i64 0) (.string ⟨#[]⟩) 29
        refine hK.out _ _ (LawCh.keep hS1 (bl_alloc (Below.refl _ _) _)) (fun hHeld => ?_)
        clear hK K
        refine wpAnyH_ready (rs := [3]) (by kernel_rfl) (by simp) ?_
        refine AllReadyH.cons rfl (fun K hK => ?_) AllReadyH.nil
        go_simp
        refine (toChange_any kind k' n' s' _).mono ?_
        rintro e w2 ⟨rfl, hb2⟩
        go_wp2_with fail
        have hS2 := LawCh.keep hHeld hb2
        have Z2 := Z1.keep hb2
        refine hK.out _ _ hS2 (fun hHeld => ?_)
        clear hK K
        refine wpAnyH_ready (rs := [4]) (by kernel_rfl) (by simp) ?_
        refine AllReadyH.cons rfl (fun K hK => ?_) AllReadyH.nil
        go_simp
        refine (HS.out _).mono ?_
        rintro e w3 ⟨rfl, hb3⟩
        go_wp2_with fail
        have hS3 := LawCh.keep hHeld hb3
        have Z3 := Z2.keep hb3
        refine hK.out _ _ hS3 (fun hHeld => ?_)
        clear hK K
        refine wpAnyH_take (i := 5) (v := ?_) rfl (by kernel_rfl) (by kernel_rfl) (by kernel_rfl) (fun _ _ _ h => h) (Or.inl ⟨by rfl, ?_⟩) (by assumption) ?_
        case refine_2 => (intro w hSw; (try dsimp only at hSw); go_simp; try with_reducible rfl)
        simp only [Act.put, List.getElem_toArray, List.getElem_cons_zero, List.getElem_cons_succ, List.setIfInBounds_toArray, List.set_cons_zero, List.set_cons_succ]
        refine wpAnyH_take (i := 6) (v := ?_) rfl (by kernel_rfl) (by kernel_rfl) (by kernel_rfl) (fun _ _ _ h => h) (Or.inl ⟨by rfl, ?_⟩) (by assumption) ?_
        case refine_2 => (intro w hSw; (try dsimp only at hSw); go_simp; try with_reducible rfl)
        simp only [Act.put, List.getElem_toArray, List.getElem_cons_zero, List.getElem_cons_succ, List.setIfInBounds_toArray, List.set_cons_zero, List.set_cons_succ]
        refine wpAnyH_take (i := 7) (v := ?_) rfl (by kernel_rfl) (by kernel_rfl) (by kernel_rfl) (fun _ _ _ h => h) (Or.inl ⟨by rfl, ?_⟩) (by assumption) ?_
        case refine_2 => (intro w hSw; (try dsimp only at hSw); go_simp; try with_reducible rfl)
        simp only [Act.put, List.getElem_toArray, List.getElem_cons_zero, List.getElem_cons_succ, List.setIfInBounds_toArray, List.set_cons_zero, List.set_cons_succ]
        obtain ⟨kl, k0, k1, k2, kf⟩ := id Z3
        refine wpAnyH_ready (rs := [9]) (by kernel_rfl) (by simp) ?_
        refine AllReadyH.cons rfl (fun K hK => ?_) AllReadyH.nil
        go_simp
        refine hK.out _ _ (LawCh.st3 hS3 (by omega) (by omega) _ _ _) (fun hHeld => ?_)
        clear hK K
        refine wpAnyH_take (i := 10) (v := ?_) rfl (by kernel_rfl) (by kernel_rfl) (by kernel_rfl) (fun _ _ _ h => h) (Or.inl ⟨by rfl, ?_⟩) (by assumption) ?_
        case refine_2 => (intro w hSw; (try dsimp only at hSw); go_simp; try with_reducible rfl)
        simp only [Act.put, List.getElem_toArray, List.getElem_cons_zero, List.getElem_cons_succ, List.setIfInBounds_toArray, List.set_cons_zero, List.set_cons_succ]
        refine wpAnyH_done (by kernel_rfl) ?_ _
        refine NoPanic.normal ?_
        go_wp2_with fail
        go_meet
        exact ⟨_, rfl, rfl, LawCh.st3 hS3 (by omega) (by omega) _ _ _, Z3.all (.int .i64 rk) (.int .i64 rn) (.string rs)⟩
    · go_simp
      have lt1 := hH2.b1.lt
      have lt2 := hH2.b2.lt
      have lt3 := hH2.b3.lt
      have Z0 := (Box3.new w2 (.int .i64 0) (.int .i64 0) (.string ⟨#[]⟩) 29).keep (Below.refl _ _).drew
      refine hK.out _ _ ((LawCh.keep hH2 (bl_alloc (Below.refl _ _) _)).drew) (fun hHeld => ?_)
      clear hK K
      refine wpAnyH_ready (rs := [1]) (by kernel_rfl) (by simp) ?_
      refine AllReadyH.cons rfl (fun K hK => ?_) AllReadyH.nil
      go_simp
      refine (toMsg_any k n s _).mono ?_
      rintro e w1 ⟨rfl, hb1⟩
      go_wp2_with fail
      have hS1 := LawCh.keep hHeld hb1
      have Z1 := Z0.keep hb1
      refine hK.out _ _ hS1 (fun hHeld => ?_)
      clear hK K
      refine wpAnyH_ready (rs := [3]) (by kernel_rfl) (by simp) ?_
      refine AllReadyH.cons rfl (fun K hK => ?_) AllReadyH.nil
      go_simp
      refine (toChange_any kind k' n' s' _).mono ?_
      rintro e w2 ⟨rfl, hb2⟩
      go_wp2_with fail
      have hS2 := LawCh.keep hHeld hb2
      have Z2 := Z1.keep hb2
      refine hK.out _ _ hS2 (fun hHeld => ?_)
      clear hK K
      refine wpAnyH_ready (rs := [4]) (by kernel_rfl) (by simp) ?_
      refine AllReadyH.cons rfl (fun K hK => ?_) AllReadyH.nil
      go_simp
      refine (HS.out _).mono ?_
      rintro e w3 ⟨rfl, hb3⟩
      go_wp2_with fail
      have hS3 := LawCh.keep hHeld hb3
      have Z3 := Z2.keep hb3
      refine hK.out _ _ hS3 (fun hHeld => ?_)
      clear hK K
      refine wpAnyH_take (i := 5) (v := ?_) rfl (by kernel_rfl) (by kernel_rfl) (by kernel_rfl) (fun _ _ _ h => h) (Or.inl ⟨by rfl, ?_⟩) (by assumption) ?_
      case refine_2 => (intro w hSw; (try dsimp only at hSw); go_simp; try with_reducible rfl)
      simp only [Act.put, List.getElem_toArray, List.getElem_cons_zero, List.getElem_cons_succ, List.setIfInBounds_toArray, List.set_cons_zero, List.set_cons_succ]
      refine wpAnyH_take (i := 6) (v := ?_) rfl (by kernel_rfl) (by kernel_rfl) (by kernel_rfl) (fun _ _ _ h => h) (Or.inl ⟨by rfl, ?_⟩) (by assumption) ?_
      case refine_2 => (intro w hSw; (try dsimp only at hSw); go_simp; try with_reducible rfl)
      simp only [Act.put, List.getElem_toArray, List.getElem_cons_zero, List.getElem_cons_succ, List.setIfInBounds_toArray, List.set_cons_zero, List.set_cons_succ]
      refine wpAnyH_take (i := 7) (v := ?_) rfl (by kernel_rfl) (by kernel_rfl) (by kernel_rfl) (fun _ _ _ h => h) (Or.inl ⟨by rfl, ?_⟩) (by assumption) ?_
      case refine_2 => (intro w hSw; (try dsimp only at hSw); go_simp; try with_reducible rfl)
      simp only [Act.put, List.getElem_toArray, List.getElem_cons_zero, List.getElem_cons_succ, List.setIfInBounds_toArray, List.set_cons_zero, List.set_cons_succ]
      obtain ⟨kl, k0, k1, k2, kf⟩ := id Z3
      refine wpAnyH_ready (rs := [9]) (by kernel_rfl) (by simp) ?_
      refine AllReadyH.cons rfl (fun K hK => ?_) AllReadyH.nil
      go_simp
      refine hK.out _ _ (LawCh.st3 hS3 (by omega) (by omega) _ _ _) (fun hHeld => ?_)
      clear hK K
      refine wpAnyH_take (i := 10) (v := ?_) rfl (by kernel_rfl) (by kernel_rfl) (by kernel_rfl) (fun _ _ _ h => h) (Or.inl ⟨by rfl, ?_⟩) (by assumption) ?_
      case refine_2 => (intro w hSw; (try dsimp only at hSw); go_simp; try with_reducible rfl)
      simp only [Act.put, List.getElem_toArray, List.getElem_cons_zero, List.getElem_cons_succ, List.setIfInBounds_toArray, List.set_cons_zero, List.set_cons_succ]
      refine wpAnyH_done (by kernel_rfl) ?_ _
      refine NoPanic.normal ?_
      go_wp2_with fail
      go_meet
      exact ⟨_, rfl, rfl, LawCh.st3 hS3 (by omega) (by omega) _ _ _, Z3.all (.int .i64 rk) (.int .i64 rn) (.string rs)⟩
  case rest =>
    obtain ⟨R, rfl, rfl, hH, hR⟩ := hcut
    have hH3 : LawCh w k n s kind k' n' s' R (.int .i64 rk) (.int .i64 rn) (.string rs) wc := LawCh.mk' hH.b1 hH.b2 hR hH.bel
    clear hH hR hH2
    go_upto_region 9 with fail
    go_cut [8, 9] from 10 (fun v8 v9 wx => ∃ Q : Nat, v8 = .pointer (some ⟨Q, 0, none⟩) ∧ v9 = .bool rb ∧ LawCh w k n s kind k' n' s' R (.int .i64 rk) (.int .i64 rn) (.string rs) wx ∧ Box3 Q (.int .i64 rk) (.int .i64 rn) (.string rs) wx)
    case first =>
      go_wp2_with fail
      refine wp_region_noPanic ?_
      refine wp_region_held_drew (S := fun w' => LawCh w k n s kind k' n' s' R (.int .i64 rk) (.int .i64 rn) (.string rs) w') (by kernel_rfl) hH3.drew (fun hHeld => ?_)
      refine wpAnyH_take (i := 0) (v := ?_) rfl (by kernel_rfl) (by kernel_rfl) (by kernel_rfl) (fun _ _ _ h => h) (Or.inl ⟨by rfl, ?_⟩) (by assumption) ?_
      case refine_2 => (intro w hSw; (try dsimp only at hSw); go_simp; try with_reducible rfl)
      simp only [Act.put, List.getElem_toArray, List.getElem_cons_zero, List.setIfInBounds_toArray, List.set_cons_zero, List.set_cons_succ]
      refine wpAnyH_take (i := 2) (v := ?_) rfl (by kernel_rfl) (by kernel_rfl) (by kernel_rfl) (fun _ _ _ h => h) (Or.inl ⟨by rfl, ?_⟩) (by assumption) ?_
      case refine_2 => (intro w hSw; (try dsimp only at hSw); go_simp; try with_reducible rfl)
      simp only [Act.put, List.getElem_toArray, List.getElem_cons_zero, List.getElem_cons_succ, List.setIfInBounds_toArray, List.set_cons_zero, List.set_cons_succ]
      refine wpAnyH_ready (rs := [1, 8]) (by kernel_rfl) (by simp) ?_
      refine AllReadyH.cons rfl (fun K hK => ?_) (AllReadyH.cons rfl (fun K hK => ?_) AllReadyH.nil)
      · go_simp
        refine (toMsg_any k n s _).mono ?_
        rintro e w1 ⟨rfl, hb1⟩
        go_wp2_with fail
        have hS1 := LawCh.keep hHeld hb1
        refine hK.out _ _ hS1 (fun hHeld => ?_)
        clear hK K
        refine wpAnyH_ready (rs := [3, 8]) (by kernel_rfl) (by simp) ?_
        refine AllReadyH.cons rfl (fun K hK => ?_) (AllReadyH.cons rfl (fun K hK => ?_) AllReadyH.nil)
        · go_simp
          refine (toChange_any kind k' n' s' _).mono ?_
          rintro e w2 ⟨rfl, hb2⟩
          go_wp2_with fail
          have hS2 := LawCh.keep hHeld hb2
          refine hK.out _ _ hS2 (fun hHeld => ?_)
          clear hK K
          refine wpAnyH_ready (rs := [4, 8]) (by kernel_rfl) (by simp) ?_
          refine AllReadyH.cons rfl (fun K hK => ?_) (AllReadyH.cons rfl (fun K hK => ?_) AllReadyH.nil)
          · go_simp
            refine (HI.out _).mono ?_
            rintro e w3 ⟨rfl, hb3⟩
            go_wp2_with fail
            have hS3 := LawCh.keep hHeld hb3
            refine hK.out _ _ hS3 (fun hHeld => ?_)
            clear hK K
            refine wpAnyH_take (i := 5) (v := ?_) rfl (by kernel_rfl) (by kernel_rfl) (by kernel_rfl) (fun _ _ _ h => h) (Or.inl ⟨by rfl, ?_⟩) (by assumption) ?_
            case refine_2 => (intro w hSw; (try dsimp only at hSw); go_simp; try with_reducible rfl)
            simp only [Act.put, List.getElem_toArray, List.getElem_cons_zero, List.getElem_cons_succ, List.setIfInBounds_toArray, List.set_cons_zero, List.set_cons_succ]
            refine wpAnyH_take (i := 6) (v := ?_) rfl (by kernel_rfl) (by kernel_rfl) (by kernel_rfl) (fun _ _ _ h => h) (Or.inl ⟨by rfl, ?_⟩) (by assumption) ?_
            case refine_2 => (intro w hSw; (try dsimp only at hSw); go_simp; try with_reducible rfl)
            simp only [Act.put, List.getElem_toArray, List.getElem_cons_zero, List.getElem_cons_succ, List.setIfInBounds_toArray, List.set_cons_zero, List.set_cons_succ]
            refine wpAnyH_take (i := 7) (v := ?_) rfl (by kernel_rfl) (by kernel_rfl) (by kernel_rfl) (fun _ _ _ h => h) (Or.inl ⟨by rfl, ?_⟩) (by assumption) ?_
            case refine_2 => (intro w hSw; (try dsimp only at hSw); go_simp; try with_reducible rfl)
            simp only [Act.put, List.getElem_toArray, List.getElem_cons_zero, List.getElem_cons_succ, List.setIfInBounds_toArray, List.set_cons_zero, List.set_cons_succ]
            refine wpAnyH_ready (rs := [8]) (by kernel_rfl) (by simp) ?_
            refine AllReadyH.cons rfl (fun K hK => ?_) AllReadyH.nil
            go_simp
            refine hK.out _ _ (LawCh.keep hS3 (bl_alloc (Below.refl _ _) _)) (fun hHeld => ?_)
            clear hK K
            refine wpAnyH_ready (rs := [9]) (by kernel_rfl) (by simp) ?_
            refine AllReadyH.cons rfl (fun K hK => ?_) AllReadyH.nil
            go_simp
            refine hK.out _ _ (LawCh.keep hS3 (bl_alloc (Below.refl _ _) _)) (fun hHeld => ?_)
            clear hK K
            refine wpAnyH_take (i := 10) (v := ?_) rfl (by kernel_rfl) (by kernel_rfl) (by kernel_rfl) (fun _ _ _ h => h) (Or.inl ⟨by rfl, ?_⟩) (by assumption) ?_
            case refine_2 => (intro w hSw; (try dsimp only at hSw); go_simp; try with_reducible rfl)
            simp only [Act.put, List.getElem_toArray, List.getElem_cons_zero, List.getElem_cons_succ, List.setIfInBounds_toArray, List.set_cons_zero, List.set_cons_succ]
            refine wpAnyH_done (by kernel_rfl) ?_ _
            refine NoPanic.normal ?_
            go_wp2_with fail
            go_meet
            exact ⟨_, rfl, rfl, LawCh.keep hS3 (bl_alloc (Below.refl _ _) _), Box3.new _ (.int .i64 rk) (.int .i64 rn) (.string rs) _⟩
          · go_simp
            have lt1 := hS2.b1.lt
            have lt2 := hS2.b2.lt
            have lt3 := hS2.b3.lt
            have Z2 := Box3.new w2 (.int .i64 0) (.int .i64 0) (.string ⟨#[]⟩) 29
            refine hK.out _ _ (LawCh.keep hS2 (bl_alloc (Below.refl _ _) _)) (fun hHeld => ?_)
            clear hK K
            refine wpAnyH_ready (rs := [4]) (by kernel_rfl) (by simp) ?_
            refine AllReadyH.cons rfl (fun K hK => ?_) AllReadyH.nil
            go_simp
            refine (HI.out _).mono ?_
            rintro e w3 ⟨rfl, hb3⟩
            go_wp2_with fail
            have hS3 := LawCh.keep hHeld hb3
            have Z3 := Z2.keep hb3
            refine hK.out _ _ hS3 (fun hHeld => ?_)
            clear hK K
            refine wpAnyH_take (i := 5) (v := ?_) rfl (by kernel_rfl) (by kernel_rfl) (by kernel_rfl) (fun _ _ _ h => h) (Or.inl ⟨by rfl, ?_⟩) (by assumption) ?_
            case refine_2 => (intro w hSw; (try dsimp only at hSw); go_simp; try with_reducible rfl)
            simp only [Act.put, List.getElem_toArray, List.getElem_cons_zero, List.getElem_cons_succ, List.setIfInBounds_toArray, List.set_cons_zero, List.set_cons_succ]
            refine wpAnyH_take (i := 6) (v := ?_) rfl (by kernel_rfl) (by kernel_rfl) (by kernel_rfl) (fun _ _ _ h => h) (Or.inl ⟨by rfl, ?_⟩) (by assumption) ?_
            case refine_2 => (intro w hSw; (try dsimp only at hSw); go_simp; try with_reducible rfl)
            simp only [Act.put, List.getElem_toArray, List.getElem_cons_zero, List.getElem_cons_succ, List.setIfInBounds_toArray, List.set_cons_zero, List.set_cons_succ]
            refine wpAnyH_take (i := 7) (v := ?_) rfl (by kernel_rfl) (by kernel_rfl) (by kernel_rfl) (fun _ _ _ h => h) (Or.inl ⟨by rfl, ?_⟩) (by assumption) ?_
            case refine_2 => (intro w hSw; (try dsimp only at hSw); go_simp; try with_reducible rfl)
            simp only [Act.put, List.getElem_toArray, List.getElem_cons_zero, List.getElem_cons_succ, List.setIfInBounds_toArray, List.set_cons_zero, List.set_cons_succ]
            obtain ⟨kl, k0, k1, k2, kf⟩ := id Z3
            refine wpAnyH_ready (rs := [9]) (by kernel_rfl) (by simp) ?_
            refine AllReadyH.cons rfl (fun K hK => ?_) AllReadyH.nil
            go_simp
            refine hK.out _ _ (LawCh.st3 hS3 (by omega) (by omega) _ _ _) (fun hHeld => ?_)
            clear hK K
            refine wpAnyH_take (i := 10) (v := ?_) rfl (by kernel_rfl) (by kernel_rfl) (by kernel_rfl) (fun _ _ _ h => h) (Or.inl ⟨by rfl, ?_⟩) (by assumption) ?_
            case refine_2 => (intro w hSw; (try dsimp only at hSw); go_simp; try with_reducible rfl)
            simp only [Act.put, List.getElem_toArray, List.getElem_cons_zero, List.getElem_cons_succ, List.setIfInBounds_toArray, List.set_cons_zero, List.set_cons_succ]
            refine wpAnyH_done (by kernel_rfl) ?_ _
            refine NoPanic.normal ?_
            go_wp2_with fail
            go_meet
            exact ⟨_, rfl, rfl, LawCh.st3 hS3 (by omega) (by omega) _ _ _, Z3.all (.int .i64 rk) (.int .i64 rn) (.string rs)⟩
        · go_simp
          have lt1 := hS1.b1.lt
          have lt2 := hS1.b2.lt
          have lt3 := hS1.b3.lt
          have Z1 := Box3.new w1 (.int .i64 0) (.int .i64 0) (.string ⟨#[]⟩) 29
          refine hK.out _ _ (LawCh.keep hS1 (bl_alloc (Below.refl _ _) _)) (fun hHeld => ?_)
          clear hK K
          refine wpAnyH_ready (rs := [3]) (by kernel_rfl) (by simp) ?_
          refine AllReadyH.cons rfl (fun K hK => ?_) AllReadyH.nil
          go_simp
          refine (toChange_any kind k' n' s' _).mono ?_
          rintro e w2 ⟨rfl, hb2⟩
          go_wp2_with fail
          have hS2 := LawCh.keep hHeld hb2
          have Z2 := Z1.keep hb2
          refine hK.out _ _ hS2 (fun hHeld => ?_)
          clear hK K
          refine wpAnyH_ready (rs := [4]) (by kernel_rfl) (by simp) ?_
          refine AllReadyH.cons rfl (fun K hK => ?_) AllReadyH.nil
          go_simp
          refine (HI.out _).mono ?_
          rintro e w3 ⟨rfl, hb3⟩
          go_wp2_with fail
          have hS3 := LawCh.keep hHeld hb3
          have Z3 := Z2.keep hb3
          refine hK.out _ _ hS3 (fun hHeld => ?_)
          clear hK K
          refine wpAnyH_take (i := 5) (v := ?_) rfl (by kernel_rfl) (by kernel_rfl) (by kernel_rfl) (fun _ _ _ h => h) (Or.inl ⟨by rfl, ?_⟩) (by assumption) ?_
          case refine_2 => (intro w hSw; (try dsimp only at hSw); go_simp; try with_reducible rfl)
          simp only [Act.put, List.getElem_toArray, List.getElem_cons_zero, List.getElem_cons_succ, List.setIfInBounds_toArray, List.set_cons_zero, List.set_cons_succ]
          refine wpAnyH_take (i := 6) (v := ?_) rfl (by kernel_rfl) (by kernel_rfl) (by kernel_rfl) (fun _ _ _ h => h) (Or.inl ⟨by rfl, ?_⟩) (by assumption) ?_
          case refine_2 => (intro w hSw; (try dsimp only at hSw); go_simp; try with_reducible rfl)
          simp only [Act.put, List.getElem_toArray, List.getElem_cons_zero, List.getElem_cons_succ, List.setIfInBounds_toArray, List.set_cons_zero, List.set_cons_succ]
          refine wpAnyH_take (i := 7) (v := ?_) rfl (by kernel_rfl) (by kernel_rfl) (by kernel_rfl) (fun _ _ _ h => h) (Or.inl ⟨by rfl, ?_⟩) (by assumption) ?_
          case refine_2 => (intro w hSw; (try dsimp only at hSw); go_simp; try with_reducible rfl)
          simp only [Act.put, List.getElem_toArray, List.getElem_cons_zero, List.getElem_cons_succ, List.setIfInBounds_toArray, List.set_cons_zero, List.set_cons_succ]
          obtain ⟨kl, k0, k1, k2, kf⟩ := id Z3
          refine wpAnyH_ready (rs := [9]) (by kernel_rfl) (by simp) ?_
          refine AllReadyH.cons rfl (fun K hK => ?_) AllReadyH.nil
          go_simp
          refine hK.out _ _ (LawCh.st3 hS3 (by omega) (by omega) _ _ _) (fun hHeld => ?_)
          clear hK K
          refine wpAnyH_take (i := 10) (v := ?_) rfl (by kernel_rfl) (by kernel_rfl) (by kernel_rfl) (fun _ _ _ h => h) (Or.inl ⟨by rfl, ?_⟩) (by assumption) ?_
          case refine_2 => (intro w hSw; (try dsimp only at hSw); go_simp; try with_reducible rfl)
          simp only [Act.put, List.getElem_toArray, List.getElem_cons_zero, List.getElem_cons_succ, List.setIfInBounds_toArray, List.set_cons_zero, List.set_cons_succ]
          refine wpAnyH_done (by kernel_rfl) ?_ _
          refine NoPanic.normal ?_
          go_wp2_with fail
          go_meet
          exact ⟨_, rfl, rfl, LawCh.st3 hS3 (by omega) (by omega) _ _ _, Z3.all (.int .i64 rk) (.int .i64 rn) (.string rs)⟩
      · go_simp
        have lt1 := hH3.b1.lt
        have lt2 := hH3.b2.lt
        have lt3 := hH3.b3.lt
        have Z0 := (Box3.new wc (.int .i64 0) (.int .i64 0) (.string ⟨#[]⟩) 29).keep (Below.refl _ _).drew
        refine hK.out _ _ ((LawCh.keep hH3 (bl_alloc (Below.refl _ _) _)).drew) (fun hHeld => ?_)
        clear hK K
        refine wpAnyH_ready (rs := [1]) (by kernel_rfl) (by simp) ?_
        refine AllReadyH.cons rfl (fun K hK => ?_) AllReadyH.nil
        go_simp
        refine (toMsg_any k n s _).mono ?_
        rintro e w1 ⟨rfl, hb1⟩
        go_wp2_with fail
        have hS1 := LawCh.keep hHeld hb1
        have Z1 := Z0.keep hb1
        refine hK.out _ _ hS1 (fun hHeld => ?_)
        clear hK K
        refine wpAnyH_ready (rs := [3]) (by kernel_rfl) (by simp) ?_
        refine AllReadyH.cons rfl (fun K hK => ?_) AllReadyH.nil
        go_simp
        refine (toChange_any kind k' n' s' _).mono ?_
        rintro e w2 ⟨rfl, hb2⟩
        go_wp2_with fail
        have hS2 := LawCh.keep hHeld hb2
        have Z2 := Z1.keep hb2
        refine hK.out _ _ hS2 (fun hHeld => ?_)
        clear hK K
        refine wpAnyH_ready (rs := [4]) (by kernel_rfl) (by simp) ?_
        refine AllReadyH.cons rfl (fun K hK => ?_) AllReadyH.nil
        go_simp
        refine (HI.out _).mono ?_
        rintro e w3 ⟨rfl, hb3⟩
        go_wp2_with fail
        have hS3 := LawCh.keep hHeld hb3
        have Z3 := Z2.keep hb3
        refine hK.out _ _ hS3 (fun hHeld => ?_)
        clear hK K
        refine wpAnyH_take (i := 5) (v := ?_) rfl (by kernel_rfl) (by kernel_rfl) (by kernel_rfl) (fun _ _ _ h => h) (Or.inl ⟨by rfl, ?_⟩) (by assumption) ?_
        case refine_2 => (intro w hSw; (try dsimp only at hSw); go_simp; try with_reducible rfl)
        simp only [Act.put, List.getElem_toArray, List.getElem_cons_zero, List.getElem_cons_succ, List.setIfInBounds_toArray, List.set_cons_zero, List.set_cons_succ]
        refine wpAnyH_take (i := 6) (v := ?_) rfl (by kernel_rfl) (by kernel_rfl) (by kernel_rfl) (fun _ _ _ h => h) (Or.inl ⟨by rfl, ?_⟩) (by assumption) ?_
        case refine_2 => (intro w hSw; (try dsimp only at hSw); go_simp; try with_reducible rfl)
        simp only [Act.put, List.getElem_toArray, List.getElem_cons_zero, List.getElem_cons_succ, List.setIfInBounds_toArray, List.set_cons_zero, List.set_cons_succ]
        refine wpAnyH_take (i := 7) (v := ?_) rfl (by kernel_rfl) (by kernel_rfl) (by kernel_rfl) (fun _ _ _ h => h) (Or.inl ⟨by rfl, ?_⟩) (by assumption) ?_
        case refine_2 => (intro w hSw; (try dsimp only at hSw); go_simp; try with_reducible rfl)
        simp only [Act.put, List.getElem_toArray, List.getElem_cons_zero, List.getElem_cons_succ, List.setIfInBounds_toArray, List.set_cons_zero, List.set_cons_succ]
        obtain ⟨kl, k0, k1, k2, kf⟩ := id Z3
        refine wpAnyH_ready (rs := [9]) (by kernel_rfl) (by simp) ?_
        refine AllReadyH.cons rfl (fun K hK => ?_) AllReadyH.nil
        go_simp
        refine hK.out _ _ (LawCh.st3 hS3 (by omega) (by omega) _ _ _) (fun hHeld => ?_)
        clear hK K
        refine wpAnyH_take (i := 10) (v := ?_) rfl (by kernel_rfl) (by kernel_rfl) (by kernel_rfl) (fun _ _ _ h => h) (Or.inl ⟨by rfl, ?_⟩) (by assumption) ?_
        case refine_2 => (intro w hSw; (try dsimp only at hSw); go_simp; try with_reducible rfl)
        simp only [Act.put, List.getElem_toArray, List.getElem_cons_zero, List.getElem_cons_succ, List.setIfInBounds_toArray, List.set_cons_zero, List.set_cons_succ]
        refine wpAnyH_done (by kernel_rfl) ?_ _
        refine NoPanic.normal ?_
        go_wp2_with fail
        go_meet
        exact ⟨_, rfl, rfl, LawCh.st3 hS3 (by omega) (by omega) _ _ _, Z3.all (.int .i64 rk) (.int .i64 rn) (.string rs)⟩
    case rest =>
      rename_i wd
      obtain ⟨Q, rfl, rfl, hH4, hQ⟩ := hcut
      obtain ⟨_, u0, u1, u2, _⟩ := id hQ
      obtain ⟨_, v0, v1, v2, _⟩ := id hH4.b3
      have HB := hidOf hH4.bel
      clear hQ hH4 hH3
      go_wp2_with fail
      refine (eqMsg_same rk rn rs _).mono ?_
      rintro e w6 ⟨rfl, hb6⟩
      have HB6 := hidOf (bl_trans HB.out hb6)
      clear HB hb6 u0 u1 u2 v0 v1 v2
      cases rb
      · go_wp2
        go_ret
        exact ⟨rfl, HB6.out⟩
      · go_wp2
        go_ret
        exact ⟨rfl, HB6.out⟩
end Go.Proofs.Ytejakmbpmnobiab
