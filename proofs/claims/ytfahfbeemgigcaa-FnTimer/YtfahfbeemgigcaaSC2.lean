/-
  Walks of the specification's clocks: a copy; a timer is set.
-/
import Derived.Test.YtfahfbeemgigcaaSC1
import Derived.Test.YtfahfbeemgigcaaSCa
namespace Go.Proofs.Ytfahfbeemgigcaa
open Go.RowKit Pl Il Th

set_option maxRecDepth 100000 in
set_option maxHeartbeats 2000000 in
theorem l4Copy_any (now : Int) (a : Option Addr) (n cap : Nat) (ts : List (Int × Int)) (w : World) (hI : TimAt w a n ts) (hn : n ≤ 2097152) :
    Calls Try.prog 39 #[.agg #[.int .i64 now, .slice a n cap]] w fun e w' => ∃ a' c', e = .returned (.agg #[.int .i64 now, .slice a' n c']) ∧ w'.ownsRow w.heap.size 36 2 (.slice a' n c') n (tflat ts) ∧ Below w.heap.size w w' := by
  generalize hW0 : w.alloc (.cells #[.int .i64 now, .slice a n cap] 26) = W0
  generalize hW1 : W0.alloc (.cells #[.int .i64 0, .slice none 0 0] 26) = W1
  have b0 : Below w.heap.size w W0 := by subst hW0; exact bl_alloc (Below.refl _ _) _
  have b1 : Below w.heap.size w W1 := by subst hW1; exact bl_alloc b0 _
  have s0 : W0.heap.size = w.heap.size + 1 := by subst hW0; simp
  have s1 : W1.heap.size = w.heap.size + 2 := by subst hW1; simp [s0]
  have x0 : Box2 w.heap.size (.int .i64 now) (.slice a n cap) W1 := by subst hW1 hW0; exact (Box2.new w _ _ _).alloc _
  have x1 : Box2 (w.heap.size + 1) (.int .i64 0) (.slice none 0 0) W1 := by subst hW1; rw [← s0]; exact Box2.new W0 _ _ _
  have ha : Below W1.heap.size W1 (W1.drew.alloc (.cells #[] 36)) := (Below.refl W1.heap.size W1).drew.alloc (Nat.le_refl _) _
  have hrow : (W1.drew.alloc (.cells #[] 36)).ownsRow W1.heap.size 36 2 (.slice (some ⟨W1.heap.size, 0, none⟩) 0 0) 0 (tflat []) := World.ownsRow_made W1.drew #[] 0 (Nat.le_refl _) (by unfold maxLen; omega) (by simp)
  obtain ⟨v3, w3, hr3, ho3, hg3⟩ := append_tims W1.heap.size _ 0 [] a n cap ts _ hrow ha.size ((hI.keep b1).keep ha) (by omega)
  rw [Nat.zero_add, List.nil_append] at ho3
  obtain ⟨a3, c3, rfl, _, _⟩ := ownT_of ho3 ts rfl
  have y0 := (x0.keep ha).grown hg3 (by simp only; omega)
  have y1 := (x1.keep ha).grown hg3 (by simp only; omega)
  have hb3 : Below w.heap.size w w3 := (b1.trans (ha.mono (by omega))).grown hg3 (by have := ha.size; have := b1.size; omega) (fun k hk => by cases hk; simp only; omega)
  have HO := hidOf (ownsRow_mono (own_farT (own_farT ho3 (w.heap.size + 1) 0 (by omega) (.int .i64 now)) (w.heap.size + 1) 1 (by omega) (.slice a3 n c3)) (B' := w.heap.size) (by omega))
  have HB := hidOf ((hb3.setCell (p := ⟨w.heap.size + 1, 0, none⟩) (by simp) (.int .i64 now)).setCell (p := ⟨w.heap.size + 1, 1, none⟩) (by simp) (.slice a3 n c3))
  have Hr := hidOf hr3
  obtain ⟨_, p0, p1, _⟩ := id x0
  obtain ⟨_, q0, q1, _⟩ := id y0
  obtain ⟨_, r0, r1, rf⟩ := id y1
  have d0 : ∀ o, (W1.alloc o).cell? ⟨w.heap.size, 0, none⟩ = some (.int .i64 now) := fun o => by rw [World.cell?_alloc_old _ _ _ (Nat.ne_of_lt x0.lt)]; exact p0
  have d1 : ∀ o, (W1.alloc o).cell? ⟨w.heap.size, 1, none⟩ = some (.slice a n cap) := fun o => by rw [World.cell?_alloc_old _ _ _ (Nat.ne_of_lt x0.lt)]; exact p1
  clear hI b0 b1 x0 x1 y0 y1 ha hrow hr3 ho3 hg3 hb3 s1
  go_enter Try.func39, Try.ntmps39
  go_wp2_with fail
  go_region_law (refine sstep_append_run (by rfl) _ _ 24 (by rfl) (.slice (some ⟨W1.heap.size, 0, none⟩) 0 0) (.slice a n cap) _ (by rfl) (by rfl) Hr.out ?_)
  all_goals go_wp2
  all_goals exact bodyPost_ret (v := .agg #[.int .i64 now, .slice a3 n c3]) (by simp [results, Try.results39, go_sem, r0, r1]) rfl ⟨_, _, rfl, HO.out, HB.out⟩
end Go.Proofs.Ytfahfbeemgigcaa
