/-
  A change in a variable of four cells; its size, and its copy.
-/
import Derived.Test.YtbhdjcggcgddfaaA4
import Derived.Test.YtbhdjcggcgddfaaSpC5
namespace Go.Proofs.Ytbhdjcggcgddfaa
open Go.RowKit Pl Il

structure Box4 (N : Nat) (v0 v1 v2 v3 : Value) (w : World) : Prop where
  lt : N < w.heap.size
  c0 : w.cell? ⟨N, 0, none⟩ = some v0
  c1 : w.cell? ⟨N, 1, none⟩ = some v1
  c2 : w.cell? ⟨N, 2, none⟩ = some v2
  c3 : w.cell? ⟨N, 3, none⟩ = some v3
  fr : ∀ o, w.frozen? ⟨N, o, none⟩ = false
section
variable {N : Nat} {v0 v1 v2 v3 : Value} {w u : World}
theorem Box4.new (w : World) (v0 v1 v2 v3 : Value) (t : TypeId) : Box4 w.heap.size v0 v1 v2 v3 (w.alloc (.cells #[v0, v1, v2, v3] t)) :=
  ⟨by simp, by simp, by simp, by simp, by simp, fun o => by simp [go_sem]⟩
theorem Box4.of_block (h : Box4 N v0 v1 v2 v3 w) (key : u.heap[N]? = w.heap[N]?) (hs : N < u.heap.size) : Box4 N v0 v1 v2 v3 u :=
  ⟨hs, by rw [← h.c0]; exact World.cell?_of_block key, by rw [← h.c1]; exact World.cell?_of_block key, by rw [← h.c2]; exact World.cell?_of_block key, by rw [← h.c3]; exact World.cell?_of_block key, fun k => by rw [← h.fr k]; exact World.frozen?_of_block key⟩
theorem Box4.keep (h : Box4 N v0 v1 v2 v3 w) (hb : Below w.heap.size w u) : Box4 N v0 v1 v2 v3 u := h.of_block (hb.block N h.lt) (Nat.lt_of_lt_of_le h.lt hb.size)
theorem Box4.alloc (h : Box4 N v0 v1 v2 v3 w) (o : Obj) : Box4 N v0 v1 v2 v3 (w.alloc o) := h.keep (bl_alloc (Below.refl _ _) o)
theorem Box4.far (h : Box4 N v0 v1 v2 v3 w) (M o : Nat) (hM : N ≠ M) (y : Value) : Box4 N v0 v1 v2 v3 (w.setCell ⟨M, o, none⟩ y) := h.of_block (Below.heap_setCell w ⟨M, o, none⟩ y N hM) (by simpa using h.lt)
theorem Box4.set0 (h : Box4 N v0 v1 v2 v3 w) (y : Value) : Box4 N y v1 v2 v3 (w.setCell ⟨N, 0, none⟩ y) :=
  ⟨by simpa using h.lt, World.cell?_setCell_same _ _ _ h.c0, by rw [World.cell?_setCell_other _ _ _ _ (by simp)]; exact h.c1, by rw [World.cell?_setCell_other _ _ _ _ (by simp)]; exact h.c2, by rw [World.cell?_setCell_other _ _ _ _ (by simp)]; exact h.c3, fun k => by simpa using h.fr k⟩
end
theorem szChange_any (kind k n l : Int) (s : ByteArray) (w : World) (hm : s.size ≤ maxLen) (h0 : 0 ≤ l) (h1 : l ≤ 1048576) :
    Calls Try.prog 71 #[.agg #[.int .i64 kind, .int .i64 k, .int .i64 n, .string s], .int .i64 l] w fun e w' => (∃ j : Int, e = .returned (.int .i64 j)) ∧ Below w.heap.size w w' := by
  have hb : Below w.heap.size w (w.alloc (.cells #[.int .i64 kind, .int .i64 k, .int .i64 n, .string s] 93)) := bl_alloc (Below.refl _ _) _
  go_enter Try.func71, Try.ntmps71
  go_wp2_with fail
  refine (szMsg_any k n l s _ hm h0 h1).mono ?_
  rintro e w0 ⟨hk, hb0⟩
  have hB := bl_trans hb hb0
  obtain ⟨j, rfl⟩ : ∃ j : Int, e = .returned (.int .i64 j) := by
    rcases hk with ⟨_, rfl⟩ | ⟨_, rfl⟩ <;> exact ⟨_, rfl⟩
  clear hk hb0 hb
  by_cases hj : j < 0
  · go_wp2
    go_ret
    exact ⟨⟨_, rfl⟩, hB⟩
  · go_wp2
    go_ret
    exact ⟨⟨_, rfl⟩, hB⟩
theorem toChange_any (kind k n : Int) (s : ByteArray) (w : World) :
    Calls Try.prog 74 #[.agg #[.int .i64 kind, .int .i64 k, .int .i64 n, .string s]] w fun e w' => e = .returned (.agg #[.int .i64 kind, .int .i64 k, .int .i64 n, .string s]) ∧ Below w.heap.size w w' := by
  generalize hW0 : w.alloc (.cells #[.int .i64 kind, .int .i64 k, .int .i64 n, .string s] 93) = W0
  generalize hW1 : W0.alloc (.cells #[.int .i64 0, .int .i64 0, .int .i64 0, .string ⟨#[]⟩] 62) = W1
  generalize hW2 : W1.alloc (.cells #[.int .i64 kind, .int .i64 0, .int .i64 0, .string ⟨#[]⟩] 62) = W2
  have b0 : Below w.heap.size w W0 := by subst hW0; exact bl_alloc (Below.refl _ _) _
  have b1 : Below w.heap.size w W1 := by subst hW1; exact bl_alloc b0 _
  have b2 : Below w.heap.size w W2 := by subst hW2; exact bl_alloc b1 _
  have s0 : W0.heap.size = w.heap.size + 1 := by subst hW0; simp
  have s1 : W1.heap.size = w.heap.size + 1 + 1 := by subst hW1; simp [s0]
  have x0 : Box4 w.heap.size (.int .i64 kind) (.int .i64 k) (.int .i64 n) (.string s) W2 := by subst hW2 hW1 hW0; exact ((Box4.new w _ _ _ _ _).alloc _).alloc _
  have x1 : Box4 (w.heap.size + 1) (.int .i64 0) (.int .i64 0) (.int .i64 0) (.string ⟨#[]⟩) W2 := by subst hW2 hW1; rw [← s0]; exact (Box4.new W0 _ _ _ _ _).alloc _
  have x2 : Box4 (w.heap.size + 1 + 1) (.int .i64 kind) (.int .i64 0) (.int .i64 0) (.string ⟨#[]⟩) W2 := by subst hW2; rw [← s1]; exact Box4.new W1 _ _ _ _ _
  have HS := hidOf (And.intro x0 (And.intro x1 (And.intro x2 b2)))
  clear x0 x1 x2 b0 b1 b2 s0 s1
  subst hW2 hW1 hW0
  go_enter Try.func74, Try.ntmps74
  go_wp2_with fail
  refine (toMsg_any k n s _).mono ?_
  rintro e w0 ⟨rfl, hb0⟩
  obtain ⟨y0, y1, y2, B2⟩ := HS.out
  obtain ⟨_, p0, p1, p2, p3, pf⟩ := y1.keep hb0
  obtain ⟨_, q0, q1, q2, q3, qf⟩ := y2.keep hb0
  have HB := hidOf (bl_trans B2 hb0)
  clear y0 y1 y2 B2 hb0 HS
  go_wp2
  refine bodyPost_ret (v := .agg #[.int .i64 kind, .int .i64 k, .int .i64 n, .string s]) (by simp [results, Try.results74, go_sem, p0, p1, p2, p3]) rfl ⟨rfl, ?_⟩
  exact (bl_set1 (bl_set1 (bl_set1 (bl_set1 (bl_set1 (bl_set1 (bl_set1 HB.out _ 1 (by omega) _) _ 2 (by omega) _) _ 3 (by omega) _) _ 0 (by omega) _) _ 1 (by omega) _) _ 2 (by omega) _) _ 3 (by omega) _)
end Go.Proofs.Ytbhdjcggcgddfaa
