/-
  Walk of the specification's Changed.
-/
import Derived.Test.YtbbhaekmjnincaaCM10
import Derived.Test.YtbbhaekmjnincaaZFnSees24
import Derived.Test.YtbbhaekmjnincaaSpC
namespace Go.Proofs.Ytbbhaekmjnincaa
open Go.RowKit Pl Il

/-- The four variables of the specification's Changed. -/
structure ChV (w : World) (k n : Int) (s : ByteArray) (kind k' n' : Int) (s' : ByteArray) (o1 o2 : Int) (o3 : ByteArray) (u : World) : Prop where
  m : Box3 w.heap.size (.int .i64 k) (.int .i64 n) (.string s) u
  x0 : u.cell? ⟨w.heap.size + 1, 0, none⟩ = some (.int .i64 kind)
  x1 : u.cell? ⟨w.heap.size + 1, 1, none⟩ = some (.int .i64 k')
  x2 : u.cell? ⟨w.heap.size + 1, 2, none⟩ = some (.int .i64 n')
  x3 : u.cell? ⟨w.heap.size + 1, 3, none⟩ = some (.string s')
  r : Box3 (w.heap.size + 1 + 1) (.int .i64 0) (.int .i64 0) (.string ⟨#[]⟩) u
  o : Box3 (w.heap.size + 1 + 1 + 1) (.int .i64 o1) (.int .i64 o2) (.string o3) u
  below : Below w.heap.size w u
theorem cellU {w w' : World} {a : Addr} {v : Value} (h : w.cell? a = some v) (hb : Below w.heap.size w w') : w'.cell? a = some v := by
  rw [hb.cell (p := a) (World.block_lt_of_cell? w a h)]; exact h
theorem ChV.keep {w : World} {k n : Int} {s : ByteArray} {kind k' n' : Int} {s' : ByteArray} {o1 o2 : Int} {o3 : ByteArray} {u u' : World} (h : ChV w k n s kind k' n' s' o1 o2 o3 u) (hb : Below u.heap.size u u') : ChV w k n s kind k' n' s' o1 o2 o3 u' :=
  ⟨h.m.keep hb, cellU h.x0 hb, cellU h.x1 hb, cellU h.x2 hb, cellU h.x3 hb, h.r.keep hb, h.o.keep hb, bl_trans h.below hb⟩
theorem Pl.Box3.far {N : Nat} {v0 v1 v2 : Value} {w : World} (h : Box3 N v0 v1 v2 w) (M o : Nat) (hM : N ≠ M) (y : Value) : Box3 N v0 v1 v2 (w.setCell ⟨M, o, none⟩ y) := by
  have key := Below.heap_setCell w ⟨M, o, none⟩ y N hM
  exact ⟨by simpa using h.lt, by rw [← h.c0]; exact World.cell?_of_block key, by rw [← h.c1]; exact World.cell?_of_block key, by rw [← h.c2]; exact World.cell?_of_block key, fun q => by rw [← h.fr q]; exact World.frozen?_of_block key⟩
theorem cellF {w : World} {N M o o' : Nat} {v y : Value} (h : w.cell? ⟨N, o, none⟩ = some v) (hM : N ≠ M) : (w.setCell ⟨M, o', none⟩ y).cell? ⟨N, o, none⟩ = some v := by
  rw [World.cell?_setCell_other _ _ _ _ (by intro e; cases e; exact hM rfl)]; exact h
/-- A number of the new message is stored. -/
theorem ChV.num {w : World} {k n : Int} {s : ByteArray} {kind k' n' : Int} {s' : ByteArray} {o1 o2 : Int} {o3 : ByteArray} {u : World} (h : ChV w k n s kind k' n' s' o1 o2 o3 u) (v : Int) : ChV w k n s kind k' n' s' o1 v o3 (u.setCell ⟨w.heap.size + 1 + 1 + 1, 1, none⟩ (.int .i64 v)) :=
  ⟨h.m.far _ _ (by omega) _, cellF h.x0 (by omega), cellF h.x1 (by omega), cellF h.x2 (by omega), cellF h.x3 (by omega), h.r.far _ _ (by omega) _,
    ⟨by simpa using h.o.lt, by rw [World.cell?_setCell_other _ _ _ _ (by simp)]; exact h.o.c0, World.cell?_setCell_same _ _ _ h.o.c1, by rw [World.cell?_setCell_other _ _ _ _ (by simp)]; exact h.o.c2, fun q => by simpa using h.o.fr q⟩, bl_set1 h.below _ _ (by omega) _⟩
theorem ChV.text {w : World} {k n : Int} {s : ByteArray} {kind k' n' : Int} {s' : ByteArray} {o1 o2 : Int} {o3 : ByteArray} {u : World} (h : ChV w k n s kind k' n' s' o1 o2 o3 u) (v : ByteArray) : ChV w k n s kind k' n' s' o1 o2 v (u.setCell ⟨w.heap.size + 1 + 1 + 1, 2, none⟩ (.string v)) :=
  ⟨h.m.far _ _ (by omega) _, cellF h.x0 (by omega), cellF h.x1 (by omega), cellF h.x2 (by omega), cellF h.x3 (by omega), h.r.far _ _ (by omega) _,
    ⟨by simpa using h.o.lt, by rw [World.cell?_setCell_other _ _ _ _ (by simp)]; exact h.o.c0, by rw [World.cell?_setCell_other _ _ _ _ (by simp)]; exact h.o.c1, World.cell?_setCell_same _ _ _ h.o.c2, fun q => by simpa using h.o.fr q⟩, bl_set1 h.below _ _ (by omega) _⟩
theorem ChV.all {w : World} {k n : Int} {s : ByteArray} {kind k' n' : Int} {s' : ByteArray} {o1 o2 : Int} {o3 : ByteArray} {u : World} (h : ChV w k n s kind k' n' s' o1 o2 o3 u) (a b : Int) (c : ByteArray) : ChV w k n s kind k' n' s' a b c (((u.setCell ⟨w.heap.size + 1 + 1 + 1, 0, none⟩ (.int .i64 a)).setCell ⟨w.heap.size + 1 + 1 + 1, 1, none⟩ (.int .i64 b)).setCell ⟨w.heap.size + 1 + 1 + 1, 2, none⟩ (.string c)) := by
  have h1 : ChV w k n s kind k' n' s' a o2 o3 (u.setCell ⟨w.heap.size + 1 + 1 + 1, 0, none⟩ (.int .i64 a)) :=
    ⟨h.m.far _ _ (by omega) _, cellF h.x0 (by omega), cellF h.x1 (by omega), cellF h.x2 (by omega), cellF h.x3 (by omega), h.r.far _ _ (by omega) _,
      ⟨by simpa using h.o.lt, World.cell?_setCell_same _ _ _ h.o.c0, by rw [World.cell?_setCell_other _ _ _ _ (by simp)]; exact h.o.c1, by rw [World.cell?_setCell_other _ _ _ _ (by simp)]; exact h.o.c2, fun q => by simpa using h.o.fr q⟩, bl_set1 h.below _ _ (by omega) _⟩
  exact (h1.num b).text c
theorem ChV.fin {w : World} {k n : Int} {s : ByteArray} {kind k' n' : Int} {s' : ByteArray} {o1 o2 : Int} {o3 : ByteArray} {u : World} (h : ChV w k n s kind k' n' s' o1 o2 o3 u) (y0 y1 y2 : Value) : Below w.heap.size w (((u.setCell ⟨w.heap.size + 1 + 1, 0, none⟩ y0).setCell ⟨w.heap.size + 1 + 1, 1, none⟩ y1).setCell ⟨w.heap.size + 1 + 1, 2, none⟩ y2) :=
  bl_set1 (bl_set1 (bl_set1 h.below _ 0 (by omega) y0) _ 1 (by omega) y1) _ 2 (by omega) y2
theorem chv_new (w : World) (k n : Int) (s : ByteArray) (kind k' n' : Int) (s' : ByteArray) : ChV w k n s kind k' n' s' k' n' s' ((((w.alloc (.cells #[.int .i64 k, .int .i64 n, .string s] 25)).alloc (.cells #[.int .i64 kind, .int .i64 k', .int .i64 n', .string s'] 34)).alloc (.cells #[.int .i64 0, .int .i64 0, .string ⟨#[]⟩] 25)).alloc (.cells #[.int .i64 k', .int .i64 n', .string s'] 25)) := by
  have s1 : (w.alloc (.cells #[.int .i64 k, .int .i64 n, .string s] 25)).heap.size = w.heap.size + 1 := by simp
  have s2 : ((w.alloc (.cells #[.int .i64 k, .int .i64 n, .string s] 25)).alloc (.cells #[.int .i64 kind, .int .i64 k', .int .i64 n', .string s'] 34)).heap.size = w.heap.size + 1 + 1 := by simp
  have s3 : (((w.alloc (.cells #[.int .i64 k, .int .i64 n, .string s] 25)).alloc (.cells #[.int .i64 kind, .int .i64 k', .int .i64 n', .string s'] 34)).alloc (.cells #[.int .i64 0, .int .i64 0, .string ⟨#[]⟩] 25)).heap.size = w.heap.size + 1 + 1 + 1 := by simp
  have bb : ∀ (v : World) (a b : Obj), Below v.heap.size v ((v.alloc a).alloc b) := fun v a b => bl_alloc (bl_alloc (Below.refl _ _) _) _
  refine ⟨((((Box3.new w _ _ _ _).alloc _).alloc _).alloc _), cellU ?_ (bb _ _ _), cellU ?_ (bb _ _ _), cellU ?_ (bb _ _ _), cellU ?_ (bb _ _ _), ?_, ?_, bl_alloc (bl_alloc (bl_alloc (bl_alloc (Below.refl _ _) _) _) _) _⟩
  · rw [← s1]; simp
  · rw [← s1]; simp
  · rw [← s1]; simp
  · rw [← s1]; simp
  · rw [← s2]; exact (Box3.new _ _ _ _ _).alloc _
  · rw [← s3]; exact Box3.new _ _ _ _ _
theorem num_bd {n : Int} {s : ByteArray} (h : okB 1 n s = true) : -999999999 ≤ n ∧ n ≤ 999999999 := by
  simp [okB, okNum] at h
  exact h.2
theorem txt_bd {n : Int} {s : ByteArray} (h : okB 2 n s = true) : n = 0 ∧ s.size ≤ 40 := by
  simp [okB, plainB] at h
  exact ⟨h.1, h.2.1⟩
theorem wrap_sum {n m : Int} (h : -999999999 ≤ n ∧ n ≤ 999999999) (h' : -999999999 ≤ m ∧ m ≤ 999999999) : IntKind.i64.wrap (n + m) = n + m := by
  rw [IntKind.wrap_i64]; omega
end Go.Proofs.Ytbbhaekmjnincaa
