/-
  Walks of the specification's draws: a message and a change.
-/
import Derived.Test.YtigmcbgcdjofjaaCH1
namespace Go.Proofs.Ytigmcbgcdjofjaa
open Go.RowKit Pl Il Dr

theorem Dr.Bytes.laterC {w w' : World} {a : Option Addr} {len cap : Nat} (h : Bytes w.heap.size w a len cap) (hb : Below w.heap.size w w') (c : Nat) (hc : w.heap.size ≤ c) : Bytes c w' a len cap := by
  obtain ⟨hl, hm, h | ⟨b, off, rfl, hb', hn, hcell⟩⟩ := h
  · exact ⟨hl, hm, .inl h⟩
  · refine ⟨hl, hm, .inr ⟨b, off, rfl, Nat.lt_of_lt_of_le hb' hb.size, by omega, fun i hi => ?_⟩⟩
    rw [hb.cell (p := ⟨b, off + i, none⟩) hb']; exact hcell i hi
theorem Pl.Box3.set0d {N : Nat} {v0 v1 v2 : Value} {w : World} (h : Box3 N v0 v1 v2 w) (y : Value) : Box3 N y v1 v2 (w.setCell ⟨N, 0, none⟩ y) :=
  ⟨by simpa using h.lt, World.cell?_setCell_same _ _ _ h.c0, by rw [World.cell?_setCell_other _ _ _ _ (by simp)]; exact h.c1, by rw [World.cell?_setCell_other _ _ _ _ (by simp)]; exact h.c2, fun k => by simpa using h.fr k⟩
theorem Pl.Box3.set1d {N : Nat} {v0 v1 v2 : Value} {w : World} (h : Box3 N v0 v1 v2 w) (y : Value) : Box3 N v0 y v2 (w.setCell ⟨N, 1, none⟩ y) :=
  ⟨by simpa using h.lt, by rw [World.cell?_setCell_other _ _ _ _ (by simp)]; exact h.c0, World.cell?_setCell_same _ _ _ h.c1, by rw [World.cell?_setCell_other _ _ _ _ (by simp)]; exact h.c2, fun k => by simpa using h.fr k⟩
theorem Pl.Box3.set2d {N : Nat} {v0 v1 v2 : Value} {w : World} (h : Box3 N v0 v1 v2 w) (y : Value) : Box3 N v0 v1 y (w.setCell ⟨N, 2, none⟩ y) :=
  ⟨by simpa using h.lt, by rw [World.cell?_setCell_other _ _ _ _ (by simp)]; exact h.c0, by rw [World.cell?_setCell_other _ _ _ _ (by simp)]; exact h.c1, World.cell?_setCell_same _ _ _ h.c2, fun k => by simpa using h.fr k⟩
theorem Pl.Box3.fard {N : Nat} {v0 v1 v2 : Value} {w : World} (h : Box3 N v0 v1 v2 w) (M o : Nat) (hM : N ≠ M) (y : Value) : Box3 N v0 v1 v2 (w.setCell ⟨M, o, none⟩ y) := by
  have key : (w.setCell ⟨M, o, none⟩ y).heap[N]? = w.heap[N]? := Below.heap_setCell w ⟨M, o, none⟩ y N hM
  exact ⟨by simpa using h.lt, by rw [← h.c0]; exact World.cell?_of_block key, by rw [← h.c1]; exact World.cell?_of_block key, by rw [← h.c2]; exact World.cell?_of_block key, fun k => by rw [← h.fr k]; exact World.frozen?_of_block key⟩
theorem stB {w u : World} (h : Below w.heap.size w u) {N o : Nat} (hN : w.heap.size ≤ N) (x : Value) : Below w.heap.size w (u.setCell ⟨N, o, none⟩ x) := h.setCell (p := ⟨N, o, none⟩) hN x
/-- The four variables of the draw. -/
structure DdV (w : World) (N M : Nat) (k n : Int) (s : ByteArray) (kind k' n' : Int) (s' : ByteArray) (u : World) : Prop where
  R1 : Box3 w.heap.size (.int .i64 0) (.int .i64 0) (.string ⟨#[]⟩) u
  R2 : Box4 (w.heap.size + 1) (.int .i64 0) (.int .i64 0) (.int .i64 0) (.string ⟨#[]⟩) u
  m : Box3 N (.int .i64 k) (.int .i64 n) (.string s) u
  x : Box4 M (.int .i64 kind) (.int .i64 k') (.int .i64 n') (.string s') u
  below : Below w.heap.size w u
section
variable {w : World} {N M : Nat} {k n : Int} {s : ByteArray} {kind k' n' : Int} {s' : ByteArray} {u : World}
theorem DdV.draw {c : Nat} {a : Option Addr} {len cap : Nat} {u' : World} (h : DdV w N M k n s kind k' n' s' u) (hd : Drawn c a len cap u u') (hc : c = w.heap.size + 1 + 1) (hN : w.heap.size + 2 < N) (hM : w.heap.size + 2 < M) : DdV w N M k n s kind k' n' s' u' :=
  ⟨h.R1.drawn hd (by omega), h.R2.drawn hd (by omega), h.m.drawn hd (by omega), h.x.drawn hd (by omega), h.below.trans (hd.ex.below (by omega) h.below.size)⟩
theorem DdV.xmsg (h : DdV w N M k n s kind k' n' s' u) (hN : w.heap.size + 2 < N) (hM : N < M) (a b : Int) (t : ByteArray) : DdV w N M k n s kind a b t (((u.setCell ⟨M, 1, none⟩ (.int .i64 a)).setCell ⟨M, 2, none⟩ (.int .i64 b)).setCell ⟨M, 3, none⟩ (.string t)) :=
  ⟨((h.R1.fard M 1 (by omega) _).fard M 2 (by omega) _).fard M 3 (by omega) _, ((h.R2.far M 1 (by omega) _).far M 2 (by omega) _).far M 3 (by omega) _, ((h.m.fard M 1 (by omega) _).fard M 2 (by omega) _).fard M 3 (by omega) _, ((h.x.set1 _).set2 _).set3 _, stB (stB (stB h.below (by omega) _) (by omega) _) (by omega) _⟩
theorem DdV.m0 (h : DdV w N M k n s kind k' n' s' u) (hN : w.heap.size + 2 < N) (hM : N < M) (a : Int) : DdV w N M a n s kind k' n' s' (u.setCell ⟨N, 0, none⟩ (.int .i64 a)) :=
  ⟨h.R1.fard N 0 (by omega) _, h.R2.far N 0 (by omega) _, h.m.set0d _, h.x.far N 0 (by omega) _, stB h.below (by omega) _⟩
theorem DdV.m1 (h : DdV w N M k n s kind k' n' s' u) (hN : w.heap.size + 2 < N) (hM : N < M) (a : Int) : DdV w N M k a s kind k' n' s' (u.setCell ⟨N, 1, none⟩ (.int .i64 a)) :=
  ⟨h.R1.fard N 1 (by omega) _, h.R2.far N 1 (by omega) _, h.m.set1d _, h.x.far N 1 (by omega) _, stB h.below (by omega) _⟩
theorem DdV.m2 (h : DdV w N M k n s kind k' n' s' u) (hN : w.heap.size + 2 < N) (hM : N < M) (t : ByteArray) : DdV w N M k n t kind k' n' s' (u.setCell ⟨N, 2, none⟩ (.string t)) :=
  ⟨h.R1.fard N 2 (by omega) _, h.R2.far N 2 (by omega) _, h.m.set2d _, h.x.far N 2 (by omega) _, stB h.below (by omega) _⟩
end
/-- What is drawn. -/
def DrP (w : World) (e : Ending) (w' : World) : Prop := ∃ (k n : Int) (s : ByteArray) (kind k' n' : Int) (s' : ByteArray), e = .returned (.tuple #[.agg #[.int .i64 k, .int .i64 n, .string s], .agg #[.int .i64 kind, .int .i64 k', .int .i64 n', .string s']]) ∧ s.size ≤ 41 ∧ s'.size ≤ 41 ∧ -1 ≤ kind ∧ kind ≤ 5 ∧ Below w.heap.size w w'
set_option maxRecDepth 20000 in
set_option maxHeartbeats 4000000 in
theorem drawChanged_any (a : Option Addr) (len cap : Nat) (w : World) (hB : Bytes w.heap.size w a len cap) :
    Calls Try.prog 35 #[.slice a len cap] w fun e w' => DrP w e w' := by
  have bA : Below w.heap.size w ((w.alloc (.cells #[.int .i64 0, .int .i64 0, .string ⟨#[]⟩] 55)).alloc (.cells #[.int .i64 0, .int .i64 0, .int .i64 0, .string ⟨#[]⟩] 57)) := bl_alloc (bl_alloc (Below.refl _ _) _) _
  go_enter Try.func35, Try.ntmps35
  go_wp2_with fail
  refine (new_any a len cap _ (hB.laterC bA _ (by simp; omega))).mono ?_
  rintro e w1 ⟨rfl, hC, hb1⟩
  have r1 := ((Box3.new w (.int .i64 0) (.int .i64 0) (.string ⟨#[]⟩) 55).alloc (.cells #[.int .i64 0, .int .i64 0, .int .i64 0, .string ⟨#[]⟩] 57)).keep hb1
  have r2 := (Box4.new (w.alloc (.cells #[.int .i64 0, .int .i64 0, .string ⟨#[]⟩] 55)) (.int .i64 0) (.int .i64 0) (.int .i64 0) (.string ⟨#[]⟩) 57).keep hb1
  have hb : Below w.heap.size w w1 := bl_trans bA hb1
  clear hb1 bA hB
  simp only [World.size_alloc] at hC r1 r2
  have hlt1 := hC.lt
  have hn12 : ¬ w.heap.size = w.heap.size + 1 := by omega
  go_wp2_with fail
  refine (msg_any a len cap _ _ hC).mono ?_
  rintro e w2 ⟨k, n, s, rfl, hs, hd2⟩
  have r1' := (r1.drawn hd2 (by omega)).alloc (.cells #[.int .i64 k, .int .i64 n, .string s] 55)
  have r2' := (r2.drawn hd2 (by omega)).alloc (.cells #[.int .i64 k, .int .i64 n, .string s] 55)
  have m2 := Box3.new w2 (.int .i64 k) (.int .i64 n) (.string s) 55
  have hB2 : Below w.heap.size w w2 := hb.trans (hd2.ex.below (by omega) hb.size)
  have hC2 := hd2.cur
  have hN : w.heap.size + 2 < w2.heap.size := by have := hC2.lt; omega
  have hs2 := hd2.ex.size
  clear r1 r2 hd2 hC hb
  go_wp2_with fail
  refine (l7Change_any a len cap _ _ (hC2.alloc _)).mono ?_
  rintro e w3 ⟨kind, k', n', s', rfl, hk0, hk1, hs', hd3⟩
  have bX : Below w3.heap.size w3 (w3.alloc (.cells #[.int .i64 kind, .int .i64 k', .int .i64 n', .string s'] 57)) := bl_alloc (Below.refl _ _) _
  have hM : w2.heap.size < w3.heap.size := by have := hd3.ex.size; simp at this; omega
  have V3 : DdV w w2.heap.size w3.heap.size k n s kind k' n' s' (w3.alloc (.cells #[.int .i64 kind, .int .i64 k', .int .i64 n', .string s'] 57)) :=
    ⟨(r1'.drawn hd3 (by omega)).keep bX, (r2'.drawn hd3 (by omega)).keep bX, (m2.drawn hd3 (by omega)).keep bX, Box4.new w3 _ _ _ _ _, bl_alloc ((bl_alloc hB2 _).trans (hd3.ex.below (by omega) (bl_alloc hB2 _).size)) _⟩
  have hC3 := hd3.cur.alloc (.cells #[.int .i64 kind, .int .i64 k', .int .i64 n', .string s'] 57)
  have HV3 := hidOf V3
  clear V3 r1' r2' m2 bX hd3 hC2 hB2 hlt1
  have q1 : ¬ w2.heap.size = w.heap.size := by omega
  have q2 : ¬ w.heap.size = w2.heap.size := by omega
  have q3 : ¬ w2.heap.size = w.heap.size + 1 := by omega
  have q4 : ¬ w.heap.size + 1 = w2.heap.size := by omega
  have q5 : ¬ w3.heap.size = w.heap.size := by omega
  have q6 : ¬ w.heap.size = w3.heap.size := by omega
  have q7 : ¬ w3.heap.size = w.heap.size + 1 := by omega
  have q8 : ¬ w.heap.size + 1 = w3.heap.size := by omega
  have q9 : ¬ w3.heap.size = w2.heap.size := by omega
  have q10 : ¬ w2.heap.size = w3.heap.size := by omega
  go_wp2_with fail
  refine (once_any a len cap _ _ _ hC3 (by omega) (by omega)).mono ?_
  rintro e w4 ⟨b, rfl, hd4⟩
  have V4 := HV3.out.draw hd4 rfl hN (by omega)
  have hC4 := hd4.cur
  clear HV3 hd4 hC3
  cases b
  ·
    obtain ⟨_, p0, p1, p2, fr⟩ := id V4.R1
    obtain ⟨_, u0, u1, u2, u3, fu⟩ := id V4.R2
    obtain ⟨_, m0, m1, m2, fm⟩ := id V4.m
    obtain ⟨_, x0, x1, x2, x3, fx⟩ := id V4.x
    have HB := hidOf V4.below
    clear V4
    go_wp2_with fail
    go_region
    all_goals (try go_wp2)
    all_goals refine bodyPost_ret (v := .tuple #[.agg #[.int .i64 k, .int .i64 n, .string s], .agg #[.int .i64 kind, .int .i64 k', .int .i64 n', .string s']]) (by simp [results, Try.results35, go_sem, p0, p1, p2, u0, u1, u2, u3]) rfl ⟨_, _, _, _, _, _, _, rfl, by first | omega | decide, by omega, by omega, by omega, ?_⟩
    all_goals repeat (first | (with_reducible exact HB.out) | (with_reducible apply Below.drew) | (with_reducible refine stB ?_ (by omega) _))
  · have HV4 := hidOf V4
    clear V4
    go_wp2_with fail
    refine (msg_any a len cap _ _ hC4).mono ?_
    rintro e w5 ⟨k2, n2, s2, rfl, hs2', hd5⟩
    have V5 := HV4.out.draw hd5 rfl hN (by omega)
    obtain ⟨_, x0, x1, x2, x3, fx⟩ := id V5.x
    obtain ⟨_, m0, m1, m2, fm⟩ := id V5.m
    have V6 := (V5.xmsg hN hM k2 n2 s2).m0 hN hM k2
    clear hd5 HV4 hC4 V5
    by_cases hk2 : k2 = 1
    · subst hk2
      have V7 := V6.m2 hN hM ⟨#[]⟩
      have HV7 := hidOf V7
      clear V7 V6
      go_wp2_with fail
      clear x0 x1 x2 x3 fx m0 m1 m2 fm
      have V8 := HV7.out
      clear HV7
      obtain ⟨_, p0, p1, p2, fr⟩ := id V8.R1
      obtain ⟨_, u0, u1, u2, u3, fu⟩ := id V8.R2
      obtain ⟨_, m0, m1, m2, fm⟩ := id V8.m
      obtain ⟨_, x0, x1, x2, x3, fx⟩ := id V8.x
      have HB := hidOf V8.below
      clear V8
      go_wp2_with fail
      go_region
      all_goals (try go_wp2)
      all_goals refine bodyPost_ret (v := .tuple #[.agg #[.int .i64 1, .int .i64 n, .string (⟨#[]⟩ : ByteArray)], .agg #[.int .i64 kind, .int .i64 1, .int .i64 n2, .string s2]]) (by simp [results, Try.results35, go_sem, p0, p1, p2, u0, u1, u2, u3]) rfl ⟨_, _, _, _, _, _, _, rfl, by first | omega | decide, by omega, by omega, by omega, ?_⟩
      all_goals repeat (first | (with_reducible exact HB.out) | (with_reducible apply Below.drew) | (with_reducible refine stB ?_ (by omega) _))
    · have e1 : (k2 == 1) = false := by simp [hk2]
      have V7 := V6.m1 hN hM 0
      have HV7 := hidOf V7
      clear V7 V6
      go_wp2_with fail
      clear x0 x1 x2 x3 fx m0 m1 m2 fm
      have V8 := HV7.out
      clear HV7
      obtain ⟨_, p0, p1, p2, fr⟩ := id V8.R1
      obtain ⟨_, u0, u1, u2, u3, fu⟩ := id V8.R2
      obtain ⟨_, m0, m1, m2, fm⟩ := id V8.m
      obtain ⟨_, x0, x1, x2, x3, fx⟩ := id V8.x
      have HB := hidOf V8.below
      clear V8
      go_wp2_with fail
      go_region
      all_goals (try go_wp2)
      all_goals refine bodyPost_ret (v := .tuple #[.agg #[.int .i64 k2, .int .i64 0, .string s], .agg #[.int .i64 kind, .int .i64 k2, .int .i64 n2, .string s2]]) (by simp [results, Try.results35, go_sem, p0, p1, p2, u0, u1, u2, u3]) rfl ⟨_, _, _, _, _, _, _, rfl, by first | omega | decide, by omega, by omega, by omega, ?_⟩
      all_goals repeat (first | (with_reducible exact HB.out) | (with_reducible apply Below.drew) | (with_reducible refine stB ?_ (by omega) _))
end Go.Proofs.Ytigmcbgcdjofjaa
