/-
  A change in a variable of four cells; its size, and its copy.
  Walks of the specification's draws: a change; a message and a change.
  Walks of the specification's draws: a message and a change.
  The program's lists once more: a copy, Leave and Wake, each list that is handed back a row of its own.
-/
import Derived.Test.YtllpcbdecibloaaZFnChanges1
import Derived.Test.YtllpcbdecibloaaZFnChanges6
import Derived.Test.YtllpcbdecibloaaZFnChanges5
namespace Go.Proofs.Ytllpcbdecibloaa
open Go.RowKit Pl Il

structure Box4 (N : Nat) (v0 v1 v2 v3 : Value) (w : World) : Prop where
  lt : N < w.heap.size
  c0 : w.cell? ⟨N, 0, none⟩ = some v0
  c1 : w.cell? ⟨N, 1, none⟩ = some v1
  c2 : w.cell? ⟨N, 2, none⟩ = some v2
  c3 : w.cell? ⟨N, 3, none⟩ = some v3
  fr : ∀ o, w.frozen? ⟨N, o, none⟩ = false
section
variable {N : Nat} {v0 v1 v2 v3 : Value} {w u : World}
theorem Box4.new (w : World) (v0 v1 v2 v3 : Value) (t : TypeId) : Box4 w.heap.size v0 v1 v2 v3 (w.alloc (.cells #[v0, v1, v2, v3] t)) :=
  ⟨by simp, by simp, by simp, by simp, by simp, fun o => by simp [go_sem]⟩
theorem Box4.of_block (h : Box4 N v0 v1 v2 v3 w) (key : u.heap[N]? = w.heap[N]?) (hs : N < u.heap.size) : Box4 N v0 v1 v2 v3 u :=
  ⟨hs, by rw [← h.c0]; exact World.cell?_of_block key, by rw [← h.c1]; exact World.cell?_of_block key, by rw [← h.c2]; exact World.cell?_of_block key, by rw [← h.c3]; exact World.cell?_of_block key, fun k => by rw [← h.fr k]; exact World.frozen?_of_block key⟩
theorem Box4.keep (h : Box4 N v0 v1 v2 v3 w) (hb : Below w.heap.size w u) : Box4 N v0 v1 v2 v3 u := h.of_block (hb.block N h.lt) (Nat.lt_of_lt_of_le h.lt hb.size)
theorem Box4.alloc (h : Box4 N v0 v1 v2 v3 w) (o : Obj) : Box4 N v0 v1 v2 v3 (w.alloc o) := h.keep (bl_alloc (Below.refl _ _) o)
theorem Box4.far (h : Box4 N v0 v1 v2 v3 w) (M o : Nat) (hM : N ≠ M) (y : Value) : Box4 N v0 v1 v2 v3 (w.setCell ⟨M, o, none⟩ y) := h.of_block (Below.heap_setCell w ⟨M, o, none⟩ y N hM) (by simpa using h.lt)
theorem Box4.set0 (h : Box4 N v0 v1 v2 v3 w) (y : Value) : Box4 N y v1 v2 v3 (w.setCell ⟨N, 0, none⟩ y) :=
  ⟨by simpa using h.lt, World.cell?_setCell_same _ _ _ h.c0, by rw [World.cell?_setCell_other _ _ _ _ (by simp)]; exact h.c1, by rw [World.cell?_setCell_other _ _ _ _ (by simp)]; exact h.c2, by rw [World.cell?_setCell_other _ _ _ _ (by simp)]; exact h.c3, fun k => by simpa using h.fr k⟩
end
end Go.Proofs.Ytllpcbdecibloaa
namespace Go.Proofs.Ytllpcbdecibloaa
open Go.RowKit Pl Il Dr

theorem Box4.drawn {N : Nat} {v0 v1 v2 v3 : Value} {c : Nat} {a : Option Addr} {len cap : Nat} {w u : World} (h : Box4 N v0 v1 v2 v3 w) (hd : Drawn c a len cap w u) (hn : N ≠ c) : Box4 N v0 v1 v2 v3 u where
  lt := Nat.lt_of_lt_of_le h.lt hd.ex.size
  c0 := by rw [hd.ex.cell h.lt hn]; exact h.c0
  c1 := by rw [hd.ex.cell h.lt hn]; exact h.c1
  c2 := by rw [hd.ex.cell h.lt hn]; exact h.c2
  c3 := by rw [hd.ex.cell h.lt hn]; exact h.c3
  fr := fun o => by rw [hd.ex.frozen h.lt hn]; exact h.fr o
theorem Box4.set1 {N : Nat} {v0 v1 v2 v3 : Value} {w : World} (h : Box4 N v0 v1 v2 v3 w) (y : Value) : Box4 N v0 y v2 v3 (w.setCell ⟨N, 1, none⟩ y) :=
  ⟨by simpa using h.lt, by rw [World.cell?_setCell_other _ _ _ _ (by simp)]; exact h.c0, World.cell?_setCell_same _ _ _ h.c1, by rw [World.cell?_setCell_other _ _ _ _ (by simp)]; exact h.c2, by rw [World.cell?_setCell_other _ _ _ _ (by simp)]; exact h.c3, fun k => by simpa using h.fr k⟩
theorem Box4.set2 {N : Nat} {v0 v1 v2 v3 : Value} {w : World} (h : Box4 N v0 v1 v2 v3 w) (y : Value) : Box4 N v0 v1 y v3 (w.setCell ⟨N, 2, none⟩ y) :=
  ⟨by simpa using h.lt, by rw [World.cell?_setCell_other _ _ _ _ (by simp)]; exact h.c0, by rw [World.cell?_setCell_other _ _ _ _ (by simp)]; exact h.c1, World.cell?_setCell_same _ _ _ h.c2, by rw [World.cell?_setCell_other _ _ _ _ (by simp)]; exact h.c3, fun k => by simpa using h.fr k⟩
theorem Box4.set3 {N : Nat} {v0 v1 v2 v3 : Value} {w : World} (h : Box4 N v0 v1 v2 v3 w) (y : Value) : Box4 N v0 v1 v2 y (w.setCell ⟨N, 3, none⟩ y) :=
  ⟨by simpa using h.lt, by rw [World.cell?_setCell_other _ _ _ _ (by simp)]; exact h.c0, by rw [World.cell?_setCell_other _ _ _ _ (by simp)]; exact h.c1, by rw [World.cell?_setCell_other _ _ _ _ (by simp)]; exact h.c2, World.cell?_setCell_same _ _ _ h.c3, fun k => by simpa using h.fr k⟩
/-- A change's variable while it is drawn, and the one that is answered. -/
structure DcV (w : World) (c : Nat) (a : Option Addr) (len cap N : Nat) (kind k n : Int) (s : ByteArray) (u : World) : Prop where
  D : Drawn c a len cap w u
  R : Box4 w.heap.size (.int .i64 0) (.int .i64 0) (.int .i64 0) (.string ⟨#[]⟩) u
  X : Box4 N (.int .i64 kind) (.int .i64 k) (.int .i64 n) (.string s) u
theorem DcV.draw {w : World} {c : Nat} {a : Option Addr} {len cap N : Nat} {kind k n : Int} {s : ByteArray} {u u' : World} (h : DcV w c a len cap N kind k n s u) (hd : Drawn c a len cap u u') (h1 : w.heap.size ≠ c) (h2 : N ≠ c) : DcV w c a len cap N kind k n s u' :=
  ⟨h.D.trans hd, h.R.drawn hd h1, h.X.drawn hd h2⟩
theorem DcV.msg {w : World} {c : Nat} {a : Option Addr} {len cap N : Nat} {kind k n : Int} {s : ByteArray} {u : World} (h : DcV w c a len cap N kind k n s u) (hC : Cur c a len cap w) (hN : w.heap.size < N) (k' n' : Int) (s' : ByteArray) :
    DcV w c a len cap N kind k' n' s' (((u.setCell ⟨N, 1, none⟩ (.int .i64 k')).setCell ⟨N, 2, none⟩ (.int .i64 n')).setCell ⟨N, 3, none⟩ (.string s')) :=
  ⟨((h.D.store hC ⟨N, 1, none⟩ (Nat.le_of_lt hN) _).store hC ⟨N, 2, none⟩ (Nat.le_of_lt hN) _).store hC ⟨N, 3, none⟩ (Nat.le_of_lt hN) _, ((h.R.far N 1 (by omega) _).far N 2 (by omega) _).far N 3 (by omega) _, ((h.X.set1 _).set2 _).set3 _⟩
theorem DcV.kind {w : World} {c : Nat} {a : Option Addr} {len cap N : Nat} {kind k n : Int} {s : ByteArray} {u : World} (h : DcV w c a len cap N kind k n s u) (hC : Cur c a len cap w) (hN : w.heap.size < N) (kind' : Int) : DcV w c a len cap N kind' k n s (u.setCell ⟨N, 0, none⟩ (.int .i64 kind')) :=
  ⟨h.D.store hC ⟨N, 0, none⟩ (Nat.le_of_lt hN) _, h.R.far N 0 (by omega) _, h.X.set0 _⟩
theorem DcV.fin {w : World} {c : Nat} {a : Option Addr} {len cap N : Nat} {kind k n : Int} {s : ByteArray} {u : World} (h : DcV w c a len cap N kind k n s u) (hC : Cur c a len cap w) (x0 x1 x2 x3 : Value) :
    Drawn c a len cap w ((((u.setCell ⟨w.heap.size, 0, none⟩ x0).setCell ⟨w.heap.size, 1, none⟩ x1).setCell ⟨w.heap.size, 2, none⟩ x2).setCell ⟨w.heap.size, 3, none⟩ x3) :=
  (((h.D.store hC ⟨w.heap.size, 0, none⟩ (Nat.le_refl _) _).store hC ⟨w.heap.size, 1, none⟩ (Nat.le_refl _) _).store hC ⟨w.heap.size, 2, none⟩ (Nat.le_refl _) _).store hC ⟨w.heap.size, 3, none⟩ (Nat.le_refl _) _
set_option maxHeartbeats 4000000 in
theorem l7Change_any (a : Option Addr) (len cap : Nat) (c : Nat) (w : World) (hC : Cur c a len cap w) :
    Calls Try.prog 47 #[.pointer (some ⟨c, 0, none⟩)] w fun e w' => ∃ (kind k n : Int) (s : ByteArray), e = .returned (.agg #[.int .i64 kind, .int .i64 k, .int .i64 n, .string s]) ∧ -1 ≤ kind ∧ kind ≤ 5 ∧ s.size ≤ 41 ∧ Drawn c a len cap w w' := by
  have hlt := hC.lt
  have hne : w.heap.size ≠ c := by omega
  have HC := hidOf hC
  clear hC
  go_enter Try.func47, Try.ntmps47
  go_wp2_with fail
  refine (below_any a len cap c _ _ (HC.out.alloc _) (by omega) (by omega)).mono ?_
  rintro e w1 ⟨x, rfl, x0, x1, hd1⟩
  have r1 := (Box4.new w (.int .i64 0) (.int .i64 0) (.int .i64 0) (.string ⟨#[]⟩) 27).drawn hd1 hne
  have hD1 : Drawn c a len cap w w1 := ((Drawn.start HC.out).alloc _).trans hd1
  clear hd1
  go_wp2_with fail
  refine (msg_any a len cap c _ hD1.cur).mono ?_
  rintro e w2 ⟨k, n, s, rfl, hs, hd2⟩
  have r2 := r1.drawn hd2 hne
  have hD2 := hD1.trans hd2
  have hN : w.heap.size < w2.heap.size := r2.lt
  have hNc : w2.heap.size ≠ c := by omega
  have V3 : DcV w c a len cap w2.heap.size (1 + x) k n s (w2.alloc (.cells #[.int .i64 (1 + x), .int .i64 k, .int .i64 n, .string s] 27)) := ⟨hD2.alloc _, r2.alloc _, Box4.new w2 _ _ _ _ _⟩
  have HV3 := hidOf V3
  clear V3 r1 r2 hD1 hD2 hd2
  go_wp2_with fail
  refine (once_any a len cap c _ _ HV3.out.D.cur (by omega) (by omega)).mono ?_
  rintro e w4 ⟨b, rfl, hd4⟩
  have V4 := HV3.out.draw hd4 hne hNc
  clear hd4 HV3
  cases b
  · -- the message stays
    have HV := hidOf V4
    clear V4
    go_wp2_with fail
    refine (once_any a len cap c _ _ HV.out.D.cur (by omega) (by omega)).mono ?_
    rintro e w6 ⟨y, rfl, hd6⟩
    have V6 := HV.out.draw hd6 hne hNc
    clear hd6 HV
    cases y
    · -- the kind stays
      have HF := hidOf (V6.fin HC.out (.int .i64 (1 + x)) (.int .i64 k) (.int .i64 n) (.string s))
      obtain ⟨_, r0, r1, r2, r3, rf⟩ := id V6.R
      obtain ⟨_, x0, x1, x2, x3, xf⟩ := id V6.X
      clear V6
      go_wp2
      refine bodyPost_ret (v := .agg #[.int .i64 (1 + x), .int .i64 k, .int .i64 n, .string s]) (by simp [results, Try.results47, go_sem, r0, r1, r2, r3]) rfl ⟨_, _, _, _, rfl, by omega, by omega, by omega, HF.out⟩
    · have HV6 := hidOf V6
      clear V6
      go_wp2_with fail
      refine (below_any a len cap c _ _ HV6.out.D.cur (by omega) (by omega)).mono ?_
      rintro e w7 ⟨z, rfl, z0, z1, hd7⟩
      have V7 := HV6.out.draw hd7 hne hNc
      obtain ⟨_, y0, y1, y2, y3, yf⟩ := id V7.X
      have V8 := V7.kind HC.out hN (z - 1)
      clear hd7 HV6 V7
      have HF := hidOf (V8.fin HC.out (.int .i64 (z - 1)) (.int .i64 k) (.int .i64 n) (.string s))
      obtain ⟨_, r0, r1, r2, r3, rf⟩ := id V8.R
      obtain ⟨_, x0, x1, x2, x3, xf⟩ := id V8.X
      clear V8
      go_wp2
      refine bodyPost_ret (v := .agg #[.int .i64 (z - 1), .int .i64 k, .int .i64 n, .string s]) (by simp [results, Try.results47, go_sem, r0, r1, r2, r3]) rfl ⟨_, _, _, _, rfl, by omega, by omega, by omega, HF.out⟩
  · have HV4 := hidOf V4
    clear V4
    go_wp2_with fail
    refine (anyMsg_any a len cap c _ HV4.out.D.cur).mono ?_
    rintro e w5 ⟨k', n', s', rfl, hs', hd5⟩
    have V5 := HV4.out.draw hd5 hne hNc
    obtain ⟨_, y0, y1, y2, y3, yf⟩ := id V5.X
    have V5' := V5.msg HC.out hN k' n' s'
    clear hd5 HV4 V5
    have HV := hidOf V5'
    clear V5'
    go_wp2_with fail
    refine (once_any a len cap c _ _ HV.out.D.cur (by omega) (by omega)).mono ?_
    rintro e w6 ⟨y, rfl, hd6⟩
    have V6 := HV.out.draw hd6 hne hNc
    clear hd6 HV
    cases y
    · -- the kind stays
      have HF := hidOf (V6.fin HC.out (.int .i64 (1 + x)) (.int .i64 k') (.int .i64 n') (.string s'))
      obtain ⟨_, r0, r1, r2, r3, rf⟩ := id V6.R
      obtain ⟨_, x0, x1, x2, x3, xf⟩ := id V6.X
      clear V6
      go_wp2
      refine bodyPost_ret (v := .agg #[.int .i64 (1 + x), .int .i64 k', .int .i64 n', .string s']) (by simp [results, Try.results47, go_sem, r0, r1, r2, r3]) rfl ⟨_, _, _, _, rfl, by omega, by omega, by omega, HF.out⟩
    · have HV6 := hidOf V6
      clear V6
      go_wp2_with fail
      refine (below_any a len cap c _ _ HV6.out.D.cur (by omega) (by omega)).mono ?_
      rintro e w7 ⟨z, rfl, z0, z1, hd7⟩
      have V7 := HV6.out.draw hd7 hne hNc
      obtain ⟨_, y0, y1, y2, y3, yf⟩ := id V7.X
      have V8 := V7.kind HC.out hN (z - 1)
      clear hd7 HV6 V7
      have HF := hidOf (V8.fin HC.out (.int .i64 (z - 1)) (.int .i64 k') (.int .i64 n') (.string s'))
      obtain ⟨_, r0, r1, r2, r3, rf⟩ := id V8.R
      obtain ⟨_, x0, x1, x2, x3, xf⟩ := id V8.X
      clear V8
      go_wp2
      refine bodyPost_ret (v := .agg #[.int .i64 (z - 1), .int .i64 k', .int .i64 n', .string s']) (by simp [results, Try.results47, go_sem, r0, r1, r2, r3]) rfl ⟨_, _, _, _, rfl, by omega, by omega, by omega, HF.out⟩
end Go.Proofs.Ytllpcbdecibloaa
namespace Go.Proofs.Ytllpcbdecibloaa
open Go.RowKit Pl Il Dr

theorem Dr.Bytes.laterC {w w' : World} {a : Option Addr} {len cap : Nat} (h : Bytes w.heap.size w a len cap) (hb : Below w.heap.size w w') (c : Nat) (hc : w.heap.size ≤ c) : Bytes c w' a len cap := by
  obtain ⟨hl, hm, h | ⟨b, off, rfl, hb', hn, hcell⟩⟩ := h
  · exact ⟨hl, hm, .inl h⟩
  · refine ⟨hl, hm, .inr ⟨b, off, rfl, Nat.lt_of_lt_of_le hb' hb.size, by omega, fun i hi => ?_⟩⟩
    rw [hb.cell (p := ⟨b, off + i, none⟩) hb']; exact hcell i hi
theorem Pl.Box3.set0d {N : Nat} {v0 v1 v2 : Value} {w : World} (h : Box3 N v0 v1 v2 w) (y : Value) : Box3 N y v1 v2 (w.setCell ⟨N, 0, none⟩ y) :=
  ⟨by simpa using h.lt, World.cell?_setCell_same _ _ _ h.c0, by rw [World.cell?_setCell_other _ _ _ _ (by simp)]; exact h.c1, by rw [World.cell?_setCell_other _ _ _ _ (by simp)]; exact h.c2, fun k => by simpa using h.fr k⟩
theorem Pl.Box3.set1d {N : Nat} {v0 v1 v2 : Value} {w : World} (h : Box3 N v0 v1 v2 w) (y : Value) : Box3 N v0 y v2 (w.setCell ⟨N, 1, none⟩ y) :=
  ⟨by simpa using h.lt, by rw [World.cell?_setCell_other _ _ _ _ (by simp)]; exact h.c0, World.cell?_setCell_same _ _ _ h.c1, by rw [World.cell?_setCell_other _ _ _ _ (by simp)]; exact h.c2, fun k => by simpa using h.fr k⟩
theorem Pl.Box3.set2d {N : Nat} {v0 v1 v2 : Value} {w : World} (h : Box3 N v0 v1 v2 w) (y : Value) : Box3 N v0 v1 y (w.setCell ⟨N, 2, none⟩ y) :=
  ⟨by simpa using h.lt, by rw [World.cell?_setCell_other _ _ _ _ (by simp)]; exact h.c0, by rw [World.cell?_setCell_other _ _ _ _ (by simp)]; exact h.c1, World.cell?_setCell_same _ _ _ h.c2, fun k => by simpa using h.fr k⟩
theorem Pl.Box3.fard {N : Nat} {v0 v1 v2 : Value} {w : World} (h : Box3 N v0 v1 v2 w) (M o : Nat) (hM : N ≠ M) (y : Value) : Box3 N v0 v1 v2 (w.setCell ⟨M, o, none⟩ y) := by
  have key : (w.setCell ⟨M, o, none⟩ y).heap[N]? = w.heap[N]? := Below.heap_setCell w ⟨M, o, none⟩ y N hM
  exact ⟨by simpa using h.lt, by rw [← h.c0]; exact World.cell?_of_block key, by rw [← h.c1]; exact World.cell?_of_block key, by rw [← h.c2]; exact World.cell?_of_block key, fun k => by rw [← h.fr k]; exact World.frozen?_of_block key⟩
theorem stB {w u : World} (h : Below w.heap.size w u) {N o : Nat} (hN : w.heap.size ≤ N) (x : Value) : Below w.heap.size w (u.setCell ⟨N, o, none⟩ x) := h.setCell (p := ⟨N, o, none⟩) hN x
/-- The four variables of the draw. -/
structure DdV (w : World) (N M : Nat) (k n : Int) (s : ByteArray) (kind k' n' : Int) (s' : ByteArray) (u : World) : Prop where
  R1 : Box3 w.heap.size (.int .i64 0) (.int .i64 0) (.string ⟨#[]⟩) u
  R2 : Box4 (w.heap.size + 1) (.int .i64 0) (.int .i64 0) (.int .i64 0) (.string ⟨#[]⟩) u
  m : Box3 N (.int .i64 k) (.int .i64 n) (.string s) u
  x : Box4 M (.int .i64 kind) (.int .i64 k') (.int .i64 n') (.string s') u
  below : Below w.heap.size w u
section
variable {w : World} {N M : Nat} {k n : Int} {s : ByteArray} {kind k' n' : Int} {s' : ByteArray} {u : World}
theorem DdV.draw {c : Nat} {a : Option Addr} {len cap : Nat} {u' : World} (h : DdV w N M k n s kind k' n' s' u) (hd : Drawn c a len cap u u') (hc : c = w.heap.size + 1 + 1) (hN : w.heap.size + 2 < N) (hM : w.heap.size + 2 < M) : DdV w N M k n s kind k' n' s' u' :=
  ⟨h.R1.drawn hd (by omega), h.R2.drawn hd (by omega), h.m.drawn hd (by omega), h.x.drawn hd (by omega), h.below.trans (hd.ex.below (by omega) h.below.size)⟩
theorem DdV.xmsg (h : DdV w N M k n s kind k' n' s' u) (hN : w.heap.size + 2 < N) (hM : N < M) (a b : Int) (t : ByteArray) : DdV w N M k n s kind a b t (((u.setCell ⟨M, 1, none⟩ (.int .i64 a)).setCell ⟨M, 2, none⟩ (.int .i64 b)).setCell ⟨M, 3, none⟩ (.string t)) :=
  ⟨((h.R1.fard M 1 (by omega) _).fard M 2 (by omega) _).fard M 3 (by omega) _, ((h.R2.far M 1 (by omega) _).far M 2 (by omega) _).far M 3 (by omega) _, ((h.m.fard M 1 (by omega) _).fard M 2 (by omega) _).fard M 3 (by omega) _, ((h.x.set1 _).set2 _).set3 _, stB (stB (stB h.below (by omega) _) (by omega) _) (by omega) _⟩
theorem DdV.m0 (h : DdV w N M k n s kind k' n' s' u) (hN : w.heap.size + 2 < N) (hM : N < M) (a : Int) : DdV w N M a n s kind k' n' s' (u.setCell ⟨N, 0, none⟩ (.int .i64 a)) :=
  ⟨h.R1.fard N 0 (by omega) _, h.R2.far N 0 (by omega) _, h.m.set0d _, h.x.far N 0 (by omega) _, stB h.below (by omega) _⟩
theorem DdV.m1 (h : DdV w N M k n s kind k' n' s' u) (hN : w.heap.size + 2 < N) (hM : N < M) (a : Int) : DdV w N M k a s kind k' n' s' (u.setCell ⟨N, 1, none⟩ (.int .i64 a)) :=
  ⟨h.R1.fard N 1 (by omega) _, h.R2.far N 1 (by omega) _, h.m.set1d _, h.x.far N 1 (by omega) _, stB h.below (by omega) _⟩
theorem DdV.m2 (h : DdV w N M k n s kind k' n' s' u) (hN : w.heap.size + 2 < N) (hM : N < M) (t : ByteArray) : DdV w N M k n t kind k' n' s' (u.setCell ⟨N, 2, none⟩ (.string t)) :=
  ⟨h.R1.fard N 2 (by omega) _, h.R2.far N 2 (by omega) _, h.m.set2d _, h.x.far N 2 (by omega) _, stB h.below (by omega) _⟩
end
/-- What is drawn. -/
def DrP (w : World) (e : Ending) (w' : World) : Prop := ∃ (k n : Int) (s : ByteArray) (kind k' n' : Int) (s' : ByteArray), e = .returned (.tuple #[.agg #[.int .i64 k, .int .i64 n, .string s], .agg #[.int .i64 kind, .int .i64 k', .int .i64 n', .string s']]) ∧ s.size ≤ 41 ∧ s'.size ≤ 41 ∧ -1 ≤ kind ∧ kind ≤ 5 ∧ Below w.heap.size w w'
set_option maxRecDepth 20000 in
set_option maxHeartbeats 4000000 in
theorem drawChanged_any (a : Option Addr) (len cap : Nat) (w : World) (hB : Bytes w.heap.size w a len cap) :
    Calls Try.prog 11 #[.slice a len cap] w fun e w' => DrP w e w' := by
  have bA : Below w.heap.size w ((w.alloc (.cells #[.int .i64 0, .int .i64 0, .string ⟨#[]⟩] 25)).alloc (.cells #[.int .i64 0, .int .i64 0, .int .i64 0, .string ⟨#[]⟩] 27)) := bl_alloc (bl_alloc (Below.refl _ _) _) _
  go_enter Try.func11, Try.ntmps11
  go_wp2_with fail
  refine (new_any a len cap _ (hB.laterC bA _ (by simp; omega))).mono ?_
  rintro e w1 ⟨rfl, hC, hb1⟩
  have r1 := ((Box3.new w (.int .i64 0) (.int .i64 0) (.string ⟨#[]⟩) 25).alloc (.cells #[.int .i64 0, .int .i64 0, .int .i64 0, .string ⟨#[]⟩] 27)).keep hb1
  have r2 := (Box4.new (w.alloc (.cells #[.int .i64 0, .int .i64 0, .string ⟨#[]⟩] 25)) (.int .i64 0) (.int .i64 0) (.int .i64 0) (.string ⟨#[]⟩) 27).keep hb1
  have hb : Below w.heap.size w w1 := bl_trans bA hb1
  clear hb1 bA hB
  simp only [World.size_alloc] at hC r1 r2
  have hlt1 := hC.lt
  have hn12 : ¬ w.heap.size = w.heap.size + 1 := by omega
  go_wp2_with fail
  refine (msg_any a len cap _ _ hC).mono ?_
  rintro e w2 ⟨k, n, s, rfl, hs, hd2⟩
  have r1' := (r1.drawn hd2 (by omega)).alloc (.cells #[.int .i64 k, .int .i64 n, .string s] 25)
  have r2' := (r2.drawn hd2 (by omega)).alloc (.cells #[.int .i64 k, .int .i64 n, .string s] 25)
  have m2 := Box3.new w2 (.int .i64 k) (.int .i64 n) (.string s) 25
  have hB2 : Below w.heap.size w w2 := hb.trans (hd2.ex.below (by omega) hb.size)
  have hC2 := hd2.cur
  have hN : w.heap.size + 2 < w2.heap.size := by have := hC2.lt; omega
  have hs2 := hd2.ex.size
  clear r1 r2 hd2 hC hb
  go_wp2_with fail
  refine (l7Change_any a len cap _ _ (hC2.alloc _)).mono ?_
  rintro e w3 ⟨kind, k', n', s', rfl, hk0, hk1, hs', hd3⟩
  have bX : Below w3.heap.size w3 (w3.alloc (.cells #[.int .i64 kind, .int .i64 k', .int .i64 n', .string s'] 27)) := bl_alloc (Below.refl _ _) _
  have hM : w2.heap.size < w3.heap.size := by have := hd3.ex.size; simp at this; omega
  have V3 : DdV w w2.heap.size w3.heap.size k n s kind k' n' s' (w3.alloc (.cells #[.int .i64 kind, .int .i64 k', .int .i64 n', .string s'] 27)) :=
    ⟨(r1'.drawn hd3 (by omega)).keep bX, (r2'.drawn hd3 (by omega)).keep bX, (m2.drawn hd3 (by omega)).keep bX, Box4.new w3 _ _ _ _ _, bl_alloc ((bl_alloc hB2 _).trans (hd3.ex.below (by omega) (bl_alloc hB2 _).size)) _⟩
  have hC3 := hd3.cur.alloc (.cells #[.int .i64 kind, .int .i64 k', .int .i64 n', .string s'] 27)
  have HV3 := hidOf V3
  clear V3 r1' r2' m2 bX hd3 hC2 hB2 hlt1
  have q1 : ¬ w2.heap.size = w.heap.size := by omega
  have q2 : ¬ w.heap.size = w2.heap.size := by omega
  have q3 : ¬ w2.heap.size = w.heap.size + 1 := by omega
  have q4 : ¬ w.heap.size + 1 = w2.heap.size := by omega
  have q5 : ¬ w3.heap.size = w.heap.size := by omega
  have q6 : ¬ w.heap.size = w3.heap.size := by omega
  have q7 : ¬ w3.heap.size = w.heap.size + 1 := by omega
  have q8 : ¬ w.heap.size + 1 = w3.heap.size := by omega
  have q9 : ¬ w3.heap.size = w2.heap.size := by omega
  have q10 : ¬ w2.heap.size = w3.heap.size := by omega
  go_wp2_with fail
  refine (once_any a len cap _ _ _ hC3 (by omega) (by omega)).mono ?_
  rintro e w4 ⟨b, rfl, hd4⟩
  have V4 := HV3.out.draw hd4 rfl hN (by omega)
  have hC4 := hd4.cur
  clear HV3 hd4 hC3
  cases b
  ·
    obtain ⟨_, p0, p1, p2, fr⟩ := id V4.R1
    obtain ⟨_, u0, u1, u2, u3, fu⟩ := id V4.R2
    obtain ⟨_, m0, m1, m2, fm⟩ := id V4.m
    obtain ⟨_, x0, x1, x2, x3, fx⟩ := id V4.x
    have HB := hidOf V4.below
    clear V4
    go_wp2_with fail
    go_region
    all_goals (try go_wp2)
    all_goals refine bodyPost_ret (v := .tuple #[.agg #[.int .i64 k, .int .i64 n, .string s], .agg #[.int .i64 kind, .int .i64 k', .int .i64 n', .string s']]) (by simp [results, Try.results11, go_sem, p0, p1, p2, u0, u1, u2, u3]) rfl ⟨_, _, _, _, _, _, _, rfl, by first | omega | decide, by omega, by omega, by omega, ?_⟩
    all_goals repeat (first | (with_reducible exact HB.out) | (with_reducible apply Below.drew) | (with_reducible refine stB ?_ (by omega) _))
  · have HV4 := hidOf V4
    clear V4
    go_wp2_with fail
    refine (msg_any a len cap _ _ hC4).mono ?_
    rintro e w5 ⟨k2, n2, s2, rfl, hs2', hd5⟩
    have V5 := HV4.out.draw hd5 rfl hN (by omega)
    obtain ⟨_, x0, x1, x2, x3, fx⟩ := id V5.x
    obtain ⟨_, m0, m1, m2, fm⟩ := id V5.m
    have V6 := (V5.xmsg hN hM k2 n2 s2).m0 hN hM k2
    clear hd5 HV4 hC4 V5
    by_cases hk2 : k2 = 1
    · subst hk2
      have V7 := V6.m2 hN hM ⟨#[]⟩
      have HV7 := hidOf V7
      clear V7 V6
      go_wp2_with fail
      clear x0 x1 x2 x3 fx m0 m1 m2 fm
      have V8 := HV7.out
      clear HV7
      obtain ⟨_, p0, p1, p2, fr⟩ := id V8.R1
      obtain ⟨_, u0, u1, u2, u3, fu⟩ := id V8.R2
      obtain ⟨_, m0, m1, m2, fm⟩ := id V8.m
      obtain ⟨_, x0, x1, x2, x3, fx⟩ := id V8.x
      have HB := hidOf V8.below
      clear V8
      go_wp2_with fail
      go_region
      all_goals (try go_wp2)
      all_goals refine bodyPost_ret (v := .tuple #[.agg #[.int .i64 1, .int .i64 n, .string (⟨#[]⟩ : ByteArray)], .agg #[.int .i64 kind, .int .i64 1, .int .i64 n2, .string s2]]) (by simp [results, Try.results11, go_sem, p0, p1, p2, u0, u1, u2, u3]) rfl ⟨_, _, _, _, _, _, _, rfl, by first | omega | decide, by omega, by omega, by omega, ?_⟩
      all_goals repeat (first | (with_reducible exact HB.out) | (with_reducible apply Below.drew) | (with_reducible refine stB ?_ (by omega) _))
    · have e1 : (k2 == 1) = false := by simp [hk2]
      have V7 := V6.m1 hN hM 0
      have HV7 := hidOf V7
      clear V7 V6
      go_wp2_with fail
      clear x0 x1 x2 x3 fx m0 m1 m2 fm
      have V8 := HV7.out
      clear HV7
      obtain ⟨_, p0, p1, p2, fr⟩ := id V8.R1
      obtain ⟨_, u0, u1, u2, u3, fu⟩ := id V8.R2
      obtain ⟨_, m0, m1, m2, fm⟩ := id V8.m
      obtain ⟨_, x0, x1, x2, x3, fx⟩ := id V8.x
      have HB := hidOf V8.below
      clear V8
      go_wp2_with fail
      go_region
      all_goals (try go_wp2)
      all_goals refine bodyPost_ret (v := .tuple #[.agg #[.int .i64 k2, .int .i64 0, .string s], .agg #[.int .i64 kind, .int .i64 k2, .int .i64 n2, .string s2]]) (by simp [results, Try.results11, go_sem, p0, p1, p2, u0, u1, u2, u3]) rfl ⟨_, _, _, _, _, _, _, rfl, by first | omega | decide, by omega, by omega, by omega, ?_⟩
      all_goals repeat (first | (with_reducible exact HB.out) | (with_reducible apply Below.drew) | (with_reducible refine stB ?_ (by omega) _))
end Go.Proofs.Ytllpcbdecibloaa
namespace Go.Proofs.Ytllpcbdecibloaa
open Go.RowKit Go.Maps Pl Il

theorem copied_row (a : Option Addr) (n cap : Nat) (xs : List Int) (w : World) (hI : IntsAt w a n xs) (hn : n ≤ 2097152) :
    Calls Try.prog 122 #[.slice a n cap] w fun e w' => ∃ a' c', e = .returned (.slice a' n c') ∧ w'.ownsRow w.heap.size 3 1 (.slice a' n c') n (intsV xs) ∧ Below w.heap.size w w' := by
  obtain ⟨v, w', hr, ho, hb⟩ := copied_run a n cap xs w hI hn
  obtain ⟨a', c', rfl, hO⟩ := own_of ho xs rfl
  have Hr := hidOf hr
  have HO := hidOf ho
  clear hr ho hI
  go_enter Try.func122, Try.ntmps122
  go_wp2_with (at_builtin; refine wpList_append_run rfl _ _ 35 rfl _ _ _ rfl rfl Hr.out ?_)
  go_ret
  exact ⟨a', c', rfl, HO.out, hb⟩
theorem implLeave_row (a : Option Addr) (n cap : Nat) (xs : List Int) (x : Int) (w : World) (hI : IntsAt w a n xs) (hn : n ≤ 2097152) (hw : wfL xs) (hx : (Lit.int .i64 x).wf = true) :
    Calls Try.prog 95 #[.slice a n cap, .int .i64 x] w fun e w' => ∃ a' m c', e = .returned (.tuple #[.slice a' m c', .int .i64 (leaveL xs x).2]) ∧ w'.ownsRow w.heap.size 3 1 (.slice a' m c') m (intsV (leaveL xs x).1) ∧ Below w.heap.size w w' := by
  have hlen := hI.len
  go_enter Try.func95, Try.ntmps95
  go_wp2_with fail
  refine (lineQueue_any a n cap xs _ hI hn hw).mono ?_
  rintro e w1 ⟨p, rfl, hq, hb⟩
  have HI := hidOf (hI.keep hb)
  clear hI
  cases hl : lineL xs
  · clear hq
    go_wp2_with fail
    refine (copied_row a n cap xs _ HI.out hn).mono ?_
    rintro e w2 ⟨a', c', rfl, ho, hb2⟩
    have HB := hidOf (And.intro (row_mono ho hb.size) (bl_trans hb hb2))
    clear ho hb2
    go_wp2
    go_ret2
    rw [leave_bad hl]
    exact ⟨_, _, _, rfl, HB.out.1, HB.out.2⟩
  · obtain ⟨qb, rfl, hQ⟩ := hq hl
    have hnd := nodup_line hl
    have h32 := line_len hl
    go_wp2_with fail
    refine (placeOf_any _ qb xs [] x _ hQ hx).mono ?_
    rintro e w3 ⟨rfl, rfl⟩
    have hs := place_isSome xs x
    generalize hgp : placeG xs [] x = pp at hs
    cases hh : hasL xs x
    · rw [hh] at hs
      go_wp2_with fail
      refine (copied_row a n cap xs _ HI.out hn).mono ?_
      rintro e w4 ⟨a', c', rfl, ho, hb2⟩
      have HB := hidOf (And.intro (row_mono ho hb.size) (bl_trans hb hb2))
      clear ho hb2 hQ
      go_wp2
      go_ret2
      rw [leave_none hl hh]
      exact ⟨_, _, _, rfl, HB.out.1, HB.out.2⟩
    · rw [hh] at hs
      go_wp2_with fail
      refine (leave_any _ qb xs [] x _ hQ hx).mono ?_
      rintro e w4 ⟨rfl, hQ4, hb4⟩
      have hS := standing_any _ qb xs [x] w4 hQ4 hw (by omega)
      rw [stand_less hnd x] at hS
      have HS := hidOf hS
      clear hS hQ4 hQ
      go_wp2_with fail
      refine HS.out.mono ?_
      rintro e w5 ⟨v, rfl, ho, hb5⟩
      obtain ⟨a', c', rfl, _⟩ := own_of ho _ rfl
      have HB := hidOf (And.intro (row_mono ho (hb.trans hb4).size) (bl_trans (hb.trans hb4) hb5))
      clear ho
      go_wp2
      go_ret2
      rw [leave_done hl hh]
      exact ⟨_, _, _, rfl, HB.out.1, HB.out.2⟩
theorem implWake_row (a : Option Addr) (n cap : Nat) (xs : List Int) (k : Int) (w : World) (hI : IntsAt w a n xs) (hn : n ≤ 2097152) (hw : wfL xs) :
    Calls Try.prog 152 #[.slice a n cap, .int .i64 k] w fun e w' => ∃ a1 m1 c1 a2 m2 c2, e = .returned (.tuple #[.slice a1 m1 c1, .slice a2 m2 c2]) ∧ Apart w a1 m1 (wakeRest xs k) a2 m2 (wakeOut xs k) w' ∧ w'.ownsRow w.heap.size 3 1 (.slice a1 m1 c1) m1 (intsV (wakeRest xs k)) ∧ (∀ q, (Value.slice a1 m1 c1).ownBlock = some q → m2 = 0 ∨ ∀ b off, a2 = some ⟨b, off, none⟩ → b ≠ q) := by
  have hlen := hI.len
  go_enter Try.func152, Try.ntmps152
  go_wp2_with fail
  refine (lineQueue_any a n cap xs _ hI hn hw).mono ?_
  rintro e w1 ⟨p, rfl, hq, hb⟩
  have HI := hidOf (hI.keep hb)
  clear hI
  cases hl : lineL xs
  · clear hq
    go_wp2_with fail
    refine (copied_row a n cap xs _ HI.out hn).mono ?_
    rintro e w2 ⟨a', c', rfl, ho, hb2⟩
    have HB := hidOf (And.intro (Back.of hb (row_own ho).1 hb2) (row_mono ho hb.size))
    have HW := hidOf (wake_bad (k := k) (.inl hl))
    clear ho hb2
    go_wp2
    go_ret2
    rw [HW.out.1, HW.out.2]
    exact ⟨_, _, _, _, _, _, rfl, ⟨HB.out.1.own, ⟨⟨rfl, .inl rfl⟩, .inl rfl⟩, .inr (.inl rfl), HB.out.1.below⟩, HB.out.2, fun q e => .inl rfl⟩
  · obtain ⟨qb, rfl, hQ⟩ := hq hl
    have hnd := nodup_line hl
    have h32 := line_len hl
    by_cases hk : k < 0
    · have HW := hidOf (wake_bad (xs := xs) (.inr hk))
      clear hQ hq
      go_wp2_with fail
      refine (copied_row a n cap xs _ HI.out hn).mono ?_
      rintro e w2 ⟨a', c', rfl, ho, hb2⟩
      have HB := hidOf (And.intro (Back.of hb (row_own ho).1 hb2) (row_mono ho hb.size))
      clear ho hb2
      go_wp2
      go_ret2
      rw [HW.out.1, HW.out.2]
      exact ⟨_, _, _, _, _, _, rfl, ⟨HB.out.1.own, ⟨⟨rfl, .inl rfl⟩, .inl rfl⟩, .inr (.inl rfl), HB.out.1.below⟩, HB.out.2, fun q e => .inl rfl⟩
    · have hk0 : 0 ≤ k := by omega
      have HW := hidOf (wake_good hl hk0)
      have hwk := wake_any _ qb xs (wakeN xs k) w1 hQ hw hnd h32 (wakeN_le xs k hk0) k (by
        by_cases h : k > (xs.length : Int)
        · right; rw [wakeN_over h]; omega
        · left; rw [wakeN_in h]; omega)
      have HWk := hidOf hwk
      clear hwk hQ hq
      go_wp2_with fail
      refine HWk.out.mono ?_
      rintro e w2 ⟨a2, c2, rfl, ho2, hQ2, hb2⟩
      have hS := standing_any _ qb xs (xs.take (wakeN xs k)) w2 hQ2 hw (by omega)
      rw [stand_rest hnd] at hS
      have HS := hidOf hS
      have HO2 := hidOf ho2
      clear hS hQ2 HWk ho2
      generalize wakeN xs k = m at *
      go_wp2_with fail
      refine HS.out.mono ?_
      rintro e w3 ⟨v, rfl, ho, hb3⟩
      generalize (xs.drop m).length = ml at ho
      obtain ⟨a1, c1, rfl, hO⟩ := own_of ho _ rfl
      have hb12 : Below w.heap.size w w2 := hb.trans hb2
      have hAp : Apart w a1 ml (xs.drop m) a2 m (xs.take m) w3 := by
        refine ⟨hO.mono hb12.size, (HO2.out.keep hb3).mono hb.size, ?_, bl_trans hb12 hb3⟩
        rcases hO.own with h0 | ⟨b, off, rfl, hB, _⟩
        · exact .inl h0
        · rcases HO2.out.ints.row with h0 | ⟨b', off', rfl, hlt, _⟩
          · exact .inr (.inl h0)
          · refine .inr (.inr fun x ox y oy e e' => ?_)
            cases e; cases e'
            omega
      have hrow := row_mono ho hb12.size
      have hneq : ∀ q, (Value.slice a1 ml c1).ownBlock = some q → m = 0 ∨ ∀ b off, a2 = some ⟨b, off, none⟩ → b ≠ q := fun q e => by
        have hq := (ho.lt q e).1
        rcases HO2.out.ints.row with h0 | ⟨b', off', rfl, hlt, _⟩
        · exact .inl h0
        · exact .inr fun b off e' => by cases e'; omega
      have HB := hidOf (And.intro hAp (And.intro hrow hneq))
      clear ho hO hAp hrow hneq
      go_wp2
      go_ret2
      rw [HW.out.1, HW.out.2]
      exact ⟨_, _, _, _, _, _, rfl, HB.out.1, HB.out.2.1, HB.out.2.2⟩
end Go.Proofs.Ytllpcbdecibloaa
