/-
  Walks of the specification's draws: a change; a message and a change.
-/
import Derived.Test.YtigmcbgcdjofjaaE4
import Derived.Test.YtigmcbgcdjofjaaBQ
namespace Go.Proofs.Ytigmcbgcdjofjaa
open Go.RowKit Pl Il Dr

theorem Box4.drawn {N : Nat} {v0 v1 v2 v3 : Value} {c : Nat} {a : Option Addr} {len cap : Nat} {w u : World} (h : Box4 N v0 v1 v2 v3 w) (hd : Drawn c a len cap w u) (hn : N ≠ c) : Box4 N v0 v1 v2 v3 u where
  lt := Nat.lt_of_lt_of_le h.lt hd.ex.size
  c0 := by rw [hd.ex.cell h.lt hn]; exact h.c0
  c1 := by rw [hd.ex.cell h.lt hn]; exact h.c1
  c2 := by rw [hd.ex.cell h.lt hn]; exact h.c2
  c3 := by rw [hd.ex.cell h.lt hn]; exact h.c3
  fr := fun o => by rw [hd.ex.frozen h.lt hn]; exact h.fr o
theorem Box4.set1 {N : Nat} {v0 v1 v2 v3 : Value} {w : World} (h : Box4 N v0 v1 v2 v3 w) (y : Value) : Box4 N v0 y v2 v3 (w.setCell ⟨N, 1, none⟩ y) :=
  ⟨by simpa using h.lt, by rw [World.cell?_setCell_other _ _ _ _ (by simp)]; exact h.c0, World.cell?_setCell_same _ _ _ h.c1, by rw [World.cell?_setCell_other _ _ _ _ (by simp)]; exact h.c2, by rw [World.cell?_setCell_other _ _ _ _ (by simp)]; exact h.c3, fun k => by simpa using h.fr k⟩
theorem Box4.set2 {N : Nat} {v0 v1 v2 v3 : Value} {w : World} (h : Box4 N v0 v1 v2 v3 w) (y : Value) : Box4 N v0 v1 y v3 (w.setCell ⟨N, 2, none⟩ y) :=
  ⟨by simpa using h.lt, by rw [World.cell?_setCell_other _ _ _ _ (by simp)]; exact h.c0, by rw [World.cell?_setCell_other _ _ _ _ (by simp)]; exact h.c1, World.cell?_setCell_same _ _ _ h.c2, by rw [World.cell?_setCell_other _ _ _ _ (by simp)]; exact h.c3, fun k => by simpa using h.fr k⟩
theorem Box4.set3 {N : Nat} {v0 v1 v2 v3 : Value} {w : World} (h : Box4 N v0 v1 v2 v3 w) (y : Value) : Box4 N v0 v1 v2 y (w.setCell ⟨N, 3, none⟩ y) :=
  ⟨by simpa using h.lt, by rw [World.cell?_setCell_other _ _ _ _ (by simp)]; exact h.c0, by rw [World.cell?_setCell_other _ _ _ _ (by simp)]; exact h.c1, by rw [World.cell?_setCell_other _ _ _ _ (by simp)]; exact h.c2, World.cell?_setCell_same _ _ _ h.c3, fun k => by simpa using h.fr k⟩
/-- A change's variable while it is drawn, and the one that is answered. -/
structure DcV (w : World) (c : Nat) (a : Option Addr) (len cap N : Nat) (kind k n : Int) (s : ByteArray) (u : World) : Prop where
  D : Drawn c a len cap w u
  R : Box4 w.heap.size (.int .i64 0) (.int .i64 0) (.int .i64 0) (.string ⟨#[]⟩) u
  X : Box4 N (.int .i64 kind) (.int .i64 k) (.int .i64 n) (.string s) u
theorem DcV.draw {w : World} {c : Nat} {a : Option Addr} {len cap N : Nat} {kind k n : Int} {s : ByteArray} {u u' : World} (h : DcV w c a len cap N kind k n s u) (hd : Drawn c a len cap u u') (h1 : w.heap.size ≠ c) (h2 : N ≠ c) : DcV w c a len cap N kind k n s u' :=
  ⟨h.D.trans hd, h.R.drawn hd h1, h.X.drawn hd h2⟩
theorem DcV.msg {w : World} {c : Nat} {a : Option Addr} {len cap N : Nat} {kind k n : Int} {s : ByteArray} {u : World} (h : DcV w c a len cap N kind k n s u) (hC : Cur c a len cap w) (hN : w.heap.size < N) (k' n' : Int) (s' : ByteArray) :
    DcV w c a len cap N kind k' n' s' (((u.setCell ⟨N, 1, none⟩ (.int .i64 k')).setCell ⟨N, 2, none⟩ (.int .i64 n')).setCell ⟨N, 3, none⟩ (.string s')) :=
  ⟨((h.D.store hC ⟨N, 1, none⟩ (Nat.le_of_lt hN) _).store hC ⟨N, 2, none⟩ (Nat.le_of_lt hN) _).store hC ⟨N, 3, none⟩ (Nat.le_of_lt hN) _, ((h.R.far N 1 (by omega) _).far N 2 (by omega) _).far N 3 (by omega) _, ((h.X.set1 _).set2 _).set3 _⟩
theorem DcV.kind {w : World} {c : Nat} {a : Option Addr} {len cap N : Nat} {kind k n : Int} {s : ByteArray} {u : World} (h : DcV w c a len cap N kind k n s u) (hC : Cur c a len cap w) (hN : w.heap.size < N) (kind' : Int) : DcV w c a len cap N kind' k n s (u.setCell ⟨N, 0, none⟩ (.int .i64 kind')) :=
  ⟨h.D.store hC ⟨N, 0, none⟩ (Nat.le_of_lt hN) _, h.R.far N 0 (by omega) _, h.X.set0 _⟩
theorem DcV.fin {w : World} {c : Nat} {a : Option Addr} {len cap N : Nat} {kind k n : Int} {s : ByteArray} {u : World} (h : DcV w c a len cap N kind k n s u) (hC : Cur c a len cap w) (x0 x1 x2 x3 : Value) :
    Drawn c a len cap w ((((u.setCell ⟨w.heap.size, 0, none⟩ x0).setCell ⟨w.heap.size, 1, none⟩ x1).setCell ⟨w.heap.size, 2, none⟩ x2).setCell ⟨w.heap.size, 3, none⟩ x3) :=
  (((h.D.store hC ⟨w.heap.size, 0, none⟩ (Nat.le_refl _) _).store hC ⟨w.heap.size, 1, none⟩ (Nat.le_refl _) _).store hC ⟨w.heap.size, 2, none⟩ (Nat.le_refl _) _).store hC ⟨w.heap.size, 3, none⟩ (Nat.le_refl _) _
set_option maxHeartbeats 4000000 in
theorem l7Change_any (a : Option Addr) (len cap : Nat) (c : Nat) (w : World) (hC : Cur c a len cap w) :
    Calls Try.prog 90 #[.pointer (some ⟨c, 0, none⟩)] w fun e w' => ∃ (kind k n : Int) (s : ByteArray), e = .returned (.agg #[.int .i64 kind, .int .i64 k, .int .i64 n, .string s]) ∧ -1 ≤ kind ∧ kind ≤ 5 ∧ s.size ≤ 41 ∧ Drawn c a len cap w w' := by
  have hlt := hC.lt
  have hne : w.heap.size ≠ c := by omega
  have HC := hidOf hC
  clear hC
  go_enter Try.func90, Try.ntmps90
  go_wp2_with fail
  refine (below_any a len cap c _ _ (HC.out.alloc _) (by omega) (by omega)).mono ?_
  rintro e w1 ⟨x, rfl, x0, x1, hd1⟩
  have r1 := (Box4.new w (.int .i64 0) (.int .i64 0) (.int .i64 0) (.string ⟨#[]⟩) 57).drawn hd1 hne
  have hD1 : Drawn c a len cap w w1 := ((Drawn.start HC.out).alloc _).trans hd1
  clear hd1
  go_wp2_with fail
  refine (msg_any a len cap c _ hD1.cur).mono ?_
  rintro e w2 ⟨k, n, s, rfl, hs, hd2⟩
  have r2 := r1.drawn hd2 hne
  have hD2 := hD1.trans hd2
  have hN : w.heap.size < w2.heap.size := r2.lt
  have hNc : w2.heap.size ≠ c := by omega
  have V3 : DcV w c a len cap w2.heap.size (1 + x) k n s (w2.alloc (.cells #[.int .i64 (1 + x), .int .i64 k, .int .i64 n, .string s] 57)) := ⟨hD2.alloc _, r2.alloc _, Box4.new w2 _ _ _ _ _⟩
  have HV3 := hidOf V3
  clear V3 r1 r2 hD1 hD2 hd2
  go_wp2_with fail
  refine (once_any a len cap c _ _ HV3.out.D.cur (by omega) (by omega)).mono ?_
  rintro e w4 ⟨b, rfl, hd4⟩
  have V4 := HV3.out.draw hd4 hne hNc
  clear hd4 HV3
  cases b
  · -- the message stays
    have HV := hidOf V4
    clear V4
    go_wp2_with fail
    refine (once_any a len cap c _ _ HV.out.D.cur (by omega) (by omega)).mono ?_
    rintro e w6 ⟨y, rfl, hd6⟩
    have V6 := HV.out.draw hd6 hne hNc
    clear hd6 HV
    cases y
    · -- the kind stays
      have HF := hidOf (V6.fin HC.out (.int .i64 (1 + x)) (.int .i64 k) (.int .i64 n) (.string s))
      obtain ⟨_, r0, r1, r2, r3, rf⟩ := id V6.R
      obtain ⟨_, x0, x1, x2, x3, xf⟩ := id V6.X
      clear V6
      go_wp2
      refine bodyPost_ret (v := .agg #[.int .i64 (1 + x), .int .i64 k, .int .i64 n, .string s]) (by simp [results, Try.results90, go_sem, r0, r1, r2, r3]) rfl ⟨_, _, _, _, rfl, by omega, by omega, by omega, HF.out⟩
    · have HV6 := hidOf V6
      clear V6
      go_wp2_with fail
      refine (below_any a len cap c _ _ HV6.out.D.cur (by omega) (by omega)).mono ?_
      rintro e w7 ⟨z, rfl, z0, z1, hd7⟩
      have V7 := HV6.out.draw hd7 hne hNc
      obtain ⟨_, y0, y1, y2, y3, yf⟩ := id V7.X
      have V8 := V7.kind HC.out hN (z - 1)
      clear hd7 HV6 V7
      have HF := hidOf (V8.fin HC.out (.int .i64 (z - 1)) (.int .i64 k) (.int .i64 n) (.string s))
      obtain ⟨_, r0, r1, r2, r3, rf⟩ := id V8.R
      obtain ⟨_, x0, x1, x2, x3, xf⟩ := id V8.X
      clear V8
      go_wp2
      refine bodyPost_ret (v := .agg #[.int .i64 (z - 1), .int .i64 k, .int .i64 n, .string s]) (by simp [results, Try.results90, go_sem, r0, r1, r2, r3]) rfl ⟨_, _, _, _, rfl, by omega, by omega, by omega, HF.out⟩
  · have HV4 := hidOf V4
    clear V4
    go_wp2_with fail
    refine (anyMsg_any a len cap c _ HV4.out.D.cur).mono ?_
    rintro e w5 ⟨k', n', s', rfl, hs', hd5⟩
    have V5 := HV4.out.draw hd5 hne hNc
    obtain ⟨_, y0, y1, y2, y3, yf⟩ := id V5.X
    have V5' := V5.msg HC.out hN k' n' s'
    clear hd5 HV4 V5
    have HV := hidOf V5'
    clear V5'
    go_wp2_with fail
    refine (once_any a len cap c _ _ HV.out.D.cur (by omega) (by omega)).mono ?_
    rintro e w6 ⟨y, rfl, hd6⟩
    have V6 := HV.out.draw hd6 hne hNc
    clear hd6 HV
    cases y
    · -- the kind stays
      have HF := hidOf (V6.fin HC.out (.int .i64 (1 + x)) (.int .i64 k') (.int .i64 n') (.string s'))
      obtain ⟨_, r0, r1, r2, r3, rf⟩ := id V6.R
      obtain ⟨_, x0, x1, x2, x3, xf⟩ := id V6.X
      clear V6
      go_wp2
      refine bodyPost_ret (v := .agg #[.int .i64 (1 + x), .int .i64 k', .int .i64 n', .string s']) (by simp [results, Try.results90, go_sem, r0, r1, r2, r3]) rfl ⟨_, _, _, _, rfl, by omega, by omega, by omega, HF.out⟩
    · have HV6 := hidOf V6
      clear V6
      go_wp2_with fail
      refine (below_any a len cap c _ _ HV6.out.D.cur (by omega) (by omega)).mono ?_
      rintro e w7 ⟨z, rfl, z0, z1, hd7⟩
      have V7 := HV6.out.draw hd7 hne hNc
      obtain ⟨_, y0, y1, y2, y3, yf⟩ := id V7.X
      have V8 := V7.kind HC.out hN (z - 1)
      clear hd7 HV6 V7
      have HF := hidOf (V8.fin HC.out (.int .i64 (z - 1)) (.int .i64 k') (.int .i64 n') (.string s'))
      obtain ⟨_, r0, r1, r2, r3, rf⟩ := id V8.R
      obtain ⟨_, x0, x1, x2, x3, xf⟩ := id V8.X
      clear V8
      go_wp2
      refine bodyPost_ret (v := .agg #[.int .i64 (z - 1), .int .i64 k', .int .i64 n', .string s']) (by simp [results, Try.results90, go_sem, r0, r1, r2, r3]) rfl ⟨_, _, _, _, rfl, by omega, by omega, by omega, HF.out⟩
end Go.Proofs.Ytigmcbgcdjofjaa
