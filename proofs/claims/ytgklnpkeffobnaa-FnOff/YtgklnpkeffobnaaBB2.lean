/-
  Tokens in memory, and walks of the laws' own helpers on them.
-/
import Derived.Test.YtgklnpkeffobnaaBB1
namespace Go.Proofs.Ytgklnpkeffobnaa
open Go.RowKit Pl Il

/-- A variable of two cells in block N. -/
structure Box2 (N : Nat) (v0 v1 : Value) (w : World) : Prop where
  lt : N < w.heap.size
  c0 : w.cell? ⟨N, 0, none⟩ = some v0
  c1 : w.cell? ⟨N, 1, none⟩ = some v1
  fr : ∀ o, w.frozen? ⟨N, o, none⟩ = false
theorem Box2.new (w : World) (v0 v1 : Value) (t : TypeId) : Box2 w.heap.size v0 v1 (w.alloc (.cells #[v0, v1] t)) :=
  ⟨by simp, by simp, by simp, fun o => by simp [go_sem]⟩
theorem Box2.keep {N : Nat} {v0 v1 : Value} {w u : World} (h : Box2 N v0 v1 w) (hb : Below w.heap.size w u) : Box2 N v0 v1 u where
  lt := Nat.lt_of_lt_of_le h.lt hb.size
  c0 := by rw [hb.cell (p := ⟨N, 0, none⟩) h.lt]; exact h.c0
  c1 := by rw [hb.cell (p := ⟨N, 1, none⟩) h.lt]; exact h.c1
  fr := fun o => by rw [hb.frozen (p := ⟨N, o, none⟩) h.lt]; exact h.fr o
theorem Box2.alloc {N : Nat} {v0 v1 : Value} {w : World} (h : Box2 N v0 v1 w) (o : Obj) : Box2 N v0 v1 (w.alloc o) := h.keep (bl_alloc (Below.refl _ _) o)
theorem Box2.far {N : Nat} {v0 v1 : Value} {w : World} (h : Box2 N v0 v1 w) (M o : Nat) (hM : N ≠ M) (x : Value) : Box2 N v0 v1 (w.setCell ⟨M, o, none⟩ x) := by
  have key : (w.setCell ⟨M, o, none⟩ x).heap[N]? = w.heap[N]? := Below.heap_setCell w ⟨M, o, none⟩ x N hM
  exact ⟨by simpa using h.lt, by rw [← h.c0]; exact World.cell?_of_block key, by rw [← h.c1]; exact World.cell?_of_block key, fun k => by rw [← h.fr k]; exact World.frozen?_of_block key⟩
theorem Box2.set0 {N : Nat} {v0 v1 : Value} {w : World} (h : Box2 N v0 v1 w) (x : Value) : Box2 N x v1 (w.setCell ⟨N, 0, none⟩ x) :=
  ⟨by simpa using h.lt, World.cell?_setCell_same _ _ _ h.c0, by rw [World.cell?_setCell_other _ _ _ _ (by simp)]; exact h.c1, fun k => by simpa using h.fr k⟩
theorem Box2.set1 {N : Nat} {v0 v1 : Value} {w : World} (h : Box2 N v0 v1 w) (x : Value) : Box2 N v0 x (w.setCell ⟨N, 1, none⟩ x) :=
  ⟨by simpa using h.lt, by rw [World.cell?_setCell_other _ _ _ _ (by simp)]; exact h.c0, World.cell?_setCell_same _ _ _ h.c1, fun k => by simpa using h.fr k⟩

/-- Tokens that may be read. -/
structure TokIn (w : World) (a : Option Addr) (n : Nat) (ps : List Int) (a' : Option Addr) (n' : Nat) (qs : List Bool) : Prop where
  ints : IntsAt w a n ps
  bools : BoolsAt w a' n' qs
theorem TokIn.keep {w w' : World} {a : Option Addr} {n : Nat} {ps : List Int} {a' : Option Addr} {n' : Nat} {qs : List Bool} (h : TokIn w a n ps a' n' qs) (hb : Below w.heap.size w w') : TokIn w' a n ps a' n' qs := ⟨h.ints.keep hb, h.bools.keep hb⟩
/-- Tokens whose two lists lie in new memory, apart from one another. -/
structure TokOwn (B : Nat) (w : World) (a : Option Addr) (n : Nat) (ps : List Int) (a' : Option Addr) (n' : Nat) (qs : List Bool) : Prop where
  one : Il.OwnAt B w a n ps
  two : Il.OwnB B w a' n' qs
  apart : n = 0 ∨ n' = 0 ∨ ∀ b off b' off', a = some ⟨b, off, none⟩ → a' = some ⟨b', off', none⟩ → b ≠ b'
theorem TokOwn.tin {B : Nat} {w : World} {a : Option Addr} {n : Nat} {ps : List Int} {a' : Option Addr} {n' : Nat} {qs : List Bool} (h : TokOwn B w a n ps a' n' qs) : TokIn w a n ps a' n' qs := ⟨h.one.ints, h.two.ints⟩
theorem TokOwn.keep {B : Nat} {w w' : World} {a : Option Addr} {n : Nat} {ps : List Int} {a' : Option Addr} {n' : Nat} {qs : List Bool} (h : TokOwn B w a n ps a' n' qs) (hb : Below w.heap.size w w') : TokOwn B w' a n ps a' n' qs := ⟨h.one.keep hb, h.two.keep hb, h.apart⟩
theorem TokOwn.mono {B B' : Nat} {w : World} {a : Option Addr} {n : Nat} {ps : List Int} {a' : Option Addr} {n' : Nat} {qs : List Bool} (h : TokOwn B w a n ps a' n' qs) (hB : B' ≤ B) : TokOwn B' w a n ps a' n' qs := ⟨h.one.mono hB, h.two.mono hB, h.apart⟩

theorem szIntS_any (a : Option Addr) (n cap : Nat) (k : Int) (w : World) (hn : n ≤ 9223372036854775807) (k0 : 0 ≤ k) (k1 : k ≤ 1048576) :
    Calls Try.prog 47 #[.slice a n cap, .int .i64 k] w fun e w' => e = .returned (.int .i64 (if k < (n : Int) then -1 else k - (n : Int))) ∧ w' = w := by
  by_cases h : k < (n : Int)
  · have h' : k - (n : Int) < 0 := by omega
    go_enter Try.func47, Try.ntmps47
    go_wp2
    go_ret
    refine ⟨rint ?_, rfl⟩
    simp
  · have h' : ¬ k - (n : Int) < 0 := by omega
    go_enter Try.func47, Try.ntmps47
    go_wp2
    go_ret
    refine ⟨rint ?_, rfl⟩
    simp
theorem szBoolS_any (a : Option Addr) (n cap : Nat) (k : Int) (w : World) (hn : n ≤ 9223372036854775807) (k0 : 0 ≤ k) (k1 : k ≤ 1048576) :
    Calls Try.prog 48 #[.slice a n cap, .int .i64 k] w fun e w' => e = .returned (.int .i64 (if k < (n : Int) then -1 else k - (n : Int))) ∧ w' = w := by
  by_cases h : k < (n : Int)
  · have h' : k - (n : Int) < 0 := by omega
    go_enter Try.func48, Try.ntmps48
    go_wp2
    go_ret
    refine ⟨rint ?_, rfl⟩
    simp
  · have h' : ¬ k - (n : Int) < 0 := by omega
    go_enter Try.func48, Try.ntmps48
    go_wp2
    go_ret
    refine ⟨rint ?_, rfl⟩
    simp

/-- Too great together, or not. -/
theorem szTokens_any (a : Option Addr) (n c : Nat) (a' : Option Addr) (n' c' : Nat) (w : World) (hn : n ≤ 9223372036854775807) (hn' : n' ≤ 9223372036854775807) :
    Calls Try.prog 21 #[.agg #[.slice a n c, .slice a' n' c'], .int .i64 1048576] w fun e w' => (∃ k : Int, e = .returned (.int .i64 k) ∧ (k < 0 ∨ 0 ≤ k ∧ n + n' ≤ 1048576)) ∧ Below w.heap.size w w' := by
  have hb : Below w.heap.size w (w.alloc (.cells #[.slice a n c, .slice a' n' c'] 40)) := bl_alloc (Below.refl _ _) _
  go_enter Try.func21, Try.ntmps21
  go_wp2_with fail
  refine (szIntS_any a n c _ _ hn (by omega) (by omega)).mono ?_
  rintro e w1 ⟨rfl, rfl⟩
  by_cases h : (1048576 : Int) < (n : Int)
  · rw [if_pos h]
    go_wp2
    go_ret
    exact ⟨⟨_, rfl, .inl (by omega)⟩, hb⟩
  · rw [if_neg h]
    have h' : ¬ (1048576 : Int) - (n : Int) < 0 := by omega
    go_wp2_with fail
    refine (szBoolS_any a' n' c' _ _ hn' (by omega) (by omega)).mono ?_
    rintro e w2 ⟨rfl, rfl⟩
    by_cases h2 : (1048576 : Int) - (n : Int) < (n' : Int)
    · rw [if_pos h2]
      go_wp2
      go_ret
      exact ⟨⟨_, rfl, .inl (by omega)⟩, hb⟩
    · rw [if_neg h2]
      have h2' : ¬ (1048576 : Int) - (n : Int) - (n' : Int) < 0 := by omega
      go_wp2
      go_ret
      exact ⟨⟨_, rfl, .inr ⟨by omega, by omega⟩⟩, hb⟩

theorem toTokens_any (a : Option Addr) (n c : Nat) (ps : List Int) (a' : Option Addr) (n' c' : Nat) (qs : List Bool) (w : World) (hT : TokIn w a n ps a' n' qs) (hn : n ≤ 2097152) (hn' : n' ≤ 2097152) :
    Calls Try.prog 23 #[.agg #[.slice a n c, .slice a' n' c']] w fun e w' => ∃ g g', e = .returned (.agg #[.slice (some ⟨g, 0, none⟩) n n, .slice (some ⟨g', 0, none⟩) n' n']) ∧ TokOwn w.heap.size w' (some ⟨g, 0, none⟩) n ps (some ⟨g', 0, none⟩) n' qs ∧ Below w.heap.size w w' := by
  generalize hW0 : w.alloc (.cells #[.slice a n c, .slice a' n' c'] 40) = W0
  generalize hW1 : W0.alloc (.cells #[.slice none 0 0, .slice none 0 0] 27) = W1
  generalize hW2 : W1.alloc (.cells #[.slice none 0 0, .slice none 0 0] 27) = W2
  have b0 : Below w.heap.size w W0 := by subst hW0; exact bl_alloc (Below.refl _ _) _
  have b1 : Below w.heap.size w W1 := by subst hW1; exact bl_alloc b0 _
  have b2 : Below w.heap.size w W2 := by subst hW2; exact bl_alloc b1 _
  have s0 : W0.heap.size = w.heap.size + 1 := by subst hW0; simp
  have s1 : W1.heap.size = w.heap.size + 2 := by subst hW1; simp [s0]
  have s2 : W2.heap.size = w.heap.size + 3 := by subst hW2; simp [s1]
  have x0 : Box2 w.heap.size (.slice a n c) (.slice a' n' c') W2 := by subst hW2 hW1 hW0; exact ((Box2.new w _ _ _).alloc _).alloc _
  have x1 : Box2 (w.heap.size + 1) (.slice none 0 0) (.slice none 0 0) W2 := by subst hW2 hW1; rw [← s0]; exact (Box2.new W0 _ _ _).alloc _
  have x2 : Box2 (w.heap.size + 2) (.slice none 0 0) (.slice none 0 0) W2 := by subst hW2; rw [← s1]; exact Box2.new W1 _ _ _
  have hT2 := hT.keep b2
  obtain ⟨_, p0, p1, _⟩ := id x0
  have X0 := hidOf x0
  have X1 := hidOf x1
  have X2 := hidOf x2
  have HT := hidOf hT
  clear hT x0 x1 x2
  go_enter Try.func23, Try.ntmps23
  go_wp2_with fail
  refine (toIntS_any a n c ps _ hT2.ints hn).mono ?_
  rintro e w1 ⟨rfl, ho1, hb1⟩
  clear p0 p1
  have x0 := X0.out.keep hb1
  have x1 := X1.out.keep hb1
  have x2 := X2.out.keep hb1
  have hbA := bl_trans b2 hb1
  clear hT2 X0 X1 X2 hb1 hW0 hW1 hW2 b0 b1 b2
  rw [s2] at ho1 ⊢
  have y0 := x0.far (w.heap.size + 2) 0 (by omega) (.slice (some ⟨w.heap.size + 3, 0, none⟩) n n)
  have y1 := x1.far (w.heap.size + 2) 0 (by omega) (.slice (some ⟨w.heap.size + 3, 0, none⟩) n n)
  have y2 := x2.set0 (.slice (some ⟨w.heap.size + 3, 0, none⟩) n n)
  have hbB := hbA.setCell (p := ⟨w.heap.size + 2, 0, none⟩) (by simp) (.slice (some ⟨w.heap.size + 3, 0, none⟩) n n)
  have ho2 := ho1.far (w.heap.size + 2) 0 (by omega) (.slice (some ⟨w.heap.size + 3, 0, none⟩) n n)
  obtain ⟨_, p0, p1, _⟩ := id x0
  obtain ⟨_, q0, q1, qf⟩ := id x2
  obtain ⟨_, r0, r1, _⟩ := id y0
  have HI := hidOf (HT.out.bools.keep hbB)
  have Y1 := hidOf y1
  have Y2 := hidOf y2
  have hz := hbB.size
  have hz2 := y2.lt
  clear x1 x0 x2 y0 y1 y2 ho1 HT
  go_wp2_with fail
  refine (toBoolS_any a' n' c' qs _ HI.out hn').mono ?_
  rintro e w2 ⟨rfl, ho3, hb3⟩
  have z1 := Y1.out.keep hb3
  have z2 := Y2.out.keep hb3
  have ho4 := ho2.keep hb3
  have hbC := bl_trans hbB hb3
  have hne3 : n = 0 ∨ w.heap.size + 3 < (w1.setCell ⟨w.heap.size + 2, 0, none⟩ (.slice (some ⟨w.heap.size + 3, 0, none⟩) n n)).heap.size := by
    rcases ho2.ints.row with h0 | ⟨b, off, e, hb, _⟩
    · exact .inl h0
    · cases e; exact .inr hb
  generalize hN : (w1.setCell ⟨w.heap.size + 2, 0, none⟩ (.slice (some ⟨w.heap.size + 3, 0, none⟩) n n)).heap.size = N at *
  have ho5 := (ho4.far (w.heap.size + 2) 1 (by omega) (.slice (some ⟨N, 0, none⟩) n' n')).far (w.heap.size + 1) 0 (by omega) (.slice (some ⟨w.heap.size + 3, 0, none⟩) n n)
  have ho6 := ho5.far (w.heap.size + 1) 1 (by omega) (.slice (some ⟨N, 0, none⟩) n' n')
  have ho7 := ((ho3.far (w.heap.size + 2) 1 (by omega) (.slice (some ⟨N, 0, none⟩) n' n')).far (w.heap.size + 1) 0 (by omega) (.slice (some ⟨w.heap.size + 3, 0, none⟩) n n)).far (w.heap.size + 1) 1 (by omega) (.slice (some ⟨N, 0, none⟩) n' n')
  have hbD := (hbC.setCell (p := ⟨w.heap.size + 2, 1, none⟩) (by simp) (.slice (some ⟨N, 0, none⟩) n' n'))
  have hbE := ((hbD.setCell (p := ⟨w.heap.size + 1, 0, none⟩) (by simp) (.slice (some ⟨w.heap.size + 3, 0, none⟩) n n)).setCell (p := ⟨w.heap.size + 1, 1, none⟩) (by simp) (.slice (some ⟨N, 0, none⟩) n' n'))
  obtain ⟨_, t0, t1, tf⟩ := id z1
  obtain ⟨_, u0, u1, uf⟩ := id z2
  clear z1 z2 ho2 ho3 ho4 ho5 hbA hbB hbC hbD hb3 HI Y1 Y2 p0 p1 q0 q1 qf r0 r1 hN
  have H6 := hidOf ho6
  have H7 := hidOf ho7
  have HE := hidOf hbE
  clear ho6 ho7 hbE
  go_wp2
  refine bodyPost_ret (v := .agg #[(.slice (some ⟨w.heap.size + 3, 0, none⟩) n n), .slice (some ⟨N, 0, none⟩) n' n']) (by simp [results, Try.results23, go_sem, t0, t1]) rfl ⟨_, _, rfl, ⟨H6.out.mono (by omega), H7.out.mono (by omega), ?_⟩, HE.out⟩
  rcases hne3 with h0 | h0
  · exact .inl h0
  · exact .inr (.inr fun b off b' off' e e' => by cases e; cases e'; omega)
end Go.Proofs.Ytgklnpkeffobnaa
