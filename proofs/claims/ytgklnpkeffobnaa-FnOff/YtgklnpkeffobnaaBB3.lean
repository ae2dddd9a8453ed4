/-
  Walks of the laws' own helpers on tokens: compared, marked, looked at again.
-/
import Derived.Test.YtgklnpkeffobnaaBB2
namespace Go.Proofs.Ytgklnpkeffobnaa
open Go.RowKit Pl Il

theorem eqBL_self (xs : List Bool) : eqBL xs xs = true := by simp [eqBL]
theorem eqIL_self (xs : List Int) : eqL xs xs = true := by simp [eqL]

theorem eqTokens_any (a1 : Option Addr) (n1 c1 : Nat) (ps1 : List Int) (b1 : Option Addr) (m1 d1 : Nat) (qs1 : List Bool) (a2 : Option Addr) (n2 c2 : Nat) (ps2 : List Int) (b2 : Option Addr) (m2 d2 : Nat) (qs2 : List Bool) (w : World)
    (h1 : TokIn w a1 n1 ps1 b1 m1 qs1) (h2 : TokIn w a2 n2 ps2 b2 m2 qs2) (hn1 : n1 ≤ 2097152) (hm1 : m1 ≤ 2097152) (hn2 : n2 ≤ 2097152) (hm2 : m2 ≤ 2097152) :
    Calls Try.prog 24 #[.agg #[.slice a1 n1 c1, .slice b1 m1 d1], .agg #[.slice a2 n2 c2, .slice b2 m2 d2]] w fun e w' => e = .returned (.bool (eqL ps1 ps2 && eqBL qs1 qs2)) ∧ Below w.heap.size w w' := by
  generalize hW0 : w.alloc (.cells #[.slice a1 n1 c1, .slice b1 m1 d1] 27) = W0
  generalize hW1 : W0.alloc (.cells #[.slice a2 n2 c2, .slice b2 m2 d2] 27) = W1
  have B0 : Below w.heap.size w W0 := by subst hW0; exact bl_alloc (Below.refl _ _) _
  have B1 : Below w.heap.size w W1 := by subst hW1; exact bl_alloc B0 _
  have s0 : W0.heap.size = w.heap.size + 1 := by subst hW0; simp
  have x0 : Box2 w.heap.size (.slice a1 n1 c1) (.slice b1 m1 d1) W1 := by subst hW1 hW0; exact (Box2.new w _ _ _).alloc _
  have x1 : Box2 (w.heap.size + 1) (.slice a2 n2 c2) (.slice b2 m2 d2) W1 := by subst hW1; rw [← s0]; exact Box2.new W0 _ _ _
  have k1 := h1.keep B1
  have k2 := h2.keep B1
  obtain ⟨_, p0, p1, _⟩ := id x0
  obtain ⟨_, q0, q1, _⟩ := id x1
  have X0 := hidOf x0
  have X1 := hidOf x1
  clear h1 h2 x0 x1
  go_enter Try.func24, Try.ntmps24
  go_wp2_with fail
  refine (eqIntS_any a1 a2 n1 n2 c1 c2 ps1 ps2 _ k1.ints k2.ints hn1 hn2).mono ?_
  rintro e w1 ⟨rfl, hb1⟩
  have hB := bl_trans B1 hb1
  obtain ⟨_, _, r1, _⟩ := X0.out.keep hb1
  obtain ⟨_, _, t1, _⟩ := X1.out.keep hb1
  have g1 := k1.bools.keep hb1
  have g2 := k2.bools.keep hb1
  clear k1 k2 X0 X1 hb1 p0 p1 q0 q1 hW0 hW1 B0 B1
  cases he : eqL ps1 ps2
  · go_wp2
    go_ret
    exact ⟨rbool (by rw [he]; rfl), hB⟩
  · go_wp2_with fail
    refine (eqBoolS_any b1 b2 m1 m2 d1 d2 qs1 qs2 _ g1 g2 hm1 hm2).mono ?_
    rintro e w2 ⟨rfl, hb2⟩
    have hB2 := bl_trans hB hb2
    cases hf : eqBL qs1 qs2
    · go_wp2
      go_ret
      exact ⟨rbool (by rw [he, hf]; rfl), hB2⟩
    · go_wp2
      go_ret
      exact ⟨rbool (by rw [he, hf]; rfl), hB2⟩

/-- What marking a list of numbers leaves. -/
structure MarkedI (B : Nat) (a : Option Addr) (n : Nat) (k : Int) (w w' : World) : Prop where
  own : Il.OwnAt B w' a n (marks k n)
  turn : n = 0 ∧ w' = w ∨ 0 < n ∧ ∃ b off, a = some ⟨b, off, none⟩ ∧ B ≤ b ∧ w.grownBy w' (some b)
/-- Which blocks a marking of tokens may have turned: those of its two lists. -/
structure Turned (a : Option Addr) (n : Nat) (a' : Option Addr) (n' : Nat) (w w' : World) : Prop where
  os : w'.os = w.os
  tape : w'.tape = w.tape
  output : w'.output = w.output
  size : w.heap.size ≤ w'.heap.size
  block : ∀ k, k < w.heap.size → (∀ off, 0 < n → a ≠ some ⟨k, off, none⟩) → (∀ off, 0 < n' → a' ≠ some ⟨k, off, none⟩) → w'.heap[k]? = w.heap[k]?
theorem Turned.below {a : Option Addr} {n : Nat} {a' : Option Addr} {n' : Nat} {w w' : World} {B : Nat} (h : Turned a n a' n' w w') (hB : B ≤ w.heap.size) (h1 : n = 0 ∨ ∀ b off, a = some ⟨b, off, none⟩ → B ≤ b) (h2 : n' = 0 ∨ ∀ b off, a' = some ⟨b, off, none⟩ → B ≤ b) : Below B w w' :=
  ⟨h.os, h.tape, h.output, h.size, fun k hk => h.block k (by omega)
    (fun off hp e => by rcases h1 with h1 | h1; · omega
                        · have := h1 _ _ e; omega)
    (fun off hp e => by rcases h2 with h2 | h2; · omega
                        · have := h2 _ _ e; omega)⟩

theorem markTokens_any (B : Nat) (a : Option Addr) (n c : Nat) (ps : List Int) (a' : Option Addr) (n' c' : Nat) (qs : List Bool) (k : Int) (w : World) (hO : TokOwn B w a n ps a' n' qs) (hn : n ≤ 2097152) (hn' : n' ≤ 2097152) (k0 : 0 ≤ k) (k1 : k ≤ 100000000) :
    Calls Try.prog 26 #[.agg #[.slice a n c, .slice a' n' c'], .int .i64 k] w fun e w' => e = .returned (.int .i64 (k + (n : Int) + (n' : Int))) ∧ TokOwn B w' a n (marks k n) a' n' (marksB (k + (n : Int)) n') ∧ Turned a n a' n' w w' := by
  generalize hW0 : w.alloc (.cells #[.slice a n c, .slice a' n' c'] 27) = W0
  have B0 : Below w.heap.size w W0 := by subst hW0; exact bl_alloc (Below.refl _ _) _
  have x0 : Box2 w.heap.size (.slice a n c) (.slice a' n' c') W0 := by subst hW0; exact Box2.new w _ _ _
  have hO0 := hO.keep B0
  obtain ⟨_, p0, p1, _⟩ := id x0
  have X0 := hidOf x0
  have HO := hidOf hO
  clear hO x0
  go_enter Try.func26, Try.ntmps26
  go_wp2_with fail
  refine (markIntS_any B a n c ps k _ hO0.one hn k0 (by omega)).mono ?_
  rintro e w1 ⟨rfl, ho1, ht1⟩
  have hlt : ∀ b off, a = some ⟨b, off, none⟩ → 0 < n → b < w.heap.size := fun b off e hp => by
    rcases HO.out.one.ints.row with h0 | ⟨b1, o1, e1, hb, _⟩
    · omega
    · rw [e] at e1; cases e1; exact hb
  have hlt' : ∀ b off, a' = some ⟨b, off, none⟩ → 0 < n' → b < w.heap.size := fun b off e hp => by
    rcases HO.out.two.ints.row with h0 | ⟨b1, o1, e1, hb, _⟩
    · omega
    · rw [e] at e1; cases e1; exact hb
  have hbl : W0.heap.size ≤ w1.heap.size ∧ w1.os = W0.os ∧ w1.tape = W0.tape ∧ w1.output = W0.output ∧ ∀ j, j < W0.heap.size → (∀ off, 0 < n → a ≠ some ⟨j, off, none⟩) → w1.heap[j]? = W0.heap[j]? := by
    rcases ht1 with ⟨_, rfl⟩ | ⟨hp, b, off, rfl, hg⟩
    · exact ⟨Nat.le_refl _, rfl, rfl, rfl, fun _ _ _ => rfl⟩
    · exact ⟨hg.size, hg.os, hg.tape, hg.output, fun j hj hne => hg.block j hj (by intro e; cases e; exact hne off hp rfl)⟩
  have r1 : w1.cell? ⟨w.heap.size, 1, none⟩ = some (.slice a' n' c') := by
    rw [← X0.out.c1]
    exact World.cell?_of_block (hbl.2.2.2.2 _ X0.out.lt (fun off hp e => Nat.lt_irrefl _ (hlt w.heap.size off e hp)))
  have hq1 : Il.OwnB B w1 a' n' qs := by
    rcases ht1 with ⟨_, rfl⟩ | ⟨hp, b, off, rfl, hg⟩
    · exact hO0.two
    · refine hO0.two.other hg ?_
      rcases HO.out.apart with h0 | h0 | h0
      · omega
      · exact .inl h0
      · exact .inr fun b' off' e => h0 b off b' off' rfl e
  have hs0 : W0.heap.size = w.heap.size + 1 := by subst hW0; simp
  have HBL := hidOf hbl
  have H1 := hidOf ho1
  clear ht1 hO0 hbl ho1 X0 p0 p1 hW0
  go_wp2_with fail
  refine (markBoolS_any B a' n' c' qs (k + (n : Int)) _ hq1 hn' (by omega) (by omega)).mono ?_
  rintro e w2 ⟨rfl, ho2, ht2⟩
  have ho1' : Il.OwnAt B w2 a n (marks k n) := by
    rcases ht2 with ⟨_, rfl⟩ | ⟨hp, b, off, rfl, hg⟩
    · exact H1.out
    · refine H1.out.other hg ?_
      rcases HO.out.apart with h0 | h0 | h0
      · exact .inl h0
      · omega
      · exact .inr fun b' off' e => (h0 b' off' b off e rfl).symm
  have hT : Turned a n a' n' w w2 := by
    obtain ⟨z1, z2, z3, z4, z5⟩ := HBL.out
    have hb2 : w1.heap.size ≤ w2.heap.size ∧ w2.os = w1.os ∧ w2.tape = w1.tape ∧ w2.output = w1.output ∧ ∀ j, j < w1.heap.size → (∀ off, 0 < n' → a' ≠ some ⟨j, off, none⟩) → w2.heap[j]? = w1.heap[j]? := by
      rcases ht2 with ⟨_, rfl⟩ | ⟨hp, b, off, rfl, hg⟩
      · exact ⟨Nat.le_refl _, rfl, rfl, rfl, fun _ _ _ => rfl⟩
      · exact ⟨hg.size, hg.os, hg.tape, hg.output, fun j hj hne => hg.block j hj (by intro e; cases e; exact hne off hp rfl)⟩
    obtain ⟨y1, y2, y3, y4, y5⟩ := hb2
    exact ⟨y2.trans (z2.trans B0.os), y3.trans (z3.trans B0.tape), y4.trans (z4.trans B0.output), by omega, fun j hj h1 h2 => (y5 j (by omega) h2).trans ((z5 j (by omega) h1).trans (B0.block j hj))⟩
  have HF := hidOf (TokOwn.mk ho1' ho2 HO.out.apart)
  clear ho1' ho2 ht2 HO H1 HBL hq1 r1
  go_wp2
  go_ret
  exact ⟨rfl, HF.out, hT⟩

theorem heldTokens_marks (a : Option Addr) (n c : Nat) (a' : Option Addr) (n' c' : Nat) (k : Int) (w : World) (hO : TokIn w a n (marks k n) a' n' (marksB (k + (n : Int)) n')) (hn : n ≤ 2097152) (hn' : n' ≤ 2097152) (k0 : 0 ≤ k) (k1 : k ≤ 100000000) :
    Calls Try.prog 27 #[.agg #[.slice a n c, .slice a' n' c'], .int .i64 k] w fun e w' => e = .returned (.int .i64 (k + (n : Int) + (n' : Int))) ∧ Below w.heap.size w w' := by
  generalize hW0 : w.alloc (.cells #[.slice a n c, .slice a' n' c'] 27) = W0
  have B0 : Below w.heap.size w W0 := by subst hW0; exact bl_alloc (Below.refl _ _) _
  have x0 : Box2 w.heap.size (.slice a n c) (.slice a' n' c') W0 := by subst hW0; exact Box2.new w _ _ _
  have hO0 := hO.keep B0
  obtain ⟨_, p0, p1, _⟩ := id x0
  have g1 : ¬ k + (n : Int) < 0 := by omega
  have g2 : ¬ k + (n : Int) + (n' : Int) < 0 := by omega
  clear hO x0
  go_enter Try.func27, Try.ntmps27
  go_wp2_with fail
  refine (heldIntS_marks a n c k _ hO0.ints hn k0 (by omega)).mono ?_
  rintro e w1 ⟨rfl, rfl⟩
  go_wp2_with fail
  refine (heldBoolS_marks a' n' c' (k + (n : Int)) _ hO0.bools hn' (by omega) (by omega)).mono ?_
  rintro e w2 ⟨rfl, rfl⟩
  go_wp2
  go_ret
  exact ⟨rfl, B0⟩
end Go.Proofs.Ytgklnpkeffobnaa
