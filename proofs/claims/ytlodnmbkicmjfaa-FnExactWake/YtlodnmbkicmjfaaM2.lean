/-
  Walks of the laws on Join and Leave.
-/
import Derived.Test.YtlodnmbkicmjfaaM1
namespace Go.Proofs.Ytlodnmbkicmjfaa
open Go.RowKit Go.Maps Pl Il

theorem Il.OwnAt.other {B : Nat} {w w' : World} {a : Option Addr} {n b : Nat} {xs : List Int} (h : Il.OwnAt B w a n xs) (hg : w.grownBy w' (some b)) (hne : n = 0 ∨ ∀ b' off', a = some ⟨b', off', none⟩ → b ≠ b') : Il.OwnAt B w' a n xs := by
  obtain ⟨⟨hl, hr⟩, ho⟩ := h
  rcases hne with h0 | hne
  · exact ⟨⟨hl, .inl h0⟩, .inl h0⟩
  · rcases hr with h0 | ⟨b1, off, rfl, hlt, hc⟩
    · exact ⟨⟨hl, .inl h0⟩, .inl h0⟩
    · have key : w'.heap[b1]? = w.heap[b1]? := hg.block b1 hlt (by intro e; cases e; exact hne _ _ rfl rfl)
      rcases ho with h0 | ⟨b', off', e, hB, hf⟩
      · exact ⟨⟨hl, .inl h0⟩, .inl h0⟩
      · cases e
        refine ⟨⟨hl, .inr ⟨b1, off, rfl, Nat.lt_of_lt_of_le hlt hg.size, fun i hi => ?_⟩⟩, .inr ⟨b1, off, rfl, hB, fun i hi => ?_⟩⟩
        · rw [← hc i hi]; exact World.cell?_of_block key
        · rw [← hf i hi]; exact World.frozen?_of_block key

/-- What marking a list leaves. -/
structure Marked (B : Nat) (a : Option Addr) (n : Nat) (k : Int) (w w' : World) : Prop where
  own : Il.OwnAt B w' a n (marks k n)
  below : Below B w w'
  other : ∀ C a2 m2 ys2, Il.OwnAt C w a2 m2 ys2 → (n = 0 ∨ m2 = 0 ∨ ∀ b off b' off', a = some ⟨b, off, none⟩ → a2 = some ⟨b', off', none⟩ → b ≠ b') → Il.OwnAt C w' a2 m2 ys2
theorem mark_any (B : Nat) (a : Option Addr) (n cap : Nat) (xs : List Int) (k : Int) (w : World) (hO : Il.OwnAt B w a n xs) (hB : B ≤ w.heap.size) (hn : n ≤ 2097152) (k0 : 0 ≤ k) (k1 : k ≤ 1000000000) :
    Calls Try.prog 22 #[.slice a n cap, .int .i64 k] w fun e w' => e = .returned (.int .i64 (k + (n : Int))) ∧ Marked B a n k w w' := by
  refine (markIntS_any B a n cap xs k w hO hn k0 k1).mono ?_
  rintro e w' ⟨rfl, ho, ⟨rfl, rfl⟩ | ⟨hpos, b, off, rfl, hg⟩⟩
  · exact ⟨rfl, ho, Below.refl _ _, fun _ _ _ _ h _ => h⟩
  · refine ⟨rfl, ho, (Below.refl _ _).grown hg hB (fun j hj => ?_), fun C a2 m2 ys2 h hc => h.other hg ?_⟩
    · cases hj
      rcases ho.own with h0 | ⟨b', off', e, hb', _⟩
      · omega
      · cases e; exact hb'
    · rcases hc with h0 | h0 | hc
      · omega
      · exact .inl h0
      · exact .inr fun b' off' e => hc b off b' off' rfl e
theorem apart_of {C : Nat} {w : World} {a2 : Option Addr} {m2 b n : Nat} {ys2 : List Int} (h : Il.OwnAt C w a2 m2 ys2) (hb : b < C) : n = 0 ∨ m2 = 0 ∨ ∀ b0 off b' off', some (⟨b, 0, none⟩ : Addr) = some ⟨b0, off, none⟩ → a2 = some ⟨b', off', none⟩ → b0 ≠ b' := by
  rcases h.own with h0 | ⟨b1, off1, rfl, hB, _⟩
  · exact .inr (.inl h0)
  · refine .inr (.inr fun b0 off b' off' e e' => ?_)
    cases e; cases e'
    omega
theorem mark_nn (n : Nat) : ¬ (1 : Int) + (n : Int) < 0 := by omega
theorem join_len (xs : List Int) (x : Int) : (joinL xs x).1.length ≤ xs.length + 1 := by
  unfold joinL
  split
  · simp
  · split
    · simp
    · split
      · simp
      · simp
theorem leave_len (xs : List Int) (x : Int) : (leaveL xs x).1.length ≤ xs.length + 1 := by
  have := less_len xs x
  unfold leaveL
  split
  · simp
  · split
    · simp
    · simp only; omega

set_option maxHeartbeats 1000000 in
theorem exactJoin_any (a : Option Addr) (n cap : Nat) (x : Int) (w : World) (hA : n ≤ 1048576 → ∃ xs, IntsAt w a n xs ∧ wfL xs) (hx : (Lit.int .i64 x).wf = true) :
    Calls Try.prog 5 #[.slice a n cap, .int .i64 x] w fun e w' => e = .returned (.bool true) ∧ Below w.heap.size w w' := by
  by_cases hn : n ≤ 1048576
  · obtain ⟨xs, hI, hw⟩ := hA hn
    have hni : ¬ 1048576 < (n : Int) := by omega
    have hlen := hI.len
    have hyl := join_len xs x
    have hnn := mark_nn n
    have HI := hidOf hI
    clear hI hA
    go_enter Try.func5, Try.ntmps5
    go_wp2_with fail
    refine (toIntS_any a n cap xs _ HI.out (by omega)).mono ?_
    rintro e w1 ⟨rfl, ho1, hb1⟩
    go_wp2_with fail
    refine (specJoin_any _ n n xs x _ ho1.ints (by omega) (Nat.le_refl _)).mono ?_
    rintro e w2 ⟨g, m, c, rfl, ho2, hb2⟩
    have hbA := bl_trans hb1 hb2
    have HI2 := HI.out.keep hbA
    have HW := (owns_parts ho2).2.2.2.2.2.ints
    have hml := HW.len
    clear ho1 hb1 hb2 ho2 HI
    go_wp2_with fail
    refine (toIntS_any a n cap xs _ HI2 (by omega)).mono ?_
    rintro e w3 ⟨rfl, ho3, hb3⟩
    go_wp2_with fail
    refine (implJoin_any _ n n xs x _ ho3.ints (by omega) hw hx).mono ?_
    rintro e w4 ⟨a', m', c', rfl, hB4⟩
    have hm' := hB4.own.ints.len
    obtain rfl : m' = m := by omega
    have hnm := mark_nn m'
    have hs3 := hb3.size
    have hb4 := hB4.below
    have hS4 : Below w2.heap.size w2 w4 := bl_trans hb3 hb4
    have G4 := hB4.own
    have X4 := ho3.keep hb4
    have hs4 := hb4.size
    clear hB4 hb4
    go_wp2_with fail
    refine (eqIntS_any _ _ m' m' c' c _ _ _ G4.ints (HW.keep hS4) (by omega) (by omega)).mono ?_
    rintro e w5 ⟨rfl, hb5⟩
    rw [eqL_self]
    have hS5 := bl_trans hS4 hb5
    have G5 := G4.keep hb5
    have X5 := X4.keep hb5
    have hs5 := hb5.size
    clear hS4 G4 X4 hb5
    go_wp2_with fail
    refine (toIntS_any a n cap xs _ (HI2.keep hS5) (by omega)).mono ?_
    rintro e w6 ⟨rfl, ho6, hb6⟩
    have hS6 := bl_trans hS5 hb6
    have G6 := G5.keep hb6
    have X6 := X5.keep hb6
    have hs6 := hb6.size
    clear hS5 G5 X5 hb6
    go_wp2_with fail
    refine (eqIntS_any _ _ n n n n xs xs _ X6.ints ho6.ints (by omega) (by omega)).mono ?_
    rintro e w7 ⟨rfl, hb7⟩
    rw [eqL_self]
    have hS7 := bl_trans hS6 hb7
    have G7 := G6.keep hb7
    have X7 := X6.keep hb7
    have hs7 := hb7.size
    clear hS6 G6 X6 hb7 ho6
    go_wp2_with fail
    refine (mark_any w2.heap.size _ n n xs 1 _ X7 (by omega) (by omega) (by omega) (by omega)).mono ?_
    rintro e w8 ⟨rfl, hM8⟩
    have hS8 := hS7.trans hM8.below
    have G8 := hM8.other _ _ _ _ G7 (by
      rcases Nat.eq_zero_or_pos n with h0 | hpos
      · exact .inl h0
      · refine apart_of G7 ?_
        rcases ho3.ints.row with h0 | ⟨b, off, e, hb, _⟩
        · omega
        · cases e; exact hb)
    have hs8 := hM8.below.size
    clear hS7 G7 X7 hM8
    go_wp2_with fail
    refine (eqIntS_any _ _ m' m' c' c _ _ _ G8.ints (HW.keep hS8) (by omega) (by omega)).mono ?_
    rintro e w9 ⟨rfl, hb9⟩
    rw [eqL_self]
    have hS9 := bl_trans hS8 hb9
    have G9 := G8.keep hb9
    have hs9 := hb9.size
    clear hS8 G8 hb9
    go_wp2_with fail
    refine (mark_any w3.heap.size _ m' c' _ 1 _ G9 (by omega) (by omega) (by omega) (by omega)).mono ?_
    rintro e w10 ⟨rfl, hM10⟩
    have hS10 := hS9.trans (hM10.below.mono hs3)
    have G10 := hM10.own
    have hs10 := hM10.below.size
    clear hS9 G9 hM10
    go_wp2_with fail
    refine (heldIntS_marks _ m' c' 1 _ G10.ints (by omega) (by omega) (by omega)).mono ?_
    rintro e w11 ⟨rfl, rfl⟩
    go_wp2_with fail
    refine (toIntS_any a n cap xs _ (HI2.keep hS10) (by omega)).mono ?_
    rintro e w12 ⟨rfl, ho12, hb12⟩
    have hS12 := bl_trans hS10 hb12
    have G12 := G10.keep hb12
    clear hS10 G10 hb12
    go_wp2_with fail
    refine (implJoin_any _ n n xs x _ ho12.ints (by omega) hw hx).mono ?_
    rintro e w13 ⟨a'', m'', c'', rfl, hB13⟩
    have hm'' := hB13.own.ints.len
    obtain rfl : m'' = m' := by omega
    have hS13 := bl_trans hS12 hB13.below
    have G13 := G12.keep hB13.below
    have K13 := hB13.own
    clear hS12 G12 ho12 hB13
    go_wp2_with fail
    refine (eqIntS_any _ _ m'' m'' c'' c _ _ _ K13.ints (HW.keep hS13) (by omega) (by omega)).mono ?_
    rintro e w14 ⟨rfl, hb14⟩
    rw [eqL_self]
    have hS14 := bl_trans hS13 hb14
    have G14 := G13.keep hb14
    clear hS13 G13 K13 hb14
    go_wp2_with fail
    refine (heldIntS_marks _ m'' c' 1 _ G14.ints (by omega) (by omega) (by omega)).mono ?_
    rintro e w15 ⟨rfl, rfl⟩
    have hE := bl_trans hbA hS14
    clear hS14 G14 hbA HI2 HW
    go_wp2
    go_ret
    exact ⟨rfl, hE⟩
  · have hni : 1048576 < (n : Int) := by omega
    clear hA
    go_enter Try.func5, Try.ntmps5
    go_wp2
    go_ret
    exact ⟨rfl, Below.refl _ _⟩

set_option maxHeartbeats 1000000 in
theorem exactLeave_any (a : Option Addr) (n cap : Nat) (x : Int) (w : World) (hA : n ≤ 1048576 → ∃ xs, IntsAt w a n xs ∧ wfL xs) (hx : (Lit.int .i64 x).wf = true) :
    Calls Try.prog 6 #[.slice a n cap, .int .i64 x] w fun e w' => e = .returned (.bool true) ∧ Below w.heap.size w w' := by
  by_cases hn : n ≤ 1048576
  · obtain ⟨xs, hI, hw⟩ := hA hn
    have hni : ¬ 1048576 < (n : Int) := by omega
    have hlen := hI.len
    have hyl := leave_len xs x
    have hnn := mark_nn n
    have HI := hidOf hI
    clear hI hA
    go_enter Try.func6, Try.ntmps6
    go_wp2_with fail
    refine (toIntS_any a n cap xs _ HI.out (by omega)).mono ?_
    rintro e w1 ⟨rfl, ho1, hb1⟩
    go_wp2_with fail
    refine (specLeave_any _ n n xs x _ ho1.ints (by omega) (Nat.le_refl _)).mono ?_
    rintro e w2 ⟨g, m, c, rfl, ho2, hb2⟩
    have hbA := bl_trans hb1 hb2
    have HI2 := HI.out.keep hbA
    have HW := (owns_parts ho2).2.2.2.2.2.ints
    have hml := HW.len
    clear ho1 hb1 hb2 ho2 HI
    go_wp2_with fail
    refine (toIntS_any a n cap xs _ HI2 (by omega)).mono ?_
    rintro e w3 ⟨rfl, ho3, hb3⟩
    go_wp2_with fail
    refine (implLeave_any _ n n xs x _ ho3.ints (by omega) hw hx).mono ?_
    rintro e w4 ⟨a', m', c', rfl, hB4⟩
    have hm' := hB4.own.ints.len
    obtain rfl : m' = m := by omega
    have hnm := mark_nn m'
    have hs3 := hb3.size
    have hb4 := hB4.below
    have hS4 : Below w2.heap.size w2 w4 := bl_trans hb3 hb4
    have G4 := hB4.own
    have X4 := ho3.keep hb4
    have hs4 := hb4.size
    clear hB4 hb4
    go_wp2_with fail
    refine (eqIntS_any _ _ m' m' c' c _ _ _ G4.ints (HW.keep hS4) (by omega) (by omega)).mono ?_
    rintro e w5 ⟨rfl, hb5⟩
    rw [eqL_self]
    have hS5 := bl_trans hS4 hb5
    have G5 := G4.keep hb5
    have X5 := X4.keep hb5
    have hs5 := hb5.size
    clear hS4 G4 X4 hb5
    go_wp2_with fail
    refine (toIntS_any a n cap xs _ (HI2.keep hS5) (by omega)).mono ?_
    rintro e w6 ⟨rfl, ho6, hb6⟩
    have hS6 := bl_trans hS5 hb6
    have G6 := G5.keep hb6
    have X6 := X5.keep hb6
    have hs6 := hb6.size
    clear hS5 G5 X5 hb6
    go_wp2_with fail
    refine (eqIntS_any _ _ n n n n xs xs _ X6.ints ho6.ints (by omega) (by omega)).mono ?_
    rintro e w7 ⟨rfl, hb7⟩
    rw [eqL_self]
    have hS7 := bl_trans hS6 hb7
    have G7 := G6.keep hb7
    have X7 := X6.keep hb7
    have hs7 := hb7.size
    clear hS6 G6 X6 hb7 ho6
    go_wp2_with fail
    refine (mark_any w2.heap.size _ n n xs 1 _ X7 (by omega) (by omega) (by omega) (by omega)).mono ?_
    rintro e w8 ⟨rfl, hM8⟩
    have hS8 := hS7.trans hM8.below
    have G8 := hM8.other _ _ _ _ G7 (by
      rcases Nat.eq_zero_or_pos n with h0 | hpos
      · exact .inl h0
      · refine apart_of G7 ?_
        rcases ho3.ints.row with h0 | ⟨b, off, e, hb, _⟩
        · omega
        · cases e; exact hb)
    have hs8 := hM8.below.size
    clear hS7 G7 X7 hM8
    go_wp2_with fail
    refine (eqIntS_any _ _ m' m' c' c _ _ _ G8.ints (HW.keep hS8) (by omega) (by omega)).mono ?_
    rintro e w9 ⟨rfl, hb9⟩
    rw [eqL_self]
    have hS9 := bl_trans hS8 hb9
    have G9 := G8.keep hb9
    have hs9 := hb9.size
    clear hS8 G8 hb9
    go_wp2_with fail
    refine (mark_any w3.heap.size _ m' c' _ 1 _ G9 (by omega) (by omega) (by omega) (by omega)).mono ?_
    rintro e w10 ⟨rfl, hM10⟩
    have hS10 := hS9.trans (hM10.below.mono hs3)
    have G10 := hM10.own
    have hs10 := hM10.below.size
    clear hS9 G9 hM10
    go_wp2_with fail
    refine (heldIntS_marks _ m' c' 1 _ G10.ints (by omega) (by omega) (by omega)).mono ?_
    rintro e w11 ⟨rfl, rfl⟩
    go_wp2_with fail
    refine (toIntS_any a n cap xs _ (HI2.keep hS10) (by omega)).mono ?_
    rintro e w12 ⟨rfl, ho12, hb12⟩
    have hS12 := bl_trans hS10 hb12
    have G12 := G10.keep hb12
    clear hS10 G10 hb12
    go_wp2_with fail
    refine (implLeave_any _ n n xs x _ ho12.ints (by omega) hw hx).mono ?_
    rintro e w13 ⟨a'', m'', c'', rfl, hB13⟩
    have hm'' := hB13.own.ints.len
    obtain rfl : m'' = m' := by omega
    have hS13 := bl_trans hS12 hB13.below
    have G13 := G12.keep hB13.below
    have K13 := hB13.own
    clear hS12 G12 ho12 hB13
    go_wp2_with fail
    refine (eqIntS_any _ _ m'' m'' c'' c _ _ _ K13.ints (HW.keep hS13) (by omega) (by omega)).mono ?_
    rintro e w14 ⟨rfl, hb14⟩
    rw [eqL_self]
    have hS14 := bl_trans hS13 hb14
    have G14 := G13.keep hb14
    clear hS13 G13 K13 hb14
    go_wp2_with fail
    refine (heldIntS_marks _ m'' c' 1 _ G14.ints (by omega) (by omega) (by omega)).mono ?_
    rintro e w15 ⟨rfl, rfl⟩
    have hE := bl_trans hbA hS14
    clear hS14 G14 hbA HI2 HW
    go_wp2
    go_ret
    exact ⟨rfl, hE⟩
  · have hni : 1048576 < (n : Int) := by omega
    clear hA
    go_enter Try.func6, Try.ntmps6
    go_wp2
    go_ret
    exact ⟨rfl, Below.refl _ _⟩
end Go.Proofs.Ytlodnmbkicmjfaa
