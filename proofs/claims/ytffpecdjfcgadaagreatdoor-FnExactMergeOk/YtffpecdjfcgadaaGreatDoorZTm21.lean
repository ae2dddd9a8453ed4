/-
  The plain mathematics of names and patterns (no program in it): a text cut at its points, which parts are right, what matches.
-/
import Derived.WalkKit
import Derived.Below
import Derived.Lib.SplitLaws
namespace Go.Proofs.YtffpecdjfcgadaaGreatDoor.Tn
open Go.RowKit Go.Lib

/-- A list of bytes cut at its points. -/
def cutL : List UInt8 → List (List UInt8)
  | [] => [[]]
  | c :: l => if c = 46 then [] :: cutL l else (c :: (cutL l).headD []) :: (cutL l).tail

theorem cutL_ne (l : List UInt8) : cutL l ≠ [] := by
  cases l with
  | nil => simp [cutL]
  | cons c l => unfold cutL; split <;> simp
theorem cutL_len (l : List UInt8) : (cutL l).length = l.count 46 + 1 := by
  induction l with
  | nil => rfl
  | cons c l ih =>
    unfold cutL
    split
    · rename_i h; subst h; simp [ih]
    · rename_i h
      have := cutL_ne l
      rw [List.count_cons_of_ne (by simpa using fun e => h e)]
      cases hc : cutL l with
      | nil => exact absurd hc this
      | cons p ps => rw [hc] at ih; simpa using ih
theorem cutL_no (l : List UInt8) (h : ∀ c ∈ l, c ≠ 46) : cutL l = [l] := by
  induction l with
  | nil => rfl
  | cons c l ih =>
    unfold cutL
    rw [if_neg (h c (by simp)), ih (fun d hd => h d (by simp [hd]))]
    rfl
theorem cutL_at (p l : List UInt8) (h : ∀ c ∈ p, c ≠ 46) : cutL (p ++ 46 :: l) = p :: cutL l := by
  induction p with
  | nil => simp [cutL]
  | cons c p ih =>
    rw [List.cons_append, show cutL (c :: (p ++ 46 :: l)) = if c = 46 then [] :: cutL (p ++ 46 :: l) else (c :: (cutL (p ++ 46 :: l)).headD []) :: (cutL (p ++ 46 :: l)).tail from rfl]
    rw [if_neg (h c (by simp)), ih (fun d hd => h d (by simp [hd]))]
    rfl
theorem split_cut : ∀ l : List UInt8, splitK [46] 0 (count l [46]) l = cutL l
  | [] => by rw [count_miss (by simp [index])]; rfl
  | b :: l => by
    have ih := split_cut l
    by_cases h : b = 46
    · subst h
      have hix : index (46 :: l) [46] = ((0 : Nat) : Int) := by rw [index]; simp [List.isPrefixOf]
      rw [count_cons_eq, Nat.add_comm, splitK, hix]
      simp [cutL, ih]
    · have hp : ([46] : List UInt8).isPrefixOf (b :: l) = false := by simp [List.isPrefixOf, Ne.symm h]
      have hix : index (b :: l) [46] = if index l [46] == -1 then -1 else index l [46] + 1 := by rw [index, hp]; simp
      rw [count_cons_ne b 46 l h]
      by_cases hm : index l [46] = -1
      · rw [count_miss hm] at ih ⊢
        rw [splitK] at ih ⊢
        unfold cutL
        rw [if_neg h, ← ih]
        rfl
      · have hge := index_ge l [46]
        obtain ⟨j, hj⟩ : ∃ j : Nat, index l [46] = j := ⟨(index l [46]).toNat, by omega⟩
        have hix' : index (b :: l) [46] = ((j + 1 : Nat) : Int) := by rw [hix, if_neg (fun e => hm (beq_iff_eq.1 e)), hj]; omega
        obtain ⟨k, hk⟩ : ∃ k, count l [46] = k + 1 := ⟨count (l.drop (j + 1)) [46], by have := count_hit (s := l) (sub := [46]) (by simp) hj; simp at this; omega⟩
        rw [hk] at ih ⊢
        rw [splitK, hj] at ih
        rw [splitK, hix']
        unfold cutL
        rw [if_neg h, ← ih, if_neg (by simp; omega), if_neg (by simp)]
        simp

def dot : ByteArray := ⟨#[46]⟩
def dat (b : ByteArray) : List UInt8 := b.data.toList
theorem dat_inj {a b : ByteArray} (h : dat a = dat b) : a = b := by
  obtain ⟨⟨x⟩⟩ := a; obtain ⟨⟨y⟩⟩ := b; simpa [dat] using h
theorem map_inj : ∀ {xs ys : List ByteArray}, xs.map dat = ys.map dat → xs = ys
  | [], [], _ => rfl
  | [], _ :: _, h => by simp at h
  | _ :: _, [], h => by simp at h
  | x :: xs, y :: ys, h => by
    simp only [List.map_cons, List.cons.injEq] at h
    rw [dat_inj h.1, map_inj h.2]

/-- The parts of a name or a pattern. -/
def partsB (s : ByteArray) : List ByteArray := splitB dot 0 (countB s dot) s
theorem parts_dat (s : ByteArray) : (partsB s).map dat = cutL (dat s) := by
  have := splitB_data dot 0 (countB s dot) s
  unfold partsB
  rw [show (List.map dat (splitB dot 0 (countB s dot) s)) = (splitB dot 0 (countB s dot) s).map (·.data.toList) from rfl, this]
  exact split_cut _
theorem parts_len (s : ByteArray) : (partsB s).length = countB s dot + 1 := splitB_all dot (by decide) 0 _ s rfl
theorem parts_le (s : ByteArray) : (partsB s).length ≤ s.size + 1 := by
  have := countB_le dot (by decide) s.size s (Nat.le_refl _)
  rw [parts_len]; omega
theorem parts_pos (s : ByteArray) : 0 < (partsB s).length := by rw [parts_len]; omega
theorem parts_size (s : ByteArray) : ∀ p ∈ partsB s, p.size ≤ s.size := by
  have key : ∀ l : List UInt8, ∀ p ∈ cutL l, p.length ≤ l.length := by
    intro l
    induction l with
    | nil => intro p hp; simp [cutL] at hp; simp [hp]
    | cons c l ih =>
      intro p hp
      unfold cutL at hp
      split at hp
      · simp only [List.mem_cons] at hp
        rcases hp with rfl | hp
        · simp
        · have := ih p hp; simp; omega
      · have hne := cutL_ne l
        cases hc : cutL l with
        | nil => exact absurd hc hne
        | cons q qs =>
          rw [hc] at hp ih
          simp only [List.headD_cons, List.tail_cons, List.mem_cons] at hp
          rcases hp with rfl | hp
          · have := ih q (by simp); simp; omega
          · have := ih p (by simp [hp]); simp; omega
  intro p hp
  have := key (dat s) (dat p) (by rw [← parts_dat]; exact List.mem_map_of_mem hp)
  simpa [dat] using this

/-- What cutting from the left has found: the parts laid so far, the place where the next one begins, and that no point lies from there on. -/
structure CutAt (s : ByteArray) (xs : List ByteArray) (b i : Nat) : Prop where
  le : b ≤ i
  lt : i ≤ s.size
  eq : xs.map dat ++ cutL ((dat s).drop b) = cutL (dat s)
  no : ∀ c ∈ ((dat s).drop b).take (i - b), c ≠ 46
  few : xs.length ≤ i
theorem CutAt.start (s : ByteArray) : CutAt s [] 0 0 := ⟨Nat.le_refl _, Nat.zero_le _, by simp, by simp, Nat.le_refl _⟩
theorem dat_ext (s : ByteArray) (b i : Nat) : dat (s.extract b i) = ((dat s).drop b).take (i - b) := by
  unfold dat
  rw [Lib.extract_data]
theorem dat_len (s : ByteArray) : (dat s).length = s.size := by simp [dat]
theorem CutAt.done {s : ByteArray} {xs : List ByteArray} {b i : Nat} (h : CutAt s xs b i) (hi : i = s.size) : xs ++ [s.extract b i] = partsB s := by
  apply map_inj
  have e : ((dat s).drop b).take (i - b) = (dat s).drop b := List.take_of_length_le (by rw [List.length_drop, dat_len]; omega)
  have no := h.no
  rw [e] at no
  rw [parts_dat, ← h.eq, cutL_no _ no, List.map_append, List.map_cons, List.map_nil, dat_ext, e]
theorem CutAt.cut {s : ByteArray} {xs : List ByteArray} {b i : Nat} (h : CutAt s xs b i) (hi : i < s.size) (hd : s[i] = 46) : CutAt s (xs ++ [s.extract b i]) (i + 1) (i + 1) := by
  have hil : i < (dat s).length := by rw [dat_len]; exact hi
  have h1 : (dat s)[i] = 46 := hd
  have e : (dat s).drop b = ((dat s).drop b).take (i - b) ++ 46 :: (dat s).drop (i + 1) := by
    have h0 := List.take_append_drop (i - b) ((dat s).drop b)
    rw [List.drop_drop, show b + (i - b) = i by have := h.le; omega] at h0
    rw [List.drop_eq_getElem_cons hil, h1] at h0
    exact h0.symm
  refine ⟨Nat.le_refl _, hi, ?_, by simp, by have := h.few; simp; omega⟩
  have := h.eq
  rw [e, cutL_at _ _ h.no] at this
  rw [← this, List.map_append, List.map_cons, List.map_nil, dat_ext, List.append_assoc]
  rfl
theorem CutAt.go {s : ByteArray} {xs : List ByteArray} {b i : Nat} (h : CutAt s xs b i) (hi : i < s.size) (hd : ¬ s[i] = 46) : CutAt s xs b (i + 1) := by
  have hil : i < (dat s).length := by rw [dat_len]; exact hi
  have h1 : ¬ (dat s)[i] = 46 := hd
  refine ⟨by have := h.le; omega, hi, h.eq, ?_, by have := h.few; omega⟩
  have hb := h.le
  have e : ((dat s).drop b).take (i + 1 - b) = ((dat s).drop b).take (i - b) ++ [(dat s)[i]] := by
    rw [show i + 1 - b = (i - b) + 1 by omega, List.take_succ_eq_append_getElem (by rw [List.length_drop]; omega)]
    congr 2
    rw [List.getElem_drop]
    congr 1
    omega
  rw [e]
  intro c hc
  rw [List.mem_append] at hc
  rcases hc with hc | hc
  · exact h.no c hc
  · simp only [List.mem_singleton] at hc; subst hc; exact h1

/-! A part that is plain. -/
def lowB (c : UInt8) : Bool := decide (97 ≤ c.toNat) && decide (c.toNat ≤ 122) || decide (48 ≤ c.toNat) && decide (c.toNat ≤ 57)
def plainP (s : ByteArray) : Bool := !(dat s).isEmpty && (dat s).all lowB
theorem plain_upto {s : ByteArray} {k : Nat} (hk : k < s.size) (h : ((dat s).take k).all lowB = true) (hg : lowB s[k] = true) : ((dat s).take (k + 1)).all lowB = true := by
  rw [List.take_succ_eq_append_getElem (by rw [dat_len]; exact hk), List.all_append, h]
  simp only [List.all_cons, List.all_nil, Bool.and_true, Bool.true_and]
  exact hg
theorem plain_not {s : ByteArray} {k : Nat} (hk : k < s.size) (hg : lowB s[k] = false) : plainP s = false := by
  unfold plainP
  have : (dat s).all lowB = false := by
    rw [List.all_eq_false]
    exact ⟨(dat s)[k]'(by rw [dat_len]; exact hk), List.getElem_mem _, by rw [show (dat s)[k]'(by rw [dat_len]; exact hk) = s[k] from rfl, hg]; simp⟩
  rw [this, Bool.and_false]
theorem plain_yes {s : ByteArray} (h : ((dat s).take s.size).all lowB = true) (h0 : s.size ≠ 0) : plainP s = true := by
  rw [List.take_of_length_le (by rw [dat_len]; exact Nat.le_refl _)] at h
  unfold plainP
  rw [h, Bool.and_true]
  have : dat s ≠ [] := fun e => h0 (by rw [← dat_len, e]; rfl)
  cases hc : dat s with
  | nil => exact absurd hc this
  | cons _ _ => rfl
theorem plain_nil {s : ByteArray} (h0 : s.size = 0) : plainP s = false := by
  unfold plainP
  have : dat s = [] := List.length_eq_zero_iff.1 (by rw [dat_len]; exact h0)
  rw [this]; rfl
theorem low_yes (c : UInt8) (h : (97 ≤ (c.toNat : Int) ∧ (c.toNat : Int) ≤ 122) ∨ (48 ≤ (c.toNat : Int) ∧ (c.toNat : Int) ≤ 57)) : lowB c = true := by
  simp only [lowB, Bool.or_eq_true, Bool.and_eq_true, decide_eq_true_eq]; omega
theorem low_no (c : UInt8) (h : ¬ ((97 ≤ (c.toNat : Int) ∧ (c.toNat : Int) ≤ 122) ∨ (48 ≤ (c.toNat : Int) ∧ (c.toNat : Int) ≤ 57))) : lowB c = false := by
  rw [← Bool.not_eq_true]
  simp only [lowB, Bool.or_eq_true, Bool.and_eq_true, decide_eq_true_eq]; omega

/-! Names and patterns. -/
def star : ByteArray := ⟨#[42]⟩
def rest : ByteArray := ⟨#[62]⟩
def okPart (st last : Bool) (p : ByteArray) : Bool := (st && (decide (p = star) || (decide (p = rest) && last))) || plainP p
def partsF (f : Bool → ByteArray → Bool) (n : Nat) : Nat → List ByteArray → Bool
  | _, [] => true
  | i, p :: ps => f (decide (i + 1 = n)) p && partsF f n (i + 1) ps
def rightF (f : Bool → ByteArray → Bool) (s : ByteArray) : Bool := decide (s.size ≤ 24) && partsF f (partsB s).length 0 (partsB s)
def rightN (st : Bool) (s : ByteArray) : Bool := rightF (okPart st) s
def signOk (gs : List ByteArray) (last : Bool) (p : ByteArray) : Bool := gs.any (fun g => decide (p = g) && (!decide (g = rest) || last))
def okG (gs : List ByteArray) (last : Bool) (p : ByteArray) : Bool := signOk gs last p || plainP p
theorem okG_no : okG [] = okPart false := by funext l p; simp [okG, signOk, okPart]
theorem star_rest : ¬ star = rest := by decide
theorem okG_two : okG [star, rest] = okPart true := by
  funext l p
  simp only [okG, signOk, okPart, List.any_cons, List.any_nil, Bool.or_false, Bool.true_and, star_rest, decide_false, Bool.not_false, Bool.true_or, Bool.and_true, decide_true, Bool.not_true, Bool.false_or]
theorem parts_drop {f : Bool → ByteArray → Bool} {n : Nat} {xs : List ByteArray} {i : Nat} (hi : i < xs.length) : partsF f n i (xs.drop i) = (f (decide (i + 1 = n)) (xs.getD i ⟨#[]⟩) && partsF f n (i + 1) (xs.drop (i + 1))) := by
  rw [List.drop_eq_getElem_cons hi]
  have e : xs.getD i ⟨#[]⟩ = xs[i] := by simp [List.getD, List.getElem?_eq_getElem hi]
  rw [e]; rfl
theorem parts_end {f : Bool → ByteArray → Bool} {n : Nat} {xs : List ByteArray} : partsF f n xs.length (xs.drop xs.length) = true := by rw [List.drop_length]; rfl
theorem right_long {f : Bool → ByteArray → Bool} {s : ByteArray} (h : 24 < s.size) : rightF f s = false := by
  unfold rightF
  rw [show decide (s.size ≤ 24) = false by simp; omega, Bool.false_and]
theorem right_parts {f : Bool → ByteArray → Bool} {s : ByteArray} (h : s.size ≤ 24) : rightF f s = partsF f (partsB s).length 0 (partsB s) := by
  unfold rightF
  rw [show decide (s.size ≤ 24) = true by simpa using h, Bool.true_and]
theorem sign_step {gs : List ByteArray} {l : Bool} {p : ByteArray} {q : Nat} (hq : q < gs.length) (h : signOk (gs.take q) l p = false) (hg : (decide (p = gs.getD q ⟨#[]⟩) && (!decide (gs.getD q ⟨#[]⟩ = rest) || l)) = false) : signOk (gs.take (q + 1)) l p = false := by
  have e : gs.getD q ⟨#[]⟩ = gs[q] := by simp [List.getD, List.getElem?_eq_getElem hq]
  rw [e] at hg
  unfold signOk at h ⊢
  rw [List.take_succ_eq_append_getElem hq, List.any_append, h, Bool.false_or, List.any_cons, List.any_nil, Bool.or_false]
  exact hg
theorem sign_hit {gs : List ByteArray} {l : Bool} {p : ByteArray} {q : Nat} (hq : q < gs.length) (hg : (decide (p = gs.getD q ⟨#[]⟩) && (!decide (gs.getD q ⟨#[]⟩ = rest) || l)) = true) : signOk gs l p = true := by
  have e : gs.getD q ⟨#[]⟩ = gs[q] := by simp [List.getD, List.getElem?_eq_getElem hq]
  rw [e] at hg
  unfold signOk
  rw [List.any_eq_true]
  exact ⟨gs[q], List.getElem_mem _, hg⟩
theorem sign_all {gs : List ByteArray} {l : Bool} {p : ByteArray} (h : signOk (gs.take gs.length) l p = false) : okG gs l p = plainP p := by
  rw [List.take_length] at h
  unfold okG
  rw [h, Bool.false_or]
theorem right_nil (st : Bool) (s : ByteArray) (h : s.size = 0) : rightN st s = false := by
  have hd : dat s = [] := List.length_eq_zero_iff.1 (by rw [dat_len]; exact h)
  have hp := parts_dat s
  rw [hd] at hp
  have he : partsB s = [s] := by
    apply map_inj
    rw [hp, List.map_cons, hd]; rfl
  unfold rightN rightF
  rw [he]
  have hs : plainP s = false := plain_nil h
  have h1 : decide (s = star) = false := by rw [decide_eq_false_iff_not]; intro e; rw [e] at h; simp [star, ByteArray.size] at h
  have h2 : decide (s = rest) = false := by rw [decide_eq_false_iff_not]; intro e; rw [e] at h; simp [rest, ByteArray.size] at h
  simp only [partsF, okPart, hs, h1, h2, Bool.false_and, Bool.or_false, Bool.and_false]
/-- What matches: the parts of a pattern held against those of a name. -/
def matchL : List ByteArray → List ByteArray → Bool
  | [], ys => ys.isEmpty
  | _ :: _, [] => false
  | x :: xs, y :: ys => decide (x = rest) || ((decide (x = star) || decide (x = y)) && matchL xs ys)
def matchN (name pat : ByteArray) : Bool := rightN false name && rightN true pat && matchL (partsB pat) (partsB name)
end Go.Proofs.YtffpecdjfcgadaaGreatDoor.Tn
