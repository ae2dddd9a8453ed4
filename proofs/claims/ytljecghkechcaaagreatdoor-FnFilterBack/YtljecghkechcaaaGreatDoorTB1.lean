/-
  The plain mathematics of a text cut at its blanks (no program in it).
-/
import Derived.WalkKit
import Derived.Below
import Derived.Lib.SplitLaws
import Derived.Lib.Join
namespace Go.Proofs.YtljecghkechcaaaGreatDoor.Tb
open Go.RowKit Go.Lib

/-- A list of bytes cut at its blanks. -/
def cutL : List UInt8 → List (List UInt8)
  | [] => [[]]
  | c :: l => if c = 32 then [] :: cutL l else (c :: (cutL l).headD []) :: (cutL l).tail

theorem cutL_ne (l : List UInt8) : cutL l ≠ [] := by
  cases l with
  | nil => simp [cutL]
  | cons c l => unfold cutL; split <;> simp
theorem cutL_len (l : List UInt8) : (cutL l).length = l.count 32 + 1 := by
  induction l with
  | nil => rfl
  | cons c l ih =>
    unfold cutL
    split
    · rename_i h; subst h; simp [ih]
    · rename_i h
      have := cutL_ne l
      rw [List.count_cons_of_ne (by simpa using fun e => h e)]
      cases hc : cutL l with
      | nil => exact absurd hc this
      | cons p ps => rw [hc] at ih; simpa using ih
theorem cutL_no (l : List UInt8) (h : ∀ c ∈ l, c ≠ 32) : cutL l = [l] := by
  induction l with
  | nil => rfl
  | cons c l ih =>
    unfold cutL
    rw [if_neg (h c (by simp)), ih (fun d hd => h d (by simp [hd]))]
    rfl
theorem cutL_at (p l : List UInt8) (h : ∀ c ∈ p, c ≠ 32) : cutL (p ++ 32 :: l) = p :: cutL l := by
  induction p with
  | nil => simp [cutL]
  | cons c p ih =>
    rw [List.cons_append, show cutL (c :: (p ++ 32 :: l)) = if c = 32 then [] :: cutL (p ++ 32 :: l) else (c :: (cutL (p ++ 32 :: l)).headD []) :: (cutL (p ++ 32 :: l)).tail from rfl]
    rw [if_neg (h c (by simp)), ih (fun d hd => h d (by simp [hd]))]
    rfl
theorem split_cut : ∀ l : List UInt8, splitK [32] 0 (count l [32]) l = cutL l
  | [] => by rw [count_miss (by simp [index])]; rfl
  | b :: l => by
    have ih := split_cut l
    by_cases h : b = 32
    · subst h
      have hix : index (32 :: l) [32] = ((0 : Nat) : Int) := by rw [index]; simp [List.isPrefixOf]
      rw [count_cons_eq, Nat.add_comm, splitK, hix]
      simp [cutL, ih]
    · have hp : ([32] : List UInt8).isPrefixOf (b :: l) = false := by simp [List.isPrefixOf, Ne.symm h]
      have hix : index (b :: l) [32] = if index l [32] == -1 then -1 else index l [32] + 1 := by rw [index, hp]; simp
      rw [count_cons_ne b 32 l h]
      by_cases hm : index l [32] = -1
      · rw [count_miss hm] at ih ⊢
        rw [splitK] at ih ⊢
        unfold cutL
        rw [if_neg h, ← ih]
        rfl
      · have hge := index_ge l [32]
        obtain ⟨j, hj⟩ : ∃ j : Nat, index l [32] = j := ⟨(index l [32]).toNat, by omega⟩
        have hix' : index (b :: l) [32] = ((j + 1 : Nat) : Int) := by rw [hix, if_neg (fun e => hm (beq_iff_eq.1 e)), hj]; omega
        obtain ⟨k, hk⟩ : ∃ k, count l [32] = k + 1 := ⟨count (l.drop (j + 1)) [32], by have := count_hit (s := l) (sub := [32]) (by simp) hj; simp at this; omega⟩
        rw [hk] at ih ⊢
        rw [splitK, hj] at ih
        rw [splitK, hix']
        unfold cutL
        rw [if_neg h, ← ih, if_neg (by simp; omega), if_neg (by simp)]
        simp

def dot : ByteArray := ⟨#[32]⟩
def dat (b : ByteArray) : List UInt8 := b.data.toList
theorem dat_inj {a b : ByteArray} (h : dat a = dat b) : a = b := by
  obtain ⟨⟨x⟩⟩ := a; obtain ⟨⟨y⟩⟩ := b; simpa [dat] using h
theorem map_inj : ∀ {xs ys : List ByteArray}, xs.map dat = ys.map dat → xs = ys
  | [], [], _ => rfl
  | [], _ :: _, h => by simp at h
  | _ :: _, [], h => by simp at h
  | x :: xs, y :: ys, h => by
    simp only [List.map_cons, List.cons.injEq] at h
    rw [dat_inj h.1, map_inj h.2]

/-- The words of a text. -/
def partsB (s : ByteArray) : List ByteArray := splitB dot 0 (countB s dot) s
theorem parts_dat (s : ByteArray) : (partsB s).map dat = cutL (dat s) := by
  have := splitB_data dot 0 (countB s dot) s
  unfold partsB
  rw [show (List.map dat (splitB dot 0 (countB s dot) s)) = (splitB dot 0 (countB s dot) s).map (·.data.toList) from rfl, this]
  exact split_cut _
theorem parts_len (s : ByteArray) : (partsB s).length = countB s dot + 1 := splitB_all dot (by decide) 0 _ s rfl
theorem parts_le (s : ByteArray) : (partsB s).length ≤ s.size + 1 := by
  have := countB_le dot (by decide) s.size s (Nat.le_refl _)
  rw [parts_len]; omega
theorem parts_pos (s : ByteArray) : 0 < (partsB s).length := by rw [parts_len]; omega
theorem parts_size (s : ByteArray) : ∀ p ∈ partsB s, p.size ≤ s.size := by
  have key : ∀ l : List UInt8, ∀ p ∈ cutL l, p.length ≤ l.length := by
    intro l
    induction l with
    | nil => intro p hp; simp [cutL] at hp; simp [hp]
    | cons c l ih =>
      intro p hp
      unfold cutL at hp
      split at hp
      · simp only [List.mem_cons] at hp
        rcases hp with rfl | hp
        · simp
        · have := ih p hp; simp; omega
      · have hne := cutL_ne l
        cases hc : cutL l with
        | nil => exact absurd hc hne
        | cons q qs =>
          rw [hc] at hp ih
          simp only [List.headD_cons, List.tail_cons, List.mem_cons] at hp
          rcases hp with rfl | hp
          · have := ih q (by simp); simp; omega
          · have := ih p (by simp [hp]); simp; omega
  intro p hp
  have := key (dat s) (dat p) (by rw [← parts_dat]; exact List.mem_map_of_mem hp)
  simpa [dat] using this

/-- What cutting from the left has found: the parts laid so far, the place where the next one begins, and that no point lies from there on. -/
structure CutAt (s : ByteArray) (xs : List ByteArray) (b i : Nat) : Prop where
  le : b ≤ i
  lt : i ≤ s.size
  eq : xs.map dat ++ cutL ((dat s).drop b) = cutL (dat s)
  no : ∀ c ∈ ((dat s).drop b).take (i - b), c ≠ 32
  few : xs.length ≤ i
theorem CutAt.start (s : ByteArray) : CutAt s [] 0 0 := ⟨Nat.le_refl _, Nat.zero_le _, by simp, by simp, Nat.le_refl _⟩
theorem dat_ext (s : ByteArray) (b i : Nat) : dat (s.extract b i) = ((dat s).drop b).take (i - b) := by
  unfold dat
  rw [Lib.extract_data]
theorem dat_len (s : ByteArray) : (dat s).length = s.size := by simp [dat]
theorem CutAt.done {s : ByteArray} {xs : List ByteArray} {b i : Nat} (h : CutAt s xs b i) (hi : i = s.size) : xs ++ [s.extract b i] = partsB s := by
  apply map_inj
  have e : ((dat s).drop b).take (i - b) = (dat s).drop b := List.take_of_length_le (by rw [List.length_drop, dat_len]; omega)
  have no := h.no
  rw [e] at no
  rw [parts_dat, ← h.eq, cutL_no _ no, List.map_append, List.map_cons, List.map_nil, dat_ext, e]
theorem CutAt.cut {s : ByteArray} {xs : List ByteArray} {b i : Nat} (h : CutAt s xs b i) (hi : i < s.size) (hd : s[i] = 32) : CutAt s (xs ++ [s.extract b i]) (i + 1) (i + 1) := by
  have hil : i < (dat s).length := by rw [dat_len]; exact hi
  have h1 : (dat s)[i] = 32 := hd
  have e : (dat s).drop b = ((dat s).drop b).take (i - b) ++ 32 :: (dat s).drop (i + 1) := by
    have h0 := List.take_append_drop (i - b) ((dat s).drop b)
    rw [List.drop_drop, show b + (i - b) = i by have := h.le; omega] at h0
    rw [List.drop_eq_getElem_cons hil, h1] at h0
    exact h0.symm
  refine ⟨Nat.le_refl _, hi, ?_, by simp, by have := h.few; simp; omega⟩
  have := h.eq
  rw [e, cutL_at _ _ h.no] at this
  rw [← this, List.map_append, List.map_cons, List.map_nil, dat_ext, List.append_assoc]
  rfl
theorem CutAt.go {s : ByteArray} {xs : List ByteArray} {b i : Nat} (h : CutAt s xs b i) (hi : i < s.size) (hd : ¬ s[i] = 32) : CutAt s xs b (i + 1) := by
  have hil : i < (dat s).length := by rw [dat_len]; exact hi
  have h1 : ¬ (dat s)[i] = 32 := hd
  refine ⟨by have := h.le; omega, hi, h.eq, ?_, by have := h.few; omega⟩
  have hb := h.le
  have e : ((dat s).drop b).take (i + 1 - b) = ((dat s).drop b).take (i - b) ++ [(dat s)[i]] := by
    rw [show i + 1 - b = (i - b) + 1 by omega, List.take_succ_eq_append_getElem (by rw [List.length_drop]; omega)]
    congr 2
    rw [List.getElem_drop]
    congr 1
    omega
  rw [e]
  intro c hc
  rw [List.mem_append] at hc
  rcases hc with hc | hc
  · exact h.no c hc
  · simp only [List.mem_singleton] at hc; subst hc; exact h1


theorem join_cut : ∀ l : List UInt8, join (cutL l) [32] = l
  | [] => rfl
  | c :: l => by
    have ih := join_cut l
    have hne := cutL_ne l
    unfold cutL
    cases hc : cutL l with
    | nil => exact absurd hc hne
    | cons p ps =>
      rw [hc] at ih
      rw [join_cons] at ih
      split
      · rename_i h
        subst h
        rw [join_cons]
        simp only [joinTail, List.map_cons, List.flatten_cons, List.nil_append] at ih ⊢
        rw [← ih]
        simp
      · rw [join_cons]
        simp only [List.headD_cons, List.tail_cons]
        rw [← ih]
        simp
theorem cut_join : ∀ (p : List UInt8) (ps : List (List UInt8)), (∀ q ∈ p :: ps, ∀ c ∈ q, c ≠ 32) → cutL (join (p :: ps) [32]) = p :: ps
  | p, [], h => by rw [join_one]; exact cutL_no p (h p (by simp))
  | p, q :: ps, h => by
    have ih := cut_join q ps (fun r hr => h r (by simp [List.mem_cons.1 hr]))
    rw [join_cons] at ih ⊢
    simp only [joinTail, List.map_cons, List.flatten_cons, List.cons_append, List.nil_append] at ih ⊢
    rw [cutL_at p _ (h p (by simp)), ih]
end Go.Proofs.YtljecghkechcaaaGreatDoor.Tb
