/-
  The plain mathematics of timers in a heap (no program in it): which of two is ahead, sinking down, rising up, and that a heap is emptied in its order.
-/
import Derived.WalkKit
namespace Go.Proofs.Ytfahfbeemgigcaa.Th

/-- A timer with its number. -/
structure NT where
  tm : Int
  tok : Int
  num : Int
def soon (a b : NT) : Bool := decide (a.tm < b.tm) || (decide (a.tm = b.tm) && decide (a.num < b.num))
theorem soon_iff (a b : NT) : soon a b = true ↔ a.tm < b.tm ∨ a.tm = b.tm ∧ a.num < b.num := by simp [soon]
theorem soon_no (a b : NT) : soon a b = false ↔ ¬ (a.tm < b.tm ∨ a.tm = b.tm ∧ a.num < b.num) := by rw [← soon_iff]; simp
theorem soon_irr (a : NT) : soon a a = false := by rw [soon_no]; omega
theorem le_trans' {a b c : NT} (h : soon b a = false) (k : soon c b = false) : soon c a = false := by
  rw [soon_no] at *; omega
theorem le_of_lt {a b : NT} (h : soon a b = true) : soon b a = false := by
  rw [soon_no]; rw [soon_iff] at h; omega
theorem not_both {a b : NT} (h : soon a b = true) (k : soon b a = true) : False := by
  rw [soon_iff] at h k; omega

def z0 : NT := ⟨0, 0, 0⟩
def g (l : List NT) (i : Nat) : NT := l.getD i z0
def swapL (l : List NT) (i j : Nat) : List NT := (l.set i (g l j)).set j (g l i)
theorem length_swap (l : List NT) (i j : Nat) : (swapL l i j).length = l.length := by simp [swapL]
theorem g_set (l : List NT) (i k : Nat) (x : NT) (hi : i < l.length) : g (l.set i x) k = if k = i then x else g l k := by
  unfold g
  rw [List.getD_eq_getElem?_getD, List.getD_eq_getElem?_getD, List.getElem?_set]
  by_cases h : k = i
  · subst h; simp [hi]
  · simp [h, Ne.symm h]
theorem g_swap (l : List NT) (i j k : Nat) (hi : i < l.length) (hj : j < l.length) : g (swapL l i j) k = if k = j then g l i else if k = i then g l j else g l k := by
  unfold swapL
  rw [g_set _ _ _ _ (by simpa using hj), g_set _ _ _ _ hi]
theorem g_mem (l : List NT) (i : Nat) (hi : i < l.length) : g l i ∈ l := by
  unfold g
  rw [List.getD_eq_getElem?_getD, List.getElem?_eq_getElem hi]
  exact List.getElem_mem hi
theorem mem_g (l : List NT) (x : NT) (hx : x ∈ l) : ∃ i, i < l.length ∧ g l i = x := by
  obtain ⟨i, hi, e⟩ := List.getElem_of_mem hx
  exact ⟨i, hi, by unfold g; rw [List.getD_eq_getElem?_getD, List.getElem?_eq_getElem hi]; exact e⟩
theorem set_eq_take (l : List NT) (i : Nat) (x : NT) (hi : i < l.length) : l.set i x = l.take i ++ x :: l.drop (i + 1) := by
  rw [List.set_eq_take_append_cons_drop]; simp [hi]
theorem eq_take (l : List NT) (i : Nat) (hi : i < l.length) : l = l.take i ++ g l i :: l.drop (i + 1) := by
  have e : g l i = l[i] := by unfold g; rw [List.getD_eq_getElem?_getD, List.getElem?_eq_getElem hi]; rfl
  rw [e, ← List.drop_eq_getElem_cons hi, List.take_append_drop]
theorem perm_set (l : List NT) (i : Nat) (x : NT) (hi : i < l.length) : (g l i :: l.set i x).Perm (x :: l) := by
  rw [set_eq_take l i x hi]
  have h1 : (l.take i ++ x :: l.drop (i + 1)).Perm (x :: (l.take i ++ l.drop (i + 1))) := List.perm_middle
  have h2 : (l.take i ++ g l i :: l.drop (i + 1)).Perm (g l i :: (l.take i ++ l.drop (i + 1))) := List.perm_middle
  rw [← eq_take l i hi] at h2
  exact (h1.cons _).trans ((List.Perm.swap _ _ _).trans (h2.symm.cons _))
theorem perm_swap (l : List NT) (i j : Nat) (hi : i < l.length) (hj : j < l.length) : (swapL l i j).Perm l := by
  have h1 := perm_set l i (g l j) hi
  have h2 := perm_set (l.set i (g l j)) j (g l i) (by simpa using hj)
  rw [g_set l i j (g l j) hi] at h2
  have e : (if j = i then g l j else g l j) = g l j := by split <;> rfl
  rw [e] at h2
  have h3 := h2.trans h1
  exact (List.perm_cons _).1 h3

/-! Sinking down. -/
def child (l : List NT) (i n : Nat) : Nat := if 2 * i + 2 < n ∧ soon (g l (2 * i + 2)) (g l (2 * i + 1)) = true then 2 * i + 2 else 2 * i + 1
def downL : Nat → List NT → Nat → Nat → List NT
  | 0, l, _, _ => l
  | f + 1, l, i, n => if n ≤ 2 * i + 1 then l else if soon (g l (child l i n)) (g l i) = true then downL f (swapL l i (child l i n)) (child l i n) n else l
def Heap (l : List NT) (n : Nat) : Prop := ∀ j, 0 < j → j < n → soon (g l j) (g l ((j - 1) / 2)) = false
structure Exc (l : List NT) (i n : Nat) : Prop where
  far : ∀ j, 0 < j → j < n → (j - 1) / 2 ≠ i → soon (g l j) (g l ((j - 1) / 2)) = false
  near : ∀ j, 0 < j → j < n → (j - 1) / 2 = i → 0 < i → soon (g l j) (g l ((i - 1) / 2)) = false
theorem child_lt {l : List NT} {i n : Nat} (h : ¬ n ≤ 2 * i + 1) : child l i n < n ∧ i < child l i n ∧ (child l i n - 1) / 2 = i := by
  unfold child; split <;> omega
theorem child_le {l : List NT} {i n : Nat} (_h : ¬ n ≤ 2 * i + 1) (j : Nat) (h0 : 0 < j) (hj : j < n) (hp : (j - 1) / 2 = i) : soon (g l j) (g l (child l i n)) = false := by
  have hc : j = 2 * i + 1 ∨ j = 2 * i + 2 := by omega
  unfold child
  split
  · next h2 =>
    rcases hc with rfl | rfl
    · exact le_of_lt h2.2
    · exact soon_irr _
  · next h2 =>
    rcases hc with rfl | rfl
    · exact soon_irr _
    · have : ¬ soon (g l (2 * i + 2)) (g l (2 * i + 1)) = true := fun k => h2 ⟨hj, k⟩
      simpa using this
theorem length_down : ∀ (f : Nat) (l : List NT) (i n : Nat), (downL f l i n).length = l.length
  | 0, _, _, _ => rfl
  | f + 1, l, i, n => by
    rw [downL]; split
    · rfl
    · split
      · rw [length_down f, length_swap]
      · rfl
theorem perm_down : ∀ (f : Nat) (l : List NT) (i n : Nat), i < n → n ≤ l.length → (downL f l i n).Perm l
  | 0, _, _, _, _, _ => .refl _
  | f + 1, l, i, n, hi, hn => by
    rw [downL]; split
    · exact .refl _
    · next h =>
      obtain ⟨h1, h2, _⟩ := child_lt (l := l) h
      split
      · exact (perm_down f _ _ n h1 (by rw [length_swap]; exact hn)).trans (perm_swap l i _ (by omega) (by omega))
      · exact .refl _
theorem g_down : ∀ (f : Nat) (l : List NT) (i n k : Nat), i < n → n ≤ l.length → n ≤ k → g (downL f l i n) k = g l k
  | 0, _, _, _, _, _, _, _ => rfl
  | f + 1, l, i, n, k, hi, hn, hk => by
    rw [downL]; split
    · rfl
    · next h =>
      obtain ⟨h1, h2, _⟩ := child_lt (l := l) h
      split
      · rw [g_down f _ _ n k h1 (by rw [length_swap]; exact hn) hk, g_swap l _ _ _ (by omega) (by omega), if_neg (by omega), if_neg (by omega)]
      · rfl
theorem exc_done {l : List NT} {i n : Nat} (h : Exc l i n) (hc : ∀ j, 0 < j → j < n → (j - 1) / 2 = i → soon (g l j) (g l i) = false) : Heap l n := by
  intro j h0 hj
  by_cases e : (j - 1) / 2 = i
  · rw [e]; exact hc j h0 hj e
  · exact h.far j h0 hj e
theorem exc_step {l : List NT} {i n : Nat} (h : Exc l i n) (hn : n ≤ l.length) (h1 : ¬ n ≤ 2 * i + 1) (hs : soon (g l (child l i n)) (g l i) = true) : Exc (swapL l i (child l i n)) (child l i n) n := by
  obtain ⟨hc1, hc2, hc3⟩ := child_lt (l := l) h1
  have hle := fun j => child_le (l := l) h1 j
  generalize hc : child l i n = c at *
  refine ⟨fun j h0 hj hne => ?_, fun j h0 hj he hpos => ?_⟩
  · rw [g_swap l i c j (by omega) (by omega), g_swap l i c _ (by omega) (by omega)]
    by_cases ejc : j = c
    · subst ejc
      rw [if_pos rfl, hc3, if_neg (by omega), if_pos rfl]
      exact le_of_lt hs
    · rw [if_neg ejc, if_neg hne]
      by_cases eji : j = i
      · rw [if_pos eji, if_neg (by omega)]
        subst eji
        exact h.near c (by omega) hc1 hc3 h0
      · rw [if_neg eji]
        by_cases epi : (j - 1) / 2 = i
        · rw [if_pos epi]; exact hle j h0 hj epi
        · rw [if_neg epi]; exact h.far j h0 hj epi
  · rw [g_swap l i c j (by omega) (by omega), g_swap l i c _ (by omega) (by omega), hc3, if_neg (by omega), if_neg (by omega), if_neg (by omega), if_pos rfl]
    have := h.far j h0 hj (by omega)
    rw [he] at this
    exact this
theorem heap_down : ∀ (f : Nat) (l : List NT) (i n : Nat), n ≤ l.length → n - i ≤ f → Exc l i n → Heap (downL f l i n) n
  | 0, l, i, n, _, hf, h => exc_done h (fun j h0 hj e => by omega)
  | f + 1, l, i, n, hn, hf, h => by
    rw [downL]; split
    · next h1 => exact exc_done h (fun j h0 hj e => by omega)
    · next h1 =>
      obtain ⟨hc1, hc2, hc3⟩ := child_lt (l := l) h1
      split
      · next hs => exact heap_down f _ _ n (by rw [length_swap]; exact hn) (by omega) (exc_step h hn h1 hs)
      · next hs =>
        refine exc_done h (fun j h0 hj e => ?_)
        have hs' : soon (g l (child l i n)) (g l i) = false := by simpa using hs
        exact le_trans' hs' (child_le h1 j h0 hj e)
/-- In a list that stands in its order nothing sinks. -/
theorem down_same (f : Nat) (l : List NT) (i n : Nat) (h : ∀ a b, a < b → b < n → soon (g l b) (g l a) = false) : downL f l i n = l := by
  cases f with
  | zero => rfl
  | succ f =>
    rw [downL]; split
    · rfl
    · next h1 =>
      obtain ⟨hc1, hc2, hc3⟩ := child_lt (l := l) h1
      rw [h i _ hc2 hc1]; simp

/-! Rising up. -/
def upL : Nat → List NT → Nat → List NT
  | 0, l, _ => l
  | f + 1, l, j => if (j - 1) / 2 = j then l else if soon (g l j) (g l ((j - 1) / 2)) = true then upL f (swapL l ((j - 1) / 2) j) ((j - 1) / 2) else l
structure ExcU (l : List NT) (i n : Nat) : Prop where
  far : ∀ j, 0 < j → j < n → j ≠ i → soon (g l j) (g l ((j - 1) / 2)) = false
  near : ∀ j, 0 < j → j < n → (j - 1) / 2 = i → 0 < i → soon (g l j) (g l ((i - 1) / 2)) = false
theorem length_up : ∀ (f : Nat) (l : List NT) (j : Nat), (upL f l j).length = l.length
  | 0, _, _ => rfl
  | f + 1, l, j => by
    rw [upL]; split
    · rfl
    · split
      · rw [length_up f, length_swap]
      · rfl
theorem perm_up : ∀ (f : Nat) (l : List NT) (j : Nat), j < l.length → (upL f l j).Perm l
  | 0, _, _, _ => .refl _
  | f + 1, l, j, hj => by
    rw [upL]; split
    · exact .refl _
    · split
      · exact (perm_up f _ _ (by rw [length_swap]; omega)).trans (perm_swap l _ _ (by omega) (by omega))
      · exact .refl _
theorem excU_step {l : List NT} {j n : Nat} (h : ExcU l j n) (hn : n ≤ l.length) (hj : j < n) (h1 : ¬ (j - 1) / 2 = j) (hs : soon (g l j) (g l ((j - 1) / 2)) = true) : ExcU (swapL l ((j - 1) / 2) j) ((j - 1) / 2) n := by
  have hp : (j - 1) / 2 < j := by omega
  generalize hi : (j - 1) / 2 = i at *
  refine ⟨fun k h0 hk hne => ?_, fun k h0 hk he hpos => ?_⟩
  · rw [g_swap l i j k (by omega) (by omega), g_swap l i j _ (by omega) (by omega)]
    by_cases ekj : k = j
    · subst ekj
      rw [if_pos rfl, hi, if_neg (by omega), if_pos rfl]
      exact le_of_lt hs
    · rw [if_neg ekj, if_neg hne]
      have hf := h.far k h0 hk ekj
      by_cases epj : (k - 1) / 2 = j
      · rw [if_pos epj]
        have := h.near k h0 hk epj (by omega)
        rw [hi] at this
        exact this
      · rw [if_neg epj]
        by_cases epi : (k - 1) / 2 = i
        · rw [if_pos epi]
          rw [epi] at hf
          exact le_trans' (le_of_lt hs) hf
        · rw [if_neg epi]; exact hf
  · rw [g_swap l i j k (by omega) (by omega), g_swap l i j _ (by omega) (by omega)]
    have hii := h.far i hpos (by omega) (by omega)
    rw [if_neg (c := (i - 1) / 2 = j) (by omega), if_neg (c := (i - 1) / 2 = i) (by omega)]
    by_cases ekj : k = j
    · rw [if_pos ekj]; exact hii
    · rw [if_neg ekj, if_neg (by omega)]
      have hf := h.far k h0 hk ekj
      rw [he] at hf
      exact le_trans' hii hf
theorem heap_up : ∀ (f : Nat) (l : List NT) (j n : Nat), n ≤ l.length → j < n → j ≤ f → ExcU l j n → Heap (upL f l j) n
  | 0, l, j, n, _, hj, hf, h => fun k h0 hk => h.far k h0 hk (by omega)
  | f + 1, l, j, n, hn, hj, hf, h => by
    rw [upL]; split
    · next h1 => exact fun k h0 hk => h.far k h0 hk (by omega)
    · next h1 =>
      split
      · next hs => exact heap_up f _ _ n (by rw [length_swap]; exact hn) (by omega) (by omega) (excU_step h hn hj h1 hs)
      · next hs =>
        intro k h0 hk
        by_cases e : k = j
        · subst e; simpa using hs
        · exact h.far k h0 hk e
theorem up_same (f : Nat) (l : List NT) (j : Nat) (h : soon (g l j) (g l ((j - 1) / 2)) = false) : upL f l j = l := by
  cases f with
  | zero => rfl
  | succ f => rw [upL]; split
              · rfl
              · rw [h]; simp
theorem g_snoc (l : List NT) (x : NT) (k : Nat) (hk : k < l.length) : g (l ++ [x]) k = g l k := by
  unfold g
  rw [List.getD_eq_getElem?_getD, List.getD_eq_getElem?_getD, List.getElem?_append_left hk]
theorem g_last (l : List NT) (x : NT) : g (l ++ [x]) l.length = x := by
  unfold g
  rw [List.getD_eq_getElem?_getD]; simp
def pushL (l : List NT) (x : NT) : List NT := upL (l.length + 1) (l ++ [x]) l.length
theorem length_push (l : List NT) (x : NT) : (pushL l x).length = l.length + 1 := by unfold pushL; rw [length_up]; simp
theorem push_perm (l : List NT) (x : NT) : (pushL l x).Perm (l ++ [x]) := perm_up _ _ _ (by simp)
theorem push_heap (l : List NT) (x : NT) (h : Heap l l.length) : Heap (pushL l x) (l.length + 1) := by
  refine heap_up _ _ _ _ (by simp) (by omega) (by omega) ⟨fun j h0 hj hne => ?_, fun j h0 hj he hpos => by omega⟩
  rw [g_snoc l x j (by omega), g_snoc l x _ (by omega)]
  exact h j h0 (by omega)
theorem push_same (l : List NT) (x : NT) (h : ∀ y ∈ l, soon x y = false) : pushL l x = l ++ [x] := by
  refine up_same _ _ _ ?_
  rw [g_last]
  by_cases e : l.length = 0
  · rw [e]; simp [List.length_eq_zero_iff.1 e, g, soon_irr]
  · rw [g_snoc l x _ (by omega)]
    exact h _ (g_mem _ _ (by omega))

/-! What stands at the top. -/
def popL (l : List NT) : List NT := (downL (l.length - 1) (swapL l 0 (l.length - 1)) 0 (l.length - 1)).take (l.length - 1)
theorem heap_top {l : List NT} {n : Nat} (h : Heap l n) : ∀ j, j < n → soon (g l j) (g l 0) = false := by
  intro j
  induction j using Nat.strongRecOn with
  | _ j ih =>
    intro hj
    by_cases e : j = 0
    · subst e; exact soon_irr _
    · exact le_trans' (ih ((j - 1) / 2) (by omega) (by omega)) (h j (by omega) hj)
theorem g_take (l : List NT) (n k : Nat) (hk : k < n) : g (l.take n) k = g l k := by
  unfold g
  rw [List.getD_eq_getElem?_getD, List.getD_eq_getElem?_getD, List.getElem?_take_of_lt hk]
theorem length_pop (l : List NT) : (popL l).length = l.length - 1 := by
  unfold popL; rw [List.length_take, length_down, length_swap]; omega
theorem pop_heap (l : List NT) (h : Heap l l.length) : Heap (popL l) (l.length - 1) := by
  by_cases e : l.length = 0
  · intro j h0 hj; omega
  have hs := heap_down (l.length - 1) (swapL l 0 (l.length - 1)) 0 (l.length - 1) (by rw [length_swap]; omega) (by omega) ⟨fun j h0 hj hne => by
    rw [g_swap l 0 _ j (by omega) (by omega), g_swap l 0 _ _ (by omega) (by omega), if_neg (by omega), if_neg (by omega), if_neg (by omega), if_neg (by omega)]
    exact h j h0 (by omega), fun j h0 hj he hp => by omega⟩
  intro j h0 hj
  unfold popL
  rw [g_take _ _ _ hj, g_take _ _ _ (by omega)]
  exact hs j h0 hj
theorem take_snoc_g (l : List NT) (n : Nat) (hn : n + 1 = l.length) : l = l.take n ++ [g l n] := by
  have := eq_take l n (by omega)
  rw [List.drop_eq_nil_of_le (by omega)] at this
  exact this
theorem pop_last (l : List NT) (h : 0 < l.length) : g (downL (l.length - 1) (swapL l 0 (l.length - 1)) 0 (l.length - 1)) (l.length - 1) = g l 0 := by
  by_cases e : l.length = 1
  · rw [e]; simp [downL, swapL, g_set, e]
  · rw [g_down _ _ _ _ _ (by omega) (by rw [length_swap]; omega) (by omega), g_swap l _ _ _ (by omega) (by omega), if_pos rfl]
theorem pop_perm (l : List NT) (h : 0 < l.length) : l.Perm (g l 0 :: popL l) := by
  have hd : (downL (l.length - 1) (swapL l 0 (l.length - 1)) 0 (l.length - 1)).Perm l := by
    by_cases e : l.length = 1
    · rw [e]; exact perm_swap l 0 0 h h
    · exact (perm_down _ _ _ _ (by omega) (by rw [length_swap]; omega)).trans (perm_swap l _ _ h (by omega))
  have e := take_snoc_g (downL (l.length - 1) (swapL l 0 (l.length - 1)) 0 (l.length - 1)) (l.length - 1) (by rw [length_down, length_swap]; omega)
  rw [pop_last l h] at e
  refine hd.symm.trans ?_
  rw [e]
  exact List.perm_append_comm
/-- A list that stands strictly in its order. -/
def Sorted (s : List NT) : Prop := s.Pairwise (fun a b => soon a b = true)
theorem pop_sorted {l : List NT} {x : NT} {s : List NT} (h : Heap l l.length) (hp : l.Perm (x :: s)) (hs : Sorted (x :: s)) : g l 0 = x ∧ (popL l).Perm s := by
  have hlen := hp.length_eq
  simp at hlen
  have e : g l 0 = x := by
    have hm : g l 0 ∈ x :: s := hp.subset (g_mem l 0 (by omega))
    rcases List.mem_cons.1 hm with e | hm
    · exact e
    · have h1 : soon x (g l 0) = true := (List.pairwise_cons.1 hs).1 _ hm
      obtain ⟨i, hi, ei⟩ := mem_g l x (hp.symm.subset (List.mem_cons_self))
      have h2 := heap_top h i hi
      rw [ei, h1] at h2
      cases h2
  refine ⟨e, ?_⟩
  have h2 := (pop_perm l (by omega)).symm.trans hp
  rw [e] at h2
  exact (List.perm_cons _).1 h2
theorem heap_sorted {s : List NT} (h : ∀ a b, a < b → b < s.length → soon (g s b) (g s a) = false) : Heap s s.length := fun j h0 hj => h _ j (by omega) hj
theorem sorted_le {s : List NT} (h : Sorted s) : ∀ a b, a < b → b < s.length → soon (g s b) (g s a) = false := by
  intro a b hab hb
  have := List.pairwise_iff_getElem.1 h a b (by omega) hb hab
  have ea : g s a = s[a] := by unfold g; rw [List.getD_eq_getElem?_getD, List.getElem?_eq_getElem (by omega)]; rfl
  have eb : g s b = s[b] := by unfold g; rw [List.getD_eq_getElem?_getD, List.getElem?_eq_getElem hb]; rfl
  rw [ea, eb]; exact le_of_lt this
end Go.Proofs.Ytfahfbeemgigcaa.Th
