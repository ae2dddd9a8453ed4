/-
  The plain mathematics of going down a tree of tokens (no program in it): who is met, and that sorted they are those beneath.
-/
import Derived.Test.YtgklnpkeffobnaaBB8
namespace Go.Proofs.Ytgklnpkeffobnaa
open Go.RowKit Pl Il

/-- Who is met going down from x: itself, then each child's, in their order. -/
def downL (ps : List Int) (n : Nat) : Nat → Nat → List Int
  | 0, _ => []
  | f + 1, x => (x : Int) :: (List.range n).flatMap fun y => if ps.getD y 0 = (x : Int) then downL ps n f y else []
/-- The part of x's children below k. -/
def kidsL (ps : List Int) (n f x k : Nat) : List Int := (List.range k).flatMap fun y => if ps.getD y 0 = (x : Int) then downL ps n f y else []
theorem kids_zero (ps : List Int) (n f x : Nat) : kidsL ps n f x 0 = [] := rfl
theorem kids_yes {ps : List Int} {n f x k : Nat} (h : ps.getD k 0 = (x : Int)) : kidsL ps n f x (k + 1) = kidsL ps n f x k ++ downL ps n f k := by
  unfold kidsL; rw [List.range_succ, List.flatMap_append, List.flatMap_singleton, if_pos h]
theorem kids_no {ps : List Int} {n f x k : Nat} (h : ¬ ps.getD k 0 = (x : Int)) : kidsL ps n f x (k + 1) = kidsL ps n f x k := by
  unfold kidsL; rw [List.range_succ, List.flatMap_append, List.flatMap_singleton, if_neg h, List.append_nil]
theorem kids_le (ps : List Int) (n f x : Nat) {k m : Nat} (h : k ≤ m) : (kidsL ps n f x k).length ≤ (kidsL ps n f x m).length := by
  induction h with
  | refl => exact Nat.le_refl _
  | step _ ih =>
    rename_i m _
    by_cases e : ps.getD m 0 = (x : Int)
    · rw [kids_yes e, List.length_append]; omega
    · rw [kids_no e]; exact ih
theorem down_succ (ps : List Int) (n f x : Nat) : downL ps n (f + 1) x = (x : Int) :: kidsL ps n f x n := rfl

def upGo (ps : List Int) (x : Nat) : Nat → Nat → Nat
  | 0, _ => 0
  | f + 1, y => if y = x then 1 else if 0 ≤ ps.getD y 0 ∧ (ps.getD y 0).toNat < y then upGo ps x f (ps.getD y 0).toNat else 0
theorem upGo_any (ps : List Int) (x : Nat) : ∀ f g y, y < f → y < g → upGo ps x f y = upGo ps x g y
  | 0, _, _, h, _ => by omega
  | _ + 1, 0, _, _, h => by omega
  | f + 1, g + 1, y, h1, h2 => by
    rw [upGo, upGo]
    split
    · rfl
    · split
      · rename_i h; exact upGo_any ps x f g _ (by omega) (by omega)
      · rfl
/-- 1 where y is x or beneath it, else 0. -/
def upTo (ps : List Int) (x y : Nat) : Nat := upGo ps x (y + 1) y
theorem up_eq (ps : List Int) (x y : Nat) : upTo ps x y = if y = x then 1 else if 0 ≤ ps.getD y 0 ∧ (ps.getD y 0).toNat < y then upTo ps x (ps.getD y 0).toNat else 0 := by
  unfold upTo
  rw [upGo]
  split
  · rfl
  · split
    · rename_i h; exact upGo_any ps x _ _ _ (by omega) (by omega)
    · rfl
theorem up_self (ps : List Int) (x : Nat) : upTo ps x x = 1 := by rw [up_eq, if_pos rfl]
theorem up_low (ps : List Int) (x : Nat) : ∀ y, y < x → upTo ps x y = 0 := by
  intro y
  induction y using Nat.strongRecOn with
  | ind y ih =>
    intro hy
    rw [up_eq, if_neg (by omega)]
    split
    · rename_i h; exact ih _ h.2 (by omega)
    · rfl
theorem up_one (ps : List Int) (x : Nat) : ∀ y, upTo ps x y = 0 ∨ upTo ps x y = 1 := by
  intro y
  induction y using Nat.strongRecOn with
  | ind y ih =>
    rw [up_eq]
    split
    · exact .inr rfl
    · split
      · rename_i h; exact ih _ h.2
      · exact .inl rfl
theorem up_par {ps : List Int} {x y q : Nat} (hy : y ≠ x) (h : ps.getD y 0 = (q : Int)) (hq : q < y) : upTo ps x y = upTo ps x q := by
  rw [up_eq, if_neg hy, if_pos (by rw [h]; exact ⟨by omega, by simpa using hq⟩), h, Int.toNat_natCast]
theorem up_none {ps : List Int} {x y : Nat} (hy : y ≠ x) (h : ps.getD y 0 < 0) : upTo ps x y = 0 := by
  rw [up_eq, if_neg hy, if_neg (by omega)]

theorem sum_add {α : Type} (f g : α → Nat) : ∀ l : List α, (l.map fun c => f c + g c).sum = (l.map f).sum + (l.map g).sum
  | [] => rfl
  | a :: l => by simp only [List.map_cons, List.sum_cons, sum_add f g l]; omega
theorem sum_one (a y : Nat) : ∀ n, ((List.range n).map fun c => if c = y then a else 0).sum = if y < n then a else 0
  | 0 => by simp
  | n + 1 => by
    rw [List.range_succ, List.map_append, List.sum_append, sum_one a y n]
    simp only [List.map_cons, List.map_nil, List.sum_cons, List.sum_nil]
    by_cases h : y < n
    · rw [if_pos h, if_neg (by omega), if_pos (by omega)]; omega
    · rw [if_neg h]
      by_cases e : n = y
      · rw [if_pos e, if_pos (by omega)]; omega
      · rw [if_neg e, if_neg (by omega)]; rfl
theorem sum_zero {α : Type} (f : α → Nat) : ∀ l : List α, (∀ c ∈ l, f c = 0) → (l.map f).sum = 0
  | [], _ => rfl
  | a :: l, h => by
    rw [List.map_cons, List.sum_cons, h a (List.mem_cons_self), sum_zero f l (fun c hc => h c (List.mem_cons_of_mem _ hc))]

/-- Each parent is -1 or a number below. -/
def parR (ps : List Int) (n : Nat) : Prop := ∀ i, i < n → -1 ≤ ps.getD i 0 ∧ ps.getD i 0 ≤ (i : Int) - 1
theorem sum_kids {ps : List Int} {n x : Nat} (hp : parR ps n) : ∀ y, y < n → ((List.range n).map fun c => if ps.getD c 0 = (x : Int) then upTo ps c y else 0).sum = if y = x then 0 else upTo ps x y := by
  intro y
  induction y using Nat.strongRecOn with
  | ind y ih =>
    intro hy
    by_cases e : y = x
    · subst e
      rw [if_pos rfl]
      refine sum_zero _ _ fun c hc => ?_
      split
      · rename_i h
        have := hp c (List.mem_range.1 hc)
        exact up_low ps c y (by omega)
      · rfl
    · rw [if_neg e]
      obtain ⟨h1, h2⟩ := hp y hy
      by_cases hneg : ps.getD y 0 = -1
      · rw [up_none e (by omega)]
        refine sum_zero _ _ fun c hc => ?_
        split
        · rename_i h
          have hcy : y ≠ c := by rintro rfl; omega
          exact up_none hcy (by omega)
        · rfl
      · obtain ⟨q, hq⟩ := Int.eq_ofNat_of_zero_le (show 0 ≤ ps.getD y 0 by omega)
        have hqy : q < y := by omega
        have key : ((List.range n).map fun c => if ps.getD c 0 = (x : Int) then upTo ps c y else 0) = (List.range n).map fun c => (if ps.getD c 0 = (x : Int) then upTo ps c q else 0) + (if c = y then (if ps.getD y 0 = (x : Int) then 1 else 0) else 0) := by
          refine List.map_congr_left fun c hc => ?_
          by_cases ec : c = y
          · subst ec
            rw [if_pos rfl, up_self, up_low ps c q hqy]
            split <;> simp
          · rw [if_neg ec, Nat.add_zero, up_par (Ne.symm ec) hq hqy]
        rw [key, sum_add, sum_one, if_pos hy, ih q hqy (by omega), up_par e hq hqy]
        by_cases eq : q = x
        · subst eq
          rw [if_pos rfl, if_pos hq, up_self]
        · rw [if_neg eq, if_neg (by omega)]; omega
theorem down_mem {ps : List Int} {n : Nat} : ∀ (f x : Nat), x < n → ∀ a ∈ downL ps n f x, 0 ≤ a ∧ a < (n : Int)
  | 0, _, _ => fun a h => by cases h
  | f + 1, x, hx => fun a h => by
    rw [down_succ, List.mem_cons] at h
    rcases h with rfl | h
    · omega
    · unfold kidsL at h
      obtain ⟨y, hy, ha⟩ := List.mem_flatMap.1 h
      split at ha
      · exact down_mem f y (List.mem_range.1 hy) a ha
      · cases ha
theorem down_count {ps : List Int} {n : Nat} (hp : parR ps n) : ∀ (f x : Nat), n - x ≤ f → x < n → ∀ y, y < n → List.count (y : Int) (downL ps n f x) = upTo ps x y
  | 0, x, hf, hx => by omega
  | f + 1, x, hf, hx => fun y hy => by
    rw [down_succ, List.count_cons]
    unfold kidsL
    rw [List.count_flatMap]
    have key : (List.range n).map (List.count (y : Int) ∘ fun c => if ps.getD c 0 = (x : Int) then downL ps n f c else []) = (List.range n).map fun c => if ps.getD c 0 = (x : Int) then upTo ps c y else 0 := by
      refine List.map_congr_left fun c hc => ?_
      simp only [Function.comp_apply]
      by_cases h : ps.getD c 0 = (x : Int)
      · rw [if_pos h, if_pos h]
        have hcn := List.mem_range.1 hc
        have := hp c hcn
        exact down_count hp f c (by omega) hcn y hy
      · rw [if_neg h, if_neg h]; rfl
    rw [key, sum_kids hp y hy]
    by_cases e : y = x
    · subst e; simp [up_self]
    · have : ¬ (x : Int) = (y : Int) := by omega
      rw [if_neg e]
      simp [this]
theorem under_in (ps : List Int) (x : Nat) : ∀ j, ∀ a ∈ underGo ps x j, (x : Int) ≤ a ∧ a < (x : Int) + (j : Int)
  | 0 => fun a h => by cases h
  | j + 1 => fun a h => by
    cases hc : ((j == 0) || hasL (underGo ps x j) (ps.getD (x + j) 0))
    · rw [under_no hc] at h
      have := under_in ps x j a h
      omega
    · rw [under_yes hc, List.mem_append, List.mem_singleton] at h
      rcases h with h | rfl
      · have := under_in ps x j a h
        omega
      · omega
theorem under_up (ps : List Int) (x : Nat) : ∀ j, (underGo ps x j).Pairwise (· < ·)
  | 0 => List.Pairwise.nil
  | j + 1 => by
    cases hc : ((j == 0) || hasL (underGo ps x j) (ps.getD (x + j) 0))
    · rw [under_no hc]; exact under_up ps x j
    · rw [under_yes hc, List.pairwise_append]
      refine ⟨under_up ps x j, List.pairwise_singleton _ _, fun a ha b hb => ?_⟩
      rw [List.mem_singleton] at hb
      have := under_in ps x j a ha
      omega
theorem under_count {ps : List Int} {n x : Nat} (hp : parR ps n) : ∀ j, x + j ≤ n → ∀ y : Nat, List.count (y : Int) (underGo ps x j) = if x ≤ y ∧ y < x + j then upTo ps x y else 0
  | 0, _ => fun y => by rw [if_neg (by omega)]; rfl
  | j + 1, hj => fun y => by
    have ih := under_count (x := x) hp j (by omega)
    obtain ⟨h1, h2⟩ := hp (x + j) (by omega)
    have hprev : List.count ((x + j : Nat) : Int) (underGo ps x j) = 0 := by rw [ih (x + j), if_neg (by omega)]
    cases hc : ((j == 0) || hasL (underGo ps x j) (ps.getD (x + j) 0))
    · have hj0 : j ≠ 0 := by rintro rfl; simp at hc
      have hno : hasL (underGo ps x j) (ps.getD (x + j) 0) = false := by
        rw [Bool.or_eq_false_iff] at hc; exact hc.2
      have hz : upTo ps x (x + j) = 0 := by
        by_cases hneg : ps.getD (x + j) 0 = -1
        · exact up_none (by omega) (by omega)
        · obtain ⟨q, hq⟩ := Int.eq_ofNat_of_zero_le (show 0 ≤ ps.getD (x + j) 0 by omega)
          rw [up_par (by omega) hq (by omega)]
          by_cases hqx : q < x
          · exact up_low ps x q hqx
          · have hz := ih q
            rw [if_pos (by omega)] at hz
            rw [hq] at hno
            have : List.count (q : Int) (underGo ps x j) = 0 := List.count_eq_zero.2 (by simpa [hasL] using hno)
            omega
      rw [under_no hc, ih y]
      by_cases e : y = x + j
      · subst e
        rw [if_neg (by omega), if_pos (by omega), hz]
      · by_cases h : x ≤ y ∧ y < x + j
        · rw [if_pos h, if_pos (by omega)]
        · rw [if_neg h, if_neg (by omega)]
    · have hone : upTo ps x (x + j) = 1 := by
        by_cases hj0 : j = 0
        · subst hj0; exact up_self ps x
        · have hyes : hasL (underGo ps x j) (ps.getD (x + j) 0) = true := by
            have : (j == 0) = false := by simpa using hj0
            rw [this, Bool.false_or] at hc; exact hc
          have hm : ps.getD (x + j) 0 ∈ underGo ps x j := by simpa [hasL] using hyes
          have hb := under_in ps x j _ hm
          obtain ⟨q, hq⟩ := Int.eq_ofNat_of_zero_le (show 0 ≤ ps.getD (x + j) 0 by omega)
          rw [up_par (by omega) hq (by omega)]
          rw [hq] at hm
          have h3 := ih q
          rw [if_pos (by omega)] at h3
          have h4 : 0 < List.count (q : Int) (underGo ps x j) := List.count_pos_iff.2 hm
          rcases up_one ps x q with h | h
          · omega
          · exact h
      rw [under_yes hc, List.count_append, ih y]
      by_cases e : y = x + j
      · subst e
        rw [if_neg (by omega), if_pos (by omega), hone]
        simp
      · have hne : ¬ (x : Int) + (j : Int) = (y : Int) := by omega
        by_cases h : x ≤ y ∧ y < x + j
        · rw [if_pos h, if_pos (by omega)]
          simp only [List.count_singleton]
          simp [hne]
        · rw [if_neg h, if_neg (by omega)]
          simp only [List.count_singleton]
          simp [hne]
/-- Who is met going down are those beneath. -/
theorem down_perm {ps : List Int} {n f x : Nat} (hp : parR ps n) (hf : n - x ≤ f) (hx : x < n) : (downL ps n f x).Perm (underGo ps x (n - x)) := by
  rw [List.perm_iff_count]
  intro a
  by_cases h : 0 ≤ a ∧ a < (n : Int)
  · obtain ⟨y, rfl⟩ := Int.eq_ofNat_of_zero_le h.1
    rw [down_count hp f x hf hx y (by omega), under_count hp (n - x) (by omega) y]
    by_cases hy : y < x
    · rw [if_neg (by omega), up_low ps x y hy]
    · rw [if_pos (by omega)]
  · rw [List.count_eq_zero.2 (fun hm => h (down_mem f x hx a hm)), List.count_eq_zero.2 (fun hm => h (by have := under_in ps x _ a hm; omega))]
theorem sort_eq {l u : List Int} (hp : l.Perm u) (hs : u.Pairwise (· < ·)) : (l.mergeSort fun x y => decide (x ≤ y)) = u := by
  refine List.Perm.eq_of_pairwise (le := fun a b => a ≤ b) (fun a b _ _ h1 h2 => by omega) ?_ (hs.imp (fun h => by omega)) ((List.mergeSort_perm _ _).trans hp)
  refine (List.pairwise_mergeSort (le := fun x y : Int => decide (x ≤ y)) (fun a b c h1 h2 => ?_) (fun a b => ?_) l).imp (fun h => by simpa using h)
  · simp only [decide_eq_true_eq] at h1 h2 ⊢; omega
  · simp only [Bool.or_eq_true, decide_eq_true_eq]; omega

/-- Those that are not off. -/
def notOff (qs : List Bool) (l : List Int) : List Int := l.filter fun a => !qs.getD a.toNat false
def setAll (qs : List Bool) (l : List Int) : List Bool := l.foldl (fun q a => q.set a.toNat true) qs
theorem getD_set (q : List Bool) (i j : Nat) : (q.set i true).getD j false = (q.getD j false || (decide (i = j) && decide (j < q.length))) := by
  simp only [List.getD, List.getElem?_set]
  by_cases e : i = j
  · subst e
    by_cases h : i < q.length
    · simp [h]
    · simp [h]
  · simp [e]
theorem set_id {q : List Bool} {i : Nat} (h : q.getD i false = true) : q.set i true = q := by
  refine List.ext_getElem? fun j => ?_
  rw [List.getElem?_set]
  by_cases e : i = j
  · subst e
    by_cases hl : i < q.length
    · simp only [List.getD, List.getElem?_eq_getElem hl, Option.getD_some] at h
      simp [hl, h]
    · simp [hl]
  · simp [e]
theorem setAll_len : ∀ (l : List Int) (q : List Bool), (setAll q l).length = q.length
  | [], _ => rfl
  | a :: l, q => by
    show (setAll (q.set a.toNat true) l).length = _
    rw [setAll_len l, List.length_set]
theorem setAll_at : ∀ (l : List Int) (q : List Bool) (j : Nat), (∀ a ∈ l, 0 ≤ a) → (setAll q l).getD j false = (q.getD j false || (decide ((j : Int) ∈ l) && decide (j < q.length)))
  | [], q, j, _ => by simp [setAll]
  | a :: l, q, j, h => by
    show (setAll (q.set a.toNat true) l).getD j false = _
    rw [setAll_at l _ j (fun b hb => h b (List.mem_cons_of_mem _ hb)), getD_set, List.length_set]
    have ha := h a List.mem_cons_self
    have e : decide ((j : Int) ∈ a :: l) = (decide (a.toNat = j) || decide ((j : Int) ∈ l)) := by
      rw [Bool.eq_iff_iff]
      simp only [List.mem_cons, decide_eq_true_eq, Bool.or_eq_true]
      constructor
      · rintro (h | h)
        · exact .inl (by omega)
        · exact .inr h
      · rintro (h | h)
        · exact .inl (by omega)
        · exact .inr h
    rw [e]
    cases q.getD j false <;> cases decide (a.toNat = j) <;> cases decide ((j : Int) ∈ l) <;> simp
theorem setAll_perm {l u : List Int} (hp : l.Perm u) (hl : ∀ a ∈ l, 0 ≤ a) (q : List Bool) : setAll q l = setAll q u := by
  refine List.ext_getElem (by rw [setAll_len, setAll_len]) fun j h1 h2 => ?_
  have e1 : (setAll q l).getD j false = (setAll q l)[j] := by simp [List.getD, List.getElem?_eq_getElem h1]
  have e2 : (setAll q u).getD j false = (setAll q u)[j] := by simp [List.getD, List.getElem?_eq_getElem h2]
  rw [← e1, ← e2, setAll_at l q j hl, setAll_at u q j (fun a ha => hl a (hp.mem_iff.2 ha))]
  simp only [hp.mem_iff]
theorem fold_cancel : ∀ (l : List Int) (s : List Bool × List Int), (∀ a ∈ l, 0 ≤ a) → l.Nodup → l.foldl cancelStep s = (setAll s.1 l, s.2 ++ notOff s.1 l)
  | [], s, _, _ => by simp [setAll, notOff]
  | a :: l, s, h, hd => by
    rw [List.nodup_cons] at hd
    have ih := fold_cancel l (cancelStep s a) (fun b hb => h b (List.mem_cons_of_mem _ hb)) hd.2
    rw [List.foldl_cons, ih]
    cases ho : s.1.getD a.toNat false
    · rw [cancel_no ho]
      have hf : notOff (s.1.set a.toNat true) l = notOff s.1 l := by
        unfold notOff
        refine List.filter_congr fun b hb => ?_
        have hb0 := h b (List.mem_cons_of_mem _ hb)
        have ha0 := h a List.mem_cons_self
        have hne : ¬ a.toNat = b.toNat := fun e => hd.1 ((show a = b by omega) ▸ hb)
        rw [getD_set, decide_eq_false hne]
        simp
      simp only [hf]
      refine Prod.ext rfl ?_
      show (s.2 ++ [a]) ++ notOff s.1 l = s.2 ++ notOff s.1 (a :: l)
      unfold notOff
      rw [List.filter_cons_of_pos (by rw [ho]; rfl), List.append_assoc]; rfl
    · rw [cancel_yes ho]
      refine Prod.ext ?_ ?_
      · show setAll s.1 l = setAll (s.1.set a.toNat true) l
        rw [set_id ho]
      · show s.2 ++ notOff s.1 l = s.2 ++ notOff s.1 (a :: l)
        unfold notOff
        rw [List.filter_cons_of_neg (by rw [ho]; simp)]
/-- What going down does to who is off, and whom it tells, sorted: what Cancel answers. -/
theorem down_cancel {ps : List Int} {qs : List Bool} {n f x : Nat} (hl : tokL ps qs = true) (hx : tokIs ps (x : Int) = true) (hn : ps.length = n) (hp : parR ps n) (hf : n - x ≤ f) (hxn : x < n) :
    cancelL ps qs (x : Int) = (((downL ps n f x).foldl cancelStep (qs, [])).1, (((downL ps n f x).foldl cancelStep (qs, [])).2.mergeSort fun a b => decide (a ≤ b)), 0) := by
  have hperm := down_perm hp hf hxn
  have hup := under_up ps x (n - x)
  have hnd : (underGo ps x (n - x)).Nodup := hup.imp (fun h => by omega)
  have hmd : ∀ a ∈ downL ps n f x, 0 ≤ a := fun a ha => (down_mem f x hxn a ha).1
  have hmu : ∀ a ∈ underGo ps x (n - x), 0 ≤ a := fun a ha => hmd a (hperm.mem_iff.2 ha)
  rw [cancel_done hl hx, under_good hl hx, hn]
  unfold cancelTo
  rw [List.take_length, fold_cancel _ (qs, []) hmu hnd, fold_cancel _ (qs, []) hmd (hperm.nodup_iff.2 hnd)]
  refine Prod.ext ?_ (Prod.ext ?_ rfl)
  · exact (setAll_perm hperm hmd qs).symm
  · simp only [List.nil_append]
    exact (sort_eq (hperm.filter _) (hup.filter _)).symm
theorem down_under {ps : List Int} {qs : List Bool} {n f x : Nat} (hl : tokL ps qs = true) (hx : tokIs ps (x : Int) = true) (hn : ps.length = n) (hp : parR ps n) (hf : n - x ≤ f) (hxn : x < n) :
    underL ps qs (x : Int) = (downL ps n f x).mergeSort fun a b => decide (a ≤ b) := by
  rw [under_good hl hx, hn]
  exact (sort_eq (down_perm hp hf hxn) (under_up ps x (n - x))).symm
end Go.Proofs.Ytgklnpkeffobnaa
