/-
  The plain mathematics of cancelling (no program in it): who is off afterwards, who is told, and what is born beneath.
-/
import Derived.Test.YtgklnpkeffobnaaTD
namespace Go.Proofs.Ytgklnpkeffobnaa
open Go.RowKit Pl Il

theorem tokL_par {ps : List Int} {qs : List Bool} (h : tokL ps qs = true) : parR ps ps.length := by
  intro i hi
  simp only [tokL, Bool.and_eq_true, tokTo, List.all_eq_true, List.mem_range] at h
  have := h.2 i hi
  simp only [tokAt, Bool.and_eq_true, decide_eq_true_eq] at this
  exact ⟨this.1.1, this.1.2⟩
theorem tokL_off {ps : List Int} {qs : List Bool} (h : tokL ps qs = true) {i j : Nat} (hi : i < ps.length) (hj : ps.getD i 0 = (j : Int)) (ho : qs.getD j false = true) : qs.getD i false = true := by
  simp only [tokL, Bool.and_eq_true, tokTo, List.all_eq_true, List.mem_range] at h
  have := h.2 i hi
  simp only [tokAt, Bool.and_eq_true, hj, Int.toNat_natCast, ho] at this
  have h2 := this.2
  cases hq : qs.getD i false
  · rw [hq] at h2; simp at h2
  · rfl
theorem tokL_mk {ps : List Int} {qs : List Bool} (hl : ps.length = qs.length) (h24 : ps.length ≤ 24) (hp : parR ps ps.length) (ho : ∀ i j, i < ps.length → ps.getD i 0 = ((j : Nat) : Int) → qs.getD j false = true → qs.getD i false = true) : tokL ps qs = true := by
  refine tok_end hl h24 ?_
  simp only [tokTo, List.all_eq_true, List.mem_range]
  intro i hi
  obtain ⟨h1, h2⟩ := hp i hi
  unfold tokAt
  rw [decide_eq_true h1, decide_eq_true h2]
  by_cases h0 : 0 ≤ ps.getD i 0
  · obtain ⟨j, hj⟩ := Int.eq_ofNat_of_zero_le h0
    rw [hj, Int.toNat_natCast]
    cases hq : qs.getD j false
    · simp
    · rw [ho i j hi hj hq]; simp
  · rw [decide_eq_false h0]; rfl
/-- Those beneath x, for a right x. -/
theorem under_has {ps : List Int} {n x : Nat} (hp : parR ps n) (hx : x < n) (y : Nat) (hy : y < n) : ((y : Int) ∈ underGo ps x (n - x)) ↔ upTo ps x y = 1 := by
  have hc := under_count (x := x) hp (n - x) (by omega) y
  rw [← List.count_pos_iff, hc]
  by_cases h : x ≤ y ∧ y < x + (n - x)
  · rw [if_pos h]
    rcases up_one ps x y with e | e <;> omega
  · rw [if_neg h, up_low ps x y (by omega)]; simp
/-- What a right Cancel does. -/
structure Can (ps : List Int) (qs : List Bool) (x : Nat) (qs' : List Bool) (told : List Int) : Prop where
  ok : tokL ps qs' = true
  len : qs'.length = qs.length
  off : ∀ i, i < ps.length → qs'.getD i false = (qs.getD i false || hasL (underL ps qs (x : Int)) (i : Int))
  told : ∀ i, i < ps.length → hasL told (i : Int) = (hasL (underL ps qs (x : Int)) (i : Int) && !qs.getD i false)
  self : hasL (underL ps qs (x : Int)) (x : Int) = true
theorem cancel_can {ps : List Int} {qs : List Bool} {x : Nat} (hl : tokL ps qs = true) (hx : tokIs ps (x : Int) = true) : Can ps qs x (cancelL ps qs (x : Int)).1 (cancelL ps qs (x : Int)).2.1 ∧ (cancelL ps qs (x : Int)).2.2 = 0 := by
  obtain ⟨hlen, h24⟩ := tokL_len hl
  obtain ⟨_, hxn⟩ := tokIs_lt hx
  rw [Int.toNat_natCast] at hxn
  have hp := tokL_par hl
  have hu := under_good hl hx
  have hup := under_up ps x (ps.length - x)
  have hnd : (underGo ps x (ps.length - x)).Nodup := hup.imp (fun h => by omega)
  have hmu : ∀ a ∈ underGo ps x (ps.length - x), 0 ≤ a := fun a ha => by have := under_in ps x _ a ha; omega
  have hc : cancelL ps qs (x : Int) = (setAll qs (underGo ps x (ps.length - x)), notOff qs (underGo ps x (ps.length - x)), 0) := by
    rw [cancel_done hl hx, hu]
    unfold cancelTo
    rw [List.take_length, fold_cancel _ (qs, []) hmu hnd]
    rfl
  have hoff : ∀ i, i < ps.length → (setAll qs (underGo ps x (ps.length - x))).getD i false = (qs.getD i false || hasL (underL ps qs (x : Int)) (i : Int)) := fun i hi => by
    rw [setAll_at _ _ _ hmu, hu, decide_eq_true (show i < qs.length by omega), Bool.and_true]
    unfold hasL
    congr 1
    rw [Bool.eq_iff_iff]; simp
  rw [hc]
  refine ⟨⟨?_, setAll_len _ _, hoff, ?_, ?_⟩, rfl⟩
  · refine tokL_mk (by rw [setAll_len]; exact hlen) h24 hp ?_
    intro i j hi hj ho
    have hji : j < i := by have := hp i hi; omega
    rw [hoff j (by omega)] at ho
    rw [hoff i hi]
    rw [Bool.or_eq_true] at ho
    rcases ho with h | h
    · rw [tokL_off hl hi hj h]; rfl
    · have hm : (j : Int) ∈ underGo ps x (ps.length - x) := by rw [hu] at h; simpa [hasL] using h
      have h1 := (under_has hp hxn j (by omega)).1 hm
      have h2 : upTo ps x i = 1 := by
        by_cases e : i = x
        · rw [e]; exact up_self ps x
        · rw [up_par e hj hji]; exact h1
      have hm2 := (under_has hp hxn i hi).2 h2
      have : hasL (underL ps qs (x : Int)) (i : Int) = true := by rw [hu]; simpa [hasL] using hm2
      rw [this, Bool.or_true]
  · intro i hi
    rw [hu]
    unfold notOff hasL
    rw [Bool.eq_iff_iff]
    simp only [List.contains_eq_mem, List.mem_filter, Int.toNat_natCast, decide_eq_true_eq, Bool.and_eq_true]
  · rw [hu]
    have := (under_has hp hxn x hxn).2 (up_self ps x)
    simpa [hasL] using this
theorem notOff_none {qs : List Bool} {l : List Int} (h : ∀ a ∈ l, qs.getD a.toNat false = true) : notOff qs l = [] := by
  unfold notOff
  rw [List.filter_eq_nil_iff]
  intro a ha
  rw [h a ha]; simp
theorem setAll_id : ∀ (l : List Int) (q : List Bool), (∀ a ∈ l, q.getD a.toNat false = true) → setAll q l = q
  | [], _, _ => rfl
  | a :: l, q, h => by
    show setAll (q.set a.toNat true) l = q
    rw [set_id (h a List.mem_cons_self)]
    exact setAll_id l q (fun b hb => h b (List.mem_cons_of_mem _ hb))
/-- Cancelled again none goes off. -/
theorem cancel_again {ps : List Int} {qs qs' : List Bool} {x : Nat} {told : List Int} (hl : tokL ps qs = true) (hx : tokIs ps (x : Int) = true) (hC : Can ps qs x qs' told) : cancelL ps qs' (x : Int) = (qs', [], 0) := by
  obtain ⟨_, hxn⟩ := tokIs_lt hx
  rw [Int.toNat_natCast] at hxn
  have hu := under_good hl hx
  have hup := under_up ps x (ps.length - x)
  have hnd : (underGo ps x (ps.length - x)).Nodup := hup.imp (fun h => by omega)
  have hmu : ∀ a ∈ underGo ps x (ps.length - x), 0 ≤ a := fun a ha => by have := under_in ps x _ a ha; omega
  have hoff : ∀ a ∈ underGo ps x (ps.length - x), qs'.getD a.toNat false = true := fun a ha => by
    have h1 := under_in ps x _ a ha
    obtain ⟨i, rfl⟩ := Int.eq_ofNat_of_zero_le (hmu a ha)
    rw [Int.toNat_natCast, hC.off i (by omega), hu]
    have : hasL (underGo ps x (ps.length - x)) (i : Int) = true := by simpa [hasL] using ha
    rw [this, Bool.or_true]
  rw [cancel_done hC.ok hx, under_good hC.ok hx]
  unfold cancelTo
  rw [List.take_length, fold_cancel _ (qs', []) hmu hnd]
  simp only [setAll_id _ _ hoff, notOff_none hoff, List.append_nil]
theorem getD_app {α : Type} {xs : List α} {y d : α} {i : Nat} (h : i < xs.length) : (xs ++ [y]).getD i d = xs.getD i d := by
  simp only [List.getD]
  rw [List.getElem?_append_left h]
theorem getD_end {α : Type} {xs : List α} {y d : α} : (xs ++ [y]).getD xs.length d = y := by simp [List.getD]
/-- What is born beneath one that is off is off. -/
theorem born_off {ps : List Int} {qs qs' : List Bool} {x : Nat} {told : List Int} (hx : tokIs ps (x : Int) = true) (hC : Can ps qs x qs' told) (h24 : ¬ 24 ≤ ps.length) : offL (ps ++ [(x : Int)]) (qs' ++ [bornL qs' (x : Int)]) (ps.length : Int) = true := by
  obtain ⟨_, hxn⟩ := tokIs_lt hx
  rw [Int.toNat_natCast] at hxn
  obtain ⟨hlen, _⟩ := tokL_len hC.ok
  have hxo : qs'.getD x false = true := by rw [hC.off x hxn, hC.self, Bool.or_true]
  have hb : bornL qs' (x : Int) = true := by simp only [bornL, Int.toNat_natCast, hxo]; simp
  rw [hb]
  have hp := tokL_par hC.ok
  have hok : tokL (ps ++ [(x : Int)]) (qs' ++ [true]) = true := by
    refine tokL_mk (by simp [hlen]) (by simp; omega) ?_ ?_
    · intro i hi
      rw [List.length_append, List.length_singleton] at hi
      by_cases e : i = ps.length
      · subst e; rw [getD_end]; omega
      · rw [getD_app (by omega)]; exact hp i (by omega)
    · intro i j hi hj ho
      rw [List.length_append, List.length_singleton] at hi
      by_cases e : i = ps.length
      · subst e; rw [hlen, getD_end]
      · rw [getD_app (by omega)] at hj
        have hji : j < i := by have := hp i (by omega); omega
        rw [getD_app (by omega)] at ho ⊢
        exact tokL_off hC.ok (by omega) hj ho
  refine off_good hok ?_ (by rw [hlen, getD_end])
  simp only [tokIs, List.length_append, List.length_singleton, Bool.and_eq_true, decide_eq_true_eq]
  omega
end Go.Proofs.Ytgklnpkeffobnaa
