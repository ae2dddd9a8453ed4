/-
  The plain mathematics of events under a script of calls by a few clients: each call leaves a right one, and an Auto one has as many raisings as were raised.
-/
import Derived.Test.YtbhdjcggcgddfaaMrg4
namespace Go.Proofs.Ytbhdjcggcgddfaa
open Go.RowKit Pl Il

theorem len_filter_neE (a : Int) : ∀ (l : List Int), l.Nodup → l.length ≤ (l.filter fun y => !(y == a)).length + 1
  | [], _ => by simp
  | b :: t, hd => by
    have hd' := List.nodup_cons.1 hd
    by_cases h : b = a
    · have hf : (t.filter fun y => !(y == a)) = t := by
        rw [List.filter_eq_self]
        intro y hy
        have : ¬ y = a := fun e => hd'.1 (by rw [h, ← e]; exact hy)
        simp [this]
      rw [List.filter_cons, h]
      simp [hf]
    · have := len_filter_neE a t hd'.2
      rw [List.filter_cons]
      have hb : (!(b == a)) = true := by simp [h]
      rw [hb]
      simp only [List.length_cons, if_true]
      omega
theorem pigE : ∀ (k : Nat) (l : List Int), l.Nodup → (∀ y ∈ l, 0 ≤ y ∧ y < (k : Int)) → l.length ≤ k
  | 0, l, _, h => by
    cases l with
    | nil => simp
    | cons y t => have := h y (by simp); omega
  | k + 1, l, hd, h => by
    have h1 := pigE k (l.filter fun y => !(y == (k : Int))) (hd.filter _) (fun y hy => by
      obtain ⟨h2, h3⟩ := List.mem_filter.1 hy
      have := h y h2
      simp only [Bool.not_eq_true', beq_eq_false_iff_ne, ne_eq] at h3
      omega)
    have h2 := len_filter_neE (k : Int) l hd
    omega
theorem line_ofE {xs : List Int} (hd : xs.Nodup) (hl : xs.length ≤ 32) (hc : ∀ y ∈ xs, 0 ≤ y ∧ y ≤ 5) : lineL xs = true := by
  simp only [lineL, lineTo, Bool.and_eq_true, decide_eq_true_eq, List.all_eq_true, List.mem_range]
  refine ⟨hl, fun i hi => ?_⟩
  have e : xs.getD i 0 = xs[i] := by simp [List.getD, List.getElem?_eq_getElem hi]
  rw [e]
  refine ⟨?_, ?_⟩
  · have := hc xs[i] (List.getElem_mem _)
    simp [clientL]; omega
  · have : ¬ xs[i] ∈ xs.take i := by
      intro hm
      rw [List.mem_take_iff_getElem] at hm
      obtain ⟨j, hj, e2⟩ := hm
      rw [List.nodup_iff_pairwise_ne, List.pairwise_iff_getElem] at hd
      exact hd j i (by omega) hi (by omega) e2
    simp [hasL, this]
/-- An event that a few clients have come to by a script. -/
structure GE (x : Et) : Prop where
  nd : (x.ln ++ x.gs).Nodup
  few : ∀ y ∈ x.ln ++ x.gs, 0 ≤ y ∧ y ≤ 5
  up : x.up = true → x.ln = []
  sp0 : 0 ≤ x.sp
  tk0 : 0 ≤ x.tk
  man : x.au = false → x.st = 0 ∧ x.sp = 0 ∧ x.tk = 0
  aut : x.au = true → x.st = heldE x
  top : x.st ≤ 1000
theorem GE.len {x : Et} (h : GE x) : x.ln.length + x.gs.length ≤ 6 := by
  have := pigE 6 _ h.nd (fun y hy => by have := h.few y hy; omega)
  rw [List.length_append] at this
  exact this
theorem upI_nn (b : Bool) : 0 ≤ upI b ∧ upI b ≤ 1 := by unfold upI; split <;> omega
theorem GE.bds {x : Et} (h : GE x) : 0 ≤ x.st ∧ x.sp ≤ 1000 ∧ x.tk ≤ x.st ∧ x.tk ≤ 1000 := by
  have hu := upI_nn x.up
  have h1 := h.sp0
  have h2 := h.tk0
  have h3 := h.top
  cases e : x.au
  · obtain ⟨a, b, c⟩ := h.man e
    omega
  · have := h.aut e
    unfold heldE at this
    omega
theorem GE.ok {x : Et} (h : GE x) : okE x = true := by
  have hl := h.len
  have hb := h.bds
  have h1 := h.sp0
  have h2 := h.tk0
  have h3 := h.top
  have n1 := (List.nodup_append.1 h.nd).1
  have n2 := (List.nodup_append.1 h.nd).2.1
  have n3 := (List.nodup_append.1 h.nd).2.2
  have l1 := line_ofE n1 (by omega) (fun y hy => h.few y (List.mem_append.2 (.inl hy)))
  have l2 := line_ofE n2 (by omega) (fun y hy => h.few y (List.mem_append.2 (.inr hy)))
  have ap : apartL x.ln x.gs = true := by
    unfold apartL
    rw [List.all_eq_true]
    intro y hy
    have : ¬ y ∈ x.ln := fun hm => n3 y hm y hy rfl
    simp [hasL, this]
  have hp : (x.up && decide (0 < x.ln.length)) = false := by
    cases e : x.up
    · simp
    · rw [h.up e]; simp
  have hc : cnt x.st = true ∧ cnt x.sp = true ∧ cnt x.tk = true := by
    simp only [cnt, Bool.and_eq_true, decide_eq_true_eq]
    omega
  have ht : tallyE x = true := by
    unfold tallyE
    cases e : x.au
    · obtain ⟨a, b, c⟩ := h.man e
      simp [a, b, c]
    · simp [h.aut e]
  simp only [okE, waitE, waitL, l1, l2, ap, hp, hc.1, hc.2.1, hc.2.2, ht, Bool.and_self, Bool.not_false]
theorem GE.wf {x : Et} (h : GE x) : EWf x := by
  refine ⟨fun y hy => ?_, fun y hy => ?_⟩
  · have := h.few y (List.mem_append.2 (.inl hy))
    simp [Lit.wf, IntKind.min, IntKind.max, IntKind.signed, IntKind.bits]; omega
  · have := h.few y (List.mem_append.2 (.inr hy))
    simp [Lit.wf, IntKind.min, IntKind.max, IntKind.signed, IntKind.bits]; omega
theorem ge_zero (b : Bool) : GE ⟨b, false, [], [], 0, 0, 0⟩ :=
  ⟨by simp, by simp, by simp, by simp, by simp, fun _ => ⟨rfl, rfl, rfl⟩, fun _ => by simp [heldE, upI], by simp⟩
/-- Lists with the same ones, or fewer. -/
theorem GE.sub {x y : Et} (h : GE x) (hs : (y.ln ++ y.gs).Sublist (x.ln ++ x.gs)) (h1 : y.up = true → y.ln = []) (h2 : 0 ≤ y.sp) (h3 : 0 ≤ y.tk) (h4 : y.au = false → y.st = 0 ∧ y.sp = 0 ∧ y.tk = 0) (h5 : y.au = true → y.st = heldE y) (h6 : y.st ≤ 1000) : GE y :=
  ⟨hs.nodup h.nd, fun z hz => h.few z (hs.subset hz), h1, h2, h3, h4, h5, h6⟩
theorem GE.perm {x y : Et} (h : GE x) (hs : (y.ln ++ y.gs).Perm (x.ln ++ x.gs)) (h1 : y.up = true → y.ln = []) (h2 : 0 ≤ y.sp) (h3 : 0 ≤ y.tk) (h4 : y.au = false → y.st = 0 ∧ y.sp = 0 ∧ y.tk = 0) (h5 : y.au = true → y.st = heldE y) (h6 : y.st ≤ 1000) : GE y :=
  ⟨hs.nodup_iff.2 h.nd, fun z hz => h.few z (hs.mem_iff.1 hz), h1, h2, h3, h4, h5, h6⟩
/-- A raising is placed at an Auto one: x holds one fewer than its Sets tell. -/
theorem ge_place {x : Et} (nd : (x.ln ++ x.gs).Nodup) (few : ∀ y ∈ x.ln ++ x.gs, 0 ≤ y ∧ y ≤ 5) (hup : x.up = true → x.ln = []) (sp0 : 0 ≤ x.sp) (tk0 : 0 ≤ x.tk) (hau : x.au = true) (held : x.st = heldE x + 1) (top : x.st ≤ 1000) :
    GE (passE x).1 ∧ (passE x).1.au = true ∧ (passE x).1.st = x.st ∧ (passE x).1.tk = x.tk ∧ (passE x).2.length ≤ 1 := by
  obtain ⟨au, up, ln, gs, st, sp, tk⟩ := x
  simp only at nd few hup sp0 tk0 hau held top
  subst hau
  unfold heldE at held
  simp only at held
  unfold passE
  cases ln with
  | nil =>
    cases up
    · simp only [Bool.false_eq_true, if_false]
      refine ⟨⟨nd, few, fun _ => rfl, sp0, tk0, fun e => (by cases e), fun _ => ?_, top⟩, by trivial, by trivial, by trivial, by simp⟩
      simp only [heldE, upI, if_true]
      simp only [upI, Bool.false_eq_true, if_false] at held
      omega
    · simp only [if_true]
      refine ⟨⟨nd, few, fun _ => rfl, by simp only; omega, tk0, fun e => (by cases e), fun _ => ?_, top⟩, by trivial, by trivial, by trivial, by simp⟩
      simp only [heldE]
      omega
  | cons y r =>
    have hu : up = false := by cases up with | false => rfl | true => exact absurd (hup rfl) (by simp)
    subst hu
    have hpm : (r ++ (gs ++ [y])).Perm (y :: r ++ gs) := by
      rw [← List.append_assoc]
      exact List.perm_append_comm (l₁ := r ++ gs) (l₂ := [y])
    refine ⟨⟨hpm.nodup_iff.2 nd, fun z hz => few z (hpm.mem_iff.1 hz), fun e => (by cases e), sp0, tk0, fun e => (by cases e), fun _ => ?_, top⟩, by trivial, by trivial, by trivial, by simp⟩
    simp only [heldE, List.length_append, List.length_singleton]
    omega
/-- What a raising answers. -/
theorem ge_raise {x : Et} (h : GE x) (ht : x.st ≤ 999) : GE (raiseM x).1 ∧ (raiseM x).2.2 = 0 ∧ (raiseM x).1.au = x.au ∧ (x.au = true → (raiseM x).1.st = x.st + 1 ∧ (raiseM x).1.tk = x.tk ∧ (raiseM x).2.1.length ≤ 1) ∧ (x.au = false → (raiseM x).2.1 = x.ln) := by
  have hl := h.len
  have hok := h.ok
  obtain ⟨au, up, ln, gs, st, sp, tk⟩ := x
  obtain ⟨nd, few, hup, sp0, tk0, man, aut, top⟩ := h
  simp only at nd few hup sp0 tk0 man aut top ht hl ⊢
  unfold raiseM
  rw [if_neg (by rw [hok]; simp)]
  cases au
  · obtain ⟨a, b, c⟩ := man rfl
    simp only [Bool.false_eq_true, if_false]
    rw [if_neg (by omega)]
    have hpm : ([] ++ (gs ++ ln)).Perm (ln ++ gs) := by rw [List.nil_append]; exact List.perm_append_comm
    exact ⟨⟨hpm.nodup_iff.2 nd, fun z hz => few z (hpm.mem_iff.1 hz), fun _ => rfl, sp0, tk0, fun _ => ⟨a, b, c⟩, fun e => (by cases e), top⟩, rfl, rfl, fun e => (by cases e), fun _ => rfl⟩
  · have hh := aut rfl
    unfold heldE at hh
    simp only at hh
    simp only [if_true]
    rw [if_neg (by unfold fullE; simp only; omega)]
    have := ge_place (x := ⟨true, up, ln, gs, st + 1, sp, tk⟩) nd few hup sp0 tk0 rfl (by simp only [heldE]; omega) (by simp only; omega)
    exact ⟨this.1, rfl, this.2.1, fun _ => ⟨this.2.2.1, this.2.2.2.1, this.2.2.2.2⟩, fun e => (by cases e)⟩
/-- What a reset answers. -/
theorem ge_reset {x : Et} (h : GE x) : ∃ s, resetM x = (⟨x.au, false, x.ln, x.gs, x.st, s, x.tk⟩, 0) ∧ GE ⟨x.au, false, x.ln, x.gs, x.st, s, x.tk⟩ := by
  have hb := h.bds
  unfold resetM
  rw [if_neg (by rw [h.ok]; simp)]
  by_cases e : (x.au && x.up) = true
  · rw [if_pos e, if_neg (by omega)]
    have e1 : x.au = true ∧ x.up = true := by simpa using e
    have hh := h.aut e1.1
    unfold heldE at hh
    rw [e1.2] at hh
    simp only [upI, if_true] at hh
    refine ⟨_, rfl, h.sub (List.Sublist.refl _) (fun e' => by cases e') (by have := h.sp0; simp only; omega) h.tk0 (fun e' => by simp only at e'; rw [e1.1] at e'; cases e') (fun _ => ?_) h.top⟩
    simp only [heldE, upI, Bool.false_eq_true, if_false]
    omega
  · rw [if_neg e]
    refine ⟨_, rfl, h.sub (List.Sublist.refl _) (fun e' => by cases e') h.sp0 h.tk0 h.man (fun e' => ?_) h.top⟩
    simp only at e'
    have hup : x.up = false := by cases hu : x.up with | false => rfl | true => exact absurd (by rw [e', hu]; rfl) e
    have hh := h.aut e'
    unfold heldE at hh
    rw [hup] at hh
    simp only [heldE]
    exact hh
theorem sub_less (ln gs : List Int) (who : Int) : (ln ++ lessL gs who).Sublist (ln ++ gs) := List.Sublist.append (List.Sublist.refl _) (by unfold lessL; exact List.erase_sublist)
theorem len_less {gs : List Int} {who : Int} (h : hasL gs who = true) : (lessL gs who).length + 1 = gs.length := by
  have hm : who ∈ gs := by simpa [hasL] using h
  unfold lessL
  rw [List.length_erase_of_mem hm]
  have := List.length_pos_of_mem hm
  omega
/-- What going on answers. -/
theorem ge_goOn {x : Et} (h : GE x) (who : Int) : GE (goOnM x who).1 ∧ (goOnM x who).1.au = x.au ∧ (goOnM x who).1.st = x.st ∧ ((goOnM x who).2 = 0 → x.au = true → (goOnM x who).1.tk = x.tk + 1) ∧ (¬ (goOnM x who).2 = 0 → (goOnM x who).1.tk = x.tk) := by
  have hb := h.bds
  unfold goOnM
  rw [if_neg (by rw [h.ok]; simp)]
  split
  · exact ⟨h, rfl, rfl, by simp, fun _ => rfl⟩
  · split
    · exact ⟨h, rfl, rfl, by simp, fun _ => rfl⟩
    · rename_i hg
      have hg' : hasL x.gs who = true := by cases e : hasL x.gs who <;> simp_all
      rw [if_neg (by omega)]
      have hll := len_less hg'
      have hsl := sub_less x.ln x.gs who
      obtain ⟨au, up, ln, gs, st, sp, tk⟩ := x
      obtain ⟨nd, few, hup, sp0, tk0, man, aut, top⟩ := h
      simp only at nd few hup sp0 tk0 man aut top hll hsl hb ⊢
      cases au
      · simp only [Bool.false_eq_true, if_false]
        exact ⟨⟨hsl.nodup nd, fun z hz => few z (hsl.subset hz), hup, sp0, tk0, man, fun e => (by cases e), top⟩, by trivial, by trivial, fun _ e' => (by cases e'), fun e' => absurd (by trivial) e'⟩
      · have hh := aut rfl
        unfold heldE at hh
        simp only at hh
        simp only [if_true]
        refine ⟨⟨hsl.nodup nd, fun z hz => few z (hsl.subset hz), hup, sp0, by simp only; omega, fun e => (by cases e), fun _ => ?_, top⟩, by trivial, by trivial, fun _ _ => by trivial, fun e' => absurd (by trivial) e'⟩
        simp only [heldE]
        omega
/-- What stepping back answers. -/
theorem ge_step {x : Et} (h : GE x) (who : Int) : GE (stepM x who).1 ∧ (stepM x who).1.au = x.au ∧ (stepM x who).1.st = x.st ∧ (stepM x who).1.tk = x.tk := by
  have hb := h.bds
  unfold stepM
  rw [if_neg (by rw [h.ok]; simp)]
  split
  · exact ⟨h.sub (List.Sublist.append (by unfold lessL; exact List.erase_sublist) (List.Sublist.refl _)) (fun e => by have := h.up e; simp only; rw [this]; rfl) h.sp0 h.tk0 h.man h.aut h.top, rfl, rfl, rfl⟩
  · split
    · exact ⟨h, rfl, rfl, rfl⟩
    · rename_i hg
      have hg' : hasL x.gs who = true := by cases e : hasL x.gs who <;> simp_all
      have hll := len_less hg'
      rw [if_neg (by omega)]
      have hs := sub_less x.ln x.gs who
      obtain ⟨au, up, ln, gs, st, sp, tk⟩ := x
      obtain ⟨nd, few, hup, sp0, tk0, man, aut, top⟩ := h
      simp only at nd few hup sp0 tk0 man aut top hll hs hb ⊢
      cases au
      · simp only [Bool.false_eq_true, if_false]
        exact ⟨⟨hs.nodup nd, fun z hz => few z (hs.subset hz), hup, sp0, tk0, man, fun e => (by cases e), top⟩, by trivial, by trivial, by trivial⟩
      · simp only [if_true]
        have hh := aut rfl
        unfold heldE at hh
        simp only at hh
        have := ge_place (x := ⟨true, up, ln, lessL gs who, st, sp, tk⟩) (hs.nodup nd) (fun z hz => few z (hs.subset hz)) hup sp0 tk0 rfl (by simp only [heldE]; omega) top
        exact ⟨this.1, this.2.1, this.2.2.1, this.2.2.2.1⟩
/-- What standing answers. -/
theorem ge_stand {x : Et} (h : GE x) (who : Int) (hw : 0 ≤ who ∧ who ≤ 5) : GE (standM x who).1 ∧ (standM x who).1.au = x.au ∧ (standM x who).1.st = x.st ∧ ((standM x who).2 = 0 → x.au = true → (standM x who).1.tk = x.tk + 1) ∧ (¬ (standM x who).2 = 0 → (standM x who).1.tk = x.tk) ∧ (((standM x who).2 = 0 ∧ x.up = true) ∨ ((standM x who).2 = 4 ∧ x.up = false) ∨ (¬ (standM x who).2 = 0 ∧ ¬ (standM x who).2 = 4)) := by
  have hb := h.bds
  have hl := h.len
  unfold standM
  rw [if_neg (by rw [h.ok]; simp [clientL]; omega)]
  split
  · exact ⟨h, rfl, rfl, by simp, fun _ => rfl, .inr (.inr ⟨by simp, by simp⟩)⟩
  · rename_i hn
    rw [if_neg (by omega)]
    have h1 : ¬ who ∈ x.ln := fun hm => hn (.inl (by simp [hasL, hm]))
    have h2 : ¬ who ∈ x.gs := fun hm => hn (.inr (by simp [hasL, hm]))
    clear hn
    obtain ⟨au, up, ln, gs, st, sp, tk⟩ := x
    obtain ⟨nd, few, hup, sp0, tk0, man, aut, top⟩ := h
    simp only at nd few hup sp0 tk0 man aut top h1 h2 hl hb ⊢
    cases up
    · simp only [Bool.false_eq_true, if_false]
      have hpm : (ln ++ [who] ++ gs).Perm (who :: (ln ++ gs)) := by
        rw [List.append_assoc]
        exact List.perm_middle
      refine ⟨⟨hpm.nodup_iff.2 (List.nodup_cons.2 ⟨fun hm => (List.mem_append.1 hm).elim h1 h2, nd⟩), fun z hz => ?_, fun e => (by cases e), sp0, tk0, man, aut, top⟩, by trivial, by trivial, fun e => absurd e (by simp), fun _ => by trivial, .inr (.inl ⟨by trivial, by trivial⟩)⟩
      rcases List.mem_cons.1 (hpm.mem_iff.1 hz) with rfl | hz
      · exact hw
      · exact few z hz
    · simp only [if_true]
      cases au
      · simp only [Bool.false_eq_true, if_false]
        exact ⟨⟨nd, few, hup, sp0, tk0, man, aut, top⟩, by trivial, by trivial, fun _ e' => (by cases e'), fun _ => by trivial, .inl ⟨by trivial, by trivial⟩⟩
      · have hh := aut rfl
        unfold heldE at hh
        simp only [upI, if_true] at hh
        simp only [if_true]
        refine ⟨⟨nd, few, fun e => (by cases e), sp0, by simp only; omega, fun e => (by cases e), fun _ => ?_, top⟩, by trivial, by trivial, fun _ _ => by trivial, fun e => absurd (by trivial) e, .inl ⟨by trivial, by trivial⟩⟩
        simp only [heldE, upI, Bool.false_eq_true, if_false]
        omega
end Go.Proofs.Ytbhdjcggcgddfaa
