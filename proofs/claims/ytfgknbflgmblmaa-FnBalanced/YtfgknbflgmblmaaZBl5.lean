/-
  The plain mathematics of notifications under a script of calls by a fe
-/
import Derived.Test.YtfgknbflgmblmaaZBl1
import Derived.Laws.StructEq
namespace Go.Proofs.Ytfgknbflgmblmaa
open Go.RowKit Pl Il
theorem len_filter_ne (a : Int) : ∀ (l : List Int), l.Nodup → l.length ≤ (l.filter fun y => !(y == a)).length + 1
  | [], _ => by simp
  | b :: t, hd => by
    have hd' := List.nodup_cons.1 hd
    by_cases h : b = a
    · have hf : (t.filter fun y => !(y == a)) = t := by
        rw [List.filter_eq_self]
        intro y hy
        have : ¬ y = a := fun e => hd'.1 (by rw [h, ← e]; exact hy)
        simp [this]
      rw [List.filter_cons, h]
      simp [hf]
    · have := len_filter_ne a t hd'.2
      rw [List.filter_cons]
      have hb : (!(b == a)) = true := by simp [h]
      rw [hb]
      simp only [List.length_cons, if_true]
      omega
theorem pig : ∀ (k : Nat) (l : List Int), l.Nodup → (∀ y ∈ l, 0 ≤ y ∧ y < (k : Int)) → l.length ≤ k
  | 0, l, _, h => by
    cases l with
    | nil => simp
    | cons y t => have := h y (by simp); omega
  | k + 1, l, hd, h => by
    have h1 := pig k (l.filter fun y => !(y == (k : Int))) (hd.filter _) (fun y hy => by
      obtain ⟨h2, h3⟩ := List.mem_filter.1 hy
      have := h y h2
      simp only [Bool.not_eq_true', beq_eq_false_iff_ne, ne_eq] at h3
      omega)
    have h2 := len_filter_ne (k : Int) l hd
    omega
theorem line_of {xs : List Int} (hd : xs.Nodup) (hl : xs.length ≤ 32) (hc : ∀ y ∈ xs, 0 ≤ y ∧ y ≤ 6) : lineL xs = true := by
  simp only [lineL, lineTo, Bool.and_eq_true, decide_eq_true_eq, List.all_eq_true, List.mem_range]
  refine ⟨hl, fun i hi => ?_⟩
  have e : xs.getD i 0 = xs[i] := by simp [List.getD, List.getElem?_eq_getElem hi]
  rw [e]
  refine ⟨?_, ?_⟩
  · have := hc xs[i] (List.getElem_mem _)
    simp [clientL]; omega
  · have : ¬ xs[i] ∈ xs.take i := by
      intro hm
      rw [List.mem_take_iff_getElem] at hm
      obtain ⟨j, hj, e2⟩ := hm
      rw [List.nodup_iff_pairwise_ne, List.pairwise_iff_getElem] at hd
      exact hd j i (by omega) hi (by omega) e2
    simp [hasL, this]
/-- A notification that a few clients have come to by a script of n tellings at most. -/
structure Good (x : Nt) : Prop where
  nd : (x.ln ++ whosL x.gs).Nodup
  few : ∀ y ∈ x.ln ++ whosL x.gs, 0 ≤ y ∧ y ≤ 6
  perm : x.pm = true → x.ln = []
  sp0 : 0 ≤ x.sp
  tk0 : 0 ≤ x.tk
  held : x.on = heldN x
  top : x.on ≤ 1000
theorem Good.len {x : Nt} (h : Good x) : x.ln.length + x.gs.length ≤ 7 := by
  have := pig 7 _ h.nd (fun y hy => by have := h.few y hy; omega)
  rw [List.length_append, whos_len] at this
  exact this
theorem Good.cnts {x : Nt} (h : Good x) : cnt x.on = true ∧ cnt x.sp = true ∧ cnt x.tk = true ∧ x.sp ≤ 1000 ∧ x.tk ≤ 1000 := by
  have h1 := h.held
  have h2 := ones_bd x.gs
  have h3 : 0 ≤ permI x.pm := by unfold permI; split <;> omega
  have h4 := h.sp0
  have h5 := h.tk0
  have h6 := h.top
  unfold heldN at h1
  simp only [cnt, Bool.and_eq_true, decide_eq_true_eq]
  omega
theorem Good.ok {x : Nt} (h : Good x) : okN x = true := by
  have hl := h.len
  have hc := h.cnts
  have n1 := (List.nodup_append.1 h.nd).1
  have n2 := (List.nodup_append.1 h.nd).2.1
  have n3 := (List.nodup_append.1 h.nd).2.2
  have l1 := line_of n1 (by omega) (fun y hy => h.few y (List.mem_append.2 (.inl hy)))
  have l2 := line_of n2 (by rw [whos_len]; omega) (fun y hy => h.few y (List.mem_append.2 (.inr hy)))
  have ap : apartL x.ln (whosL x.gs) = true := by
    unfold apartL
    rw [List.all_eq_true]
    intro y hy
    have : ¬ y ∈ x.ln := fun hm => n3 y hm y hy rfl
    simp [hasL, this]
  have hp : (x.pm && decide (0 < x.ln.length)) = false := by
    cases e : x.pm
    · simp
    · rw [h.perm e]; simp
  simp only [okN, waitL, l1, l2, ap, hp, hc.1, hc.2.1, hc.2.2.1, Bool.and_self, Bool.not_false, Bool.true_and, decide_eq_true_eq]
  exact h.held
theorem Good.nodup {x : Nt} (h : Good x) : (whosL x.gs).Nodup := (List.nodup_append.1 h.nd).2.1
theorem Good.sub {x y : Nt} (h : Good x) (hs : (y.ln ++ whosL y.gs).Sublist (x.ln ++ whosL x.gs)) (h1 : y.pm = true → y.ln = []) (h2 : 0 ≤ y.sp) (h3 : 0 ≤ y.tk) (h4 : y.on = heldN y) (h5 : y.on ≤ 1000) : Good y :=
  ⟨hs.nodup h.nd, fun z hz => h.few z (hs.subset hz), h1, h2, h3, h4, h5⟩
theorem Good.perm' {x y : Nt} (h : Good x) (hs : (y.ln ++ whosL y.gs).Perm (x.ln ++ whosL x.gs)) (h1 : y.pm = true → y.ln = []) (h2 : 0 ≤ y.sp) (h3 : 0 ≤ y.tk) (h4 : y.on = heldN y) (h5 : y.on ≤ 1000) : Good y :=
  ⟨hs.nodup_iff.2 h.nd, fun z hz => h.few z (hs.mem_iff.1 hz), h1, h2, h3, h4, h5⟩
theorem whos_append (a b : List (Int × Bool)) : whosL (a ++ b) = whosL a ++ whosL b := by simp [whosL]
theorem ones_append : ∀ (a b : List (Int × Bool)), onesL (a ++ b) = onesL a + onesL b
  | [], b => by simp [onesL]
  | g :: a, b => by simp only [List.cons_append, onesL, ones_append a b]; omega
theorem ones_false : ∀ (l : List Int), onesL (l.map fun y => (y, false)) = 0
  | [] => rfl
  | _ :: t => by simp [onesL, ones_false t]
theorem whos_false : ∀ (l : List Int), whosL (l.map fun y => (y, false)) = l
  | [] => rfl
  | y :: t => by
    have := whos_false t
    simp only [whosL, List.map_cons] at this ⊢
    rw [this]
theorem whos_less (gs : List (Int × Bool)) (who : Int) : whosL (lessG gs who) = (whosL gs).filter fun y => !(y == who) := by
  unfold whosL lessG
  rw [List.filter_map]
  rfl
theorem less_self {gs : List (Int × Bool)} {who : Int} (h : ¬ who ∈ whosL gs) : lessG gs who = gs := by
  unfold lessG
  rw [List.filter_eq_self]
  intro g hg
  have : ¬ g.1 = who := fun e => h (by rw [← e]; exact List.mem_map.2 ⟨g, hg, rfl⟩)
  simp [this]
theorem oneOf_none {gs : List (Int × Bool)} {who : Int} (h : ¬ who ∈ whosL gs) : oneOf gs who = false := by
  unfold oneOf oneOf.hasG
  rw [List.contains_eq_mem]
  simp only [decide_eq_false_iff_not]
  intro hm
  exact h (List.mem_map.2 ⟨_, hm, rfl⟩)
theorem oneOf_cons (g : Int × Bool) (gs : List (Int × Bool)) (who : Int) : oneOf (g :: gs) who = (((who, true) == g) || oneOf gs who) := by
  unfold oneOf oneOf.hasG
  rw [List.contains_cons]
theorem ones_less : ∀ {gs : List (Int × Bool)} (_ : (whosL gs).Nodup) (who : Int), onesL (lessG gs who) = onesL gs - permI (oneOf gs who)
  | [], _, _ => by simp [lessG, onesL, oneOf, oneOf.hasG, permI]
  | g :: gs, hd, who => by
    have hd' : ¬ g.1 ∈ whosL gs ∧ (whosL gs).Nodup := by simpa [whosL] using hd
    have ih := ones_less hd'.2 who
    obtain ⟨g1, g2⟩ := g
    by_cases h : g1 = who
    · subst h
      have e1 : lessG ((g1, g2) :: gs) g1 = lessG gs g1 := by simp [lessG]
      rw [e1, less_self hd'.1, oneOf_cons, oneOf_none hd'.1]
      cases g2 <;> simp [onesL, permI] <;> omega
    · have e1 : lessG ((g1, g2) :: gs) who = (g1, g2) :: lessG gs who := by simp [lessG, h]
      have e2 : ((who, true) == (g1, g2)) = false := by
        rw [beq_eq_false_iff_ne]
        intro e
        exact h (by injection e with e _; exact e.symm)
      rw [e1, oneOf_cons, e2, Bool.false_or]
      simp only [onesL, ih]
      omega
theorem one_cons {x : Nt} {y : Int} {r : List Int} (hl : x.ln = y :: r) : oneM x = ({ x with ln := r, gs := x.gs ++ [(y, true)] }, y) := by unfold oneM; rw [hl]
theorem one_nilf {x : Nt} (hl : x.ln = []) (hp : x.pm = false) : oneM x = ({ x with pm := true }, -1) := by unfold oneM; rw [hl, hp]; rfl
theorem one_nilt {x : Nt} (hl : x.ln = []) (hp : x.pm = true) : oneM x = ({ x with sp := x.sp + 1 }, -1) := by unfold oneM; rw [hl, hp]; rfl
/-- A telling of one is placed. -/
theorem good_place {x : Nt} (nd : (x.ln ++ whosL x.gs).Nodup) (few : ∀ y ∈ x.ln ++ whosL x.gs, 0 ≤ y ∧ y ≤ 6) (perm : x.pm = true → x.ln = []) (sp0 : 0 ≤ x.sp) (tk0 : 0 ≤ x.tk) (held : x.on = heldN x + 1) (top : x.on ≤ 1000) :
    Good (oneM x).1 ∧ (oneM x).1.on = x.on ∧ (oneM x).1.tk = x.tk := by
  unfold heldN at held
  by_cases hl : x.ln = []
  · cases hp : x.pm
    · rw [one_nilf hl hp]
      refine ⟨⟨nd, few, fun _ => hl, sp0, tk0, ?_, top⟩, rfl, rfl⟩
      rw [hp] at held
      simp only [heldN, permI] at held ⊢
      simp at held ⊢
      omega
    · rw [one_nilt hl hp]
      refine ⟨⟨nd, few, perm, by simp only; omega, tk0, ?_, top⟩, rfl, rfl⟩
      simp only [heldN]
      omega
  · obtain ⟨y, r, hl⟩ := List.exists_cons_of_ne_nil hl
    rw [one_cons hl]
    have hpm : (r ++ whosL (x.gs ++ [(y, true)])).Perm (x.ln ++ whosL x.gs) := by
      have : whosL [(y, true)] = [y] := rfl
      rw [whos_append, this, ← List.append_assoc, hl]
      exact (List.perm_append_comm (l₁ := r ++ whosL x.gs) (l₂ := [y]))
    refine ⟨⟨hpm.nodup_iff.2 nd, fun z hz => few z (hpm.mem_iff.1 hz), fun hp => (by have := perm hp; rw [hl] at this; cases this), sp0, tk0, ?_, top⟩, rfl, rfl⟩
    simp only [heldN, ones_append]
    have : onesL [(y, true)] = 1 := rfl
    rw [this]
    omega
theorem good_one {x : Nt} (h : Good x) (ht : x.on ≤ 999) : Good (oneM { x with on := x.on + 1 }).1 ∧ (oneM { x with on := x.on + 1 }).1.on = x.on + 1 := by
  have hh := h.held
  unfold heldN at hh
  have := good_place (x := { x with on := x.on + 1 }) h.nd h.few h.perm h.sp0 h.tk0 (by simp only [heldN]; omega) (by simp only; omega)
  exact ⟨this.1, this.2.1⟩
theorem good_all {x : Nt} (h : Good x) : Good (allM x) := by
  have hh := h.held
  unfold heldN at hh
  refine h.perm' ?_ (fun _ => rfl) h.sp0 h.tk0 ?_ h.top
  · simp only [allM, whos_append, whos_false, List.nil_append]
    exact List.perm_append_comm
  · simp only [allM, heldN, ones_append, ones_false]
    omega
theorem good_less {x : Nt} (h : Good x) (who : Int) (tk : Int) (ht : tk = x.tk + permI (oneOf x.gs who)) : Good { x with gs := lessG x.gs who, tk := tk } := by
  have hh := h.held
  have ho := ones_less h.nodup who
  have hp : 0 ≤ permI (oneOf x.gs who) := by unfold permI; split <;> omega
  unfold heldN at hh
  refine h.sub ?_ h.perm h.sp0 (by have := h.tk0; simp only; omega) ?_ h.top
  · simp only [whos_less]
    exact List.Sublist.append (List.Sublist.refl _) (List.filter_sublist)
  · simp only [heldN, ho]
    omega
theorem good_resume {x : Nt} (h : Good x) (who : Int) : Good (resumeM x who).1 ∧ (resumeM x who).1.on = x.on := by
  unfold resumeM
  rw [if_neg (by rw [h.ok]; simp)]
  split
  · exact ⟨h, rfl⟩
  · split
    · exact ⟨h, rfl⟩
    · split
      · exact ⟨h, rfl⟩
      · exact ⟨good_less h who _ rfl, rfl⟩
theorem good_withdraw {x : Nt} (h : Good x) (who : Int) : Good (withdrawM x who).1 ∧ (withdrawM x who).1.on = x.on ∧ (withdrawM x who).1.tk = x.tk := by
  have hh := h.held
  have ho := ones_less h.nodup who
  unfold heldN at hh
  have hsub : (x.ln ++ whosL (lessG x.gs who)).Sublist (x.ln ++ whosL x.gs) := by
    rw [whos_less]
    exact List.Sublist.append (List.Sublist.refl _) (List.filter_sublist)
  unfold withdrawM
  rw [if_neg (by rw [h.ok]; simp)]
  split
  · refine ⟨h.sub (List.Sublist.append (by unfold lessL; exact List.erase_sublist) (List.Sublist.refl _)) (fun hp => by have := h.perm hp; simp only; rw [this]; rfl) h.sp0 h.tk0 h.held h.top, rfl, rfl⟩
  · split
    · exact ⟨h, rfl, rfl⟩
    · split
      · rename_i hone
        rw [hone] at ho
        simp only [permI] at ho
        exact ⟨h.sub hsub h.perm h.sp0 h.tk0 (by simp only [heldN]; simp at ho; omega) h.top, rfl, rfl⟩
      · rename_i hone
        have hone' : oneOf x.gs who = true := by cases e : oneOf x.gs who <;> simp_all
        split
        · exact ⟨h, rfl, rfl⟩
        · rw [hone'] at ho
          simp only [permI, if_true] at ho
          have := good_place (x := { x with gs := lessG x.gs who }) (hsub.nodup h.nd) (fun z hz => h.few z (hsub.subset hz)) h.perm h.sp0 h.tk0 (by simp only [heldN]; omega) h.top
          exact this
theorem good_await {x : Nt} (h : Good x) (who : Int) (hw : 0 ≤ who ∧ who ≤ 6) : Good (awaitM x who).1 ∧ (awaitM x who).1.on = x.on ∧ ((awaitM x who).2 = 0 → x.pm = true) ∧ ((awaitM x who).2 = 4 → x.pm = false) := by
  have hh := h.held
  have hc := h.cnts
  have hl := h.len
  unfold heldN at hh
  unfold awaitM
  rw [if_neg (by rw [h.ok]; simp [clientL]; omega)]
  split
  · exact ⟨h, rfl, by simp, by simp⟩
  · rename_i hn
    split
    · exact ⟨h, rfl, by simp, by simp⟩
    · split
      · rename_i hp
        refine ⟨⟨h.nd, h.few, by simp, h.sp0, by have := h.tk0; simp only; omega, ?_, h.top⟩, rfl, fun _ => hp, by simp⟩
        rw [hp] at hh
        simp only [permI, if_true] at hh
        simp only [heldN, permI]
        simp
        omega
      · rename_i hp
        have hp' : x.pm = false := by cases e : x.pm <;> simp_all
        have h1 : ¬ who ∈ x.ln := fun hm => hn (.inl (by simp [hasL, hm]))
        have h2 : ¬ who ∈ whosL x.gs := fun hm => hn (.inr (by simp [toldL, hasL, hm]))
        have hpm : (x.ln ++ [who] ++ whosL x.gs).Perm (who :: (x.ln ++ whosL x.gs)) := by
          rw [List.append_assoc]
          exact List.perm_middle
        refine ⟨⟨hpm.nodup_iff.2 (List.nodup_cons.2 ⟨fun hm => (List.mem_append.1 hm).elim h1 h2, h.nd⟩), fun z hz => ?_, fun e => (by simp only at e; rw [hp'] at e; cases e), h.sp0, h.tk0, h.held, h.top⟩, rfl, by simp, fun _ => hp'⟩
        rcases List.mem_cons.1 (hpm.mem_iff.1 hz) with rfl | hz
        · exact hw
        · exact h.few z hz
theorem good_zero : Good Nt.zero := ⟨by simp [Nt.zero, whosL], by simp [Nt.zero, whosL], by simp [Nt.zero], by simp [Nt.zero], by simp [Nt.zero], by simp [Nt.zero, heldN, onesL, permI], by simp [Nt.zero]⟩
theorem Good.wf {x : Nt} (h : Good x) : NWf x := by
  refine ⟨fun y hy => ?_, fun y hy => ?_⟩
  · have := h.few y (List.mem_append.2 (.inl hy))
    simp [Lit.wf, IntKind.min, IntKind.max, IntKind.signed, IntKind.bits]; omega
  · have := h.few y (List.mem_append.2 (.inr hy))
    simp [Lit.wf, IntKind.min, IntKind.max, IntKind.signed, IntKind.bits]; omega
/-- What a telling of one is told by. -/
theorem told_one {x : Nt} (h : Good x) : (x.ln = [] ∧ (oneM { x with on := x.on + 1 }).2 = -1) ∨ ∃ y r, x.ln = y :: r ∧ (oneM { x with on := x.on + 1 }).2 = y ∧ 0 ≤ y := by
  by_cases hl : x.ln = []
  · left
    refine ⟨hl, ?_⟩
    by_cases hp : x.pm = true
    · rw [one_nilt (x := { x with on := x.on + 1 }) hl hp]
    · rw [one_nilf (x := { x with on := x.on + 1 }) hl (by cases e : x.pm <;> simp_all)]
  · right
    obtain ⟨y, r, hl⟩ := List.exists_cons_of_ne_nil hl
    exact ⟨y, r, hl, by rw [one_cons (x := { x with on := x.on + 1 }) hl], (h.few y (by rw [hl]; simp)).1⟩
theorem tellOne_good {x : Nt} (h : Good x) (ht : x.on ≤ 999) : tellOneM x = ((oneM { x with on := x.on + 1 }).1, (oneM { x with on := x.on + 1 }).2, 0) := by
  have hl := h.len
  unfold tellOneM
  rw [if_neg (by rw [h.ok]; simp), if_neg (by unfold fullOne; simp; omega)]
theorem tellAll_good {x : Nt} (h : Good x) : tellAllM x = (allM x, x.ln, 0) := by
  have hl := h.len
  unfold tellAllM
  rw [if_neg (by rw [h.ok]; simp), if_neg (by omega)]
end Go.Proofs.Ytfgknbflgmblmaa
