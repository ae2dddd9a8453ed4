/-
  The plain mathematics of a clock that goes on in parts.
-/
import Derived.Test.YtfahfbeemgigcaaU8
import Derived.Test.YtfahfbeemgigcaaW0
namespace Go.Proofs.Ytfahfbeemgigcaa
open Th

theorem later_ge {m t : Int} {ts : List (Int × Int)} (h : okL m ts = true) (hm : m ≤ t + 1) : okL (t + 1) (laterL t ts) = true := by
  induction ts generalizing m with
  | nil => rfl
  | cons p r ih =>
    simp only [okL, Bool.and_eq_true] at h
    have hp := (okOne_iff m p).1 h.1
    by_cases hq : p.1 ≤ t
    · have e : laterL t (p :: r) = laterL t r := by simp [laterL, hq]
      rw [e]
      exact ih h.2 (by omega)
    · have hall : ∀ x ∈ p :: r, ¬ x.1 ≤ t := by
        intro x hx
        rcases List.mem_cons.1 hx with rfl | hx
        · exact hq
        · have := okL_ge h.2 x hx; omega
      have e : laterL t (p :: r) = p :: r := List.filter_eq_self.2 (fun x hx => by simpa using hall x hx)
      rw [e]
      simp only [okL, Bool.and_eq_true]
      exact ⟨(okOne_iff _ p).2 ⟨by omega, hp.2.1, hp.2.2.1, hp.2.2.2⟩, h.2⟩
theorem ok_later {now d : Int} {ts : List (Int × Int)} (h : okClock now ts = true) (h0 : 0 ≤ d) (h1 : d ≤ 1000000000 - now) : okClock (now + d) (laterL (now + d) ts) = true := by
  obtain ⟨hp0, hp1, hp2, hp3⟩ := ok_parts h
  have hl : (laterL (now + d) ts).length ≤ 40 := Nat.le_trans (List.length_filter_le _ _) hp2
  unfold okClock
  rw [decide_eq_true (by omega : 0 ≤ now + d), decide_eq_true (by omega : now + d ≤ 1000000000), decide_eq_true hl, later_ge hp3 (by omega)]
  rfl
theorem later_later {s t : Int} (ts : List (Int × Int)) (h : s ≤ t) : laterL t (laterL s ts) = laterL t ts := by
  unfold laterL
  rw [List.filter_filter]
  refine List.filter_congr (fun x _ => ?_)
  by_cases h1 : x.1 ≤ t
  · simp [h1]
  · have h2 : ¬ x.1 ≤ s := by omega
    simp [h1, h2]
theorem due_due {m s t : Int} {ts : List (Int × Int)} (hok : okL m ts = true) (h : s ≤ t) : dueL s ts ++ dueL t (laterL s ts) = dueL t ts := by
  induction ts generalizing m with
  | nil => rfl
  | cons p r ih =>
    simp only [okL, Bool.and_eq_true] at hok
    by_cases h1 : p.1 ≤ s
    · have h2 : p.1 ≤ t := by omega
      have e := ih hok.2
      have f1 : laterL s (p :: r) = laterL s r := by simp [laterL, h1]
      have f2 : dueL s (p :: r) = p :: dueL s r := by simp [dueL, h1]
      have f3 : dueL t (p :: r) = p :: dueL t r := by simp [dueL, h2]
      rw [f1, f2, f3, List.cons_append, e]
    · have hall : ∀ x ∈ p :: r, ¬ x.1 ≤ s := by
        intro x hx
        rcases List.mem_cons.1 hx with rfl | hx
        · exact h1
        · have := okL_ge hok.2 x hx; omega
      have e1 : laterL s (p :: r) = p :: r := List.filter_eq_self.2 (fun x hx => by simpa using hall x hx)
      have e2 : dueL s (p :: r) = [] := List.filter_eq_nil_iff.2 (fun x hx => by simpa using hall x hx)
      rw [e1, e2, List.nil_append]
theorem later_gt {t : Int} {ts : List (Int × Int)} {x : Int × Int} (h : x ∈ laterL t ts) : ¬ x.1 ≤ t := by
  have := (List.mem_filter.1 h).2
  simpa using this
theorem both_len (t : Int) (ts : List (Int × Int)) : (laterL t ts).length + ((dueL t ts).map Prod.snd).length = ts.length := by
  rw [List.length_map]
  induction ts with
  | nil => rfl
  | cons p r ih =>
    simp only [laterL, dueL] at ih ⊢
    by_cases h : p.1 ≤ t
    · simp [h]; omega
    · simp [h]; omega
/-- A clock that goes on in two parts. -/
theorem adv_parts {now d s : Int} {ts : List (Int × Int)} (hd : (advT now ts d).2.2.2 = 0) (h0 : 0 ≤ s) (h1 : s ≤ d) :
    (advT now ts s).2.2.2 = 0 ∧ advT (advT now ts s).1 (advT now ts s).2.1 (d - s) = ((advT now ts d).1, (advT now ts d).2.1, (advT (advT now ts s).1 (advT now ts s).2.1 (d - s)).2.2.1, 0) ∧
    (advT now ts s).2.2.1 ++ (advT (advT now ts s).1 (advT now ts s).2.1 (d - s)).2.2.1 = (advT now ts d).2.2.1 := by
  have hc : okClock now ts = true ∧ 0 ≤ d ∧ d ≤ 1000000000 - now := by
    unfold advT at hd
    split at hd
    · next h => exact h
    · simp at hd
  obtain ⟨_, _, _, hp3⟩ := ok_parts hc.1
  have e1 : advT now ts d = (now + d, laterL (now + d) ts, (dueL (now + d) ts).map Prod.snd, 0) := by unfold advT; rw [if_pos hc]
  have e2 : advT now ts s = (now + s, laterL (now + s) ts, (dueL (now + s) ts).map Prod.snd, 0) := by unfold advT; rw [if_pos ⟨hc.1, h0, by omega⟩]
  have e3 : advT (now + s) (laterL (now + s) ts) (d - s) = (now + s + (d - s), laterL (now + s + (d - s)) (laterL (now + s) ts), (dueL (now + s + (d - s)) (laterL (now + s) ts)).map Prod.snd, 0) := by
    unfold advT; rw [if_pos ⟨ok_later hc.1 h0 (by omega), by omega, by omega⟩]
  have e4 : now + s + (d - s) = now + d := by omega
  rw [e4, later_later ts (by omega : now + s ≤ now + d)] at e3
  rw [e1, e2]
  simp only
  rw [e3]
  refine ⟨trivial, rfl, ?_⟩
  simp only
  rw [← List.map_append, due_due hp3 (by omega)]
end Go.Proofs.Ytfahfbeemgigcaa
