/-
  The plain mathematics of a clock in which one timer is set.
-/
import Derived.Test.YtfahfbeemgigcaaDM
import Derived.Test.YtfahfbeemgigcaaU10
namespace Go.Proofs.Ytfahfbeemgigcaa
open Th

theorem okL_up {m m' : Int} {ts : List (Int × Int)} (h : okL m ts = true) (hall : ∀ p ∈ ts, m' ≤ p.1) : okL m' ts = true := by
  cases ts with
  | nil => rfl
  | cons p r =>
    simp only [okL, Bool.and_eq_true] at h ⊢
    have hp := (okOne_iff m p).1 h.1
    exact ⟨(okOne_iff _ p).2 ⟨hall p List.mem_cons_self, hp.2.1, hp.2.2.1, hp.2.2.2⟩, h.2⟩
theorem ins_okL : ∀ {m : Int} {ts : List (Int × Int)} {x : Int × Int}, okL m ts = true → m ≤ x.1 → x.1 ≤ 1000000000 → 0 ≤ x.2 → x.2 ≤ 23 → okL m (insL x ts) = true
  | m, [], x, _, h1, h2, h3, h4 => by
    simp only [insL, okL, Bool.and_true]
    exact (okOne_iff _ x).2 ⟨h1, h2, h3, h4⟩
  | m, p :: r, x, h, h1, h2, h3, h4 => by
    have h' := h
    simp only [okL, Bool.and_eq_true] at h
    have hp := (okOne_iff m p).1 h.1
    simp only [insL]
    split
    · next hlt =>
      simp only [okL, Bool.and_eq_true]
      exact ⟨(okOne_iff _ x).2 ⟨h1, h2, h3, h4⟩, (okOne_iff _ p).2 ⟨by omega, hp.2.1, hp.2.2.1, hp.2.2.2⟩, h.2⟩
    · next hge =>
      simp only [okL, Bool.and_eq_true]
      exact ⟨h.1, ins_okL h.2 (by omega) h2 h3 h4⟩
theorem ins_len (x : Int × Int) : ∀ ts : List (Int × Int), (insL x ts).length = ts.length + 1
  | [] => rfl
  | p :: r => by
    simp only [insL]
    split
    · rfl
    · rw [List.length_cons, ins_len x r, List.length_cons]
theorem ins_mem (x : Int × Int) : ∀ ts : List (Int × Int), x ∈ insL x ts
  | [] => by simp [insL]
  | p :: r => by
    simp only [insL]
    split
    · exact List.mem_cons_self
    · exact List.mem_cons_of_mem _ (ins_mem x r)
/-- Ahead of its time nothing is told of it. -/
theorem due_ins {x : Int × Int} {t : Int} (hx : ¬ x.1 ≤ t) : ∀ ts : List (Int × Int), dueL t (insL x ts) = dueL t ts
  | [] => by simp [insL, dueL, hx]
  | p :: r => by
    simp only [insL]
    split
    · simp [dueL, hx]
    · have ih := due_ins hx r
      simp only [dueL] at ih ⊢
      simp only [List.filter_cons, ih]
/-- At its time it is told, and last. -/
theorem due_ins_at {x : Int × Int} : ∀ {m : Int} {ts : List (Int × Int)}, okL m ts = true → dueL x.1 (insL x ts) = dueL x.1 ts ++ [x]
  | m, [], _ => by simp [insL, dueL]
  | m, p :: r, h => by
    simp only [okL, Bool.and_eq_true] at h
    simp only [insL]
    split
    · next hlt =>
      have hall : ∀ q ∈ p :: r, ¬ q.1 ≤ x.1 := by
        intro q hq
        rcases List.mem_cons.1 hq with rfl | hq
        · omega
        · have := okL_ge h.2 q hq; omega
      have e : dueL x.1 (p :: r) = [] := List.filter_eq_nil_iff.2 (fun q hq => by simpa using hall q hq)
      rw [e, List.nil_append]
      unfold dueL at e ⊢
      rw [List.filter_cons, e]
      simp
    · next hge =>
      have ih := due_ins_at (x := x) h.2
      unfold dueL at ih ⊢
      have hp : p.1 ≤ x.1 := by omega
      rw [List.filter_cons, List.filter_cons, ih]
      simp [hp]
/-- What setting one gives, where it is done. -/
structure SetOk (now i tok : Int) (ts : List (Int × Int)) : Prop where
  ok : okClock now ts = true
  i1 : 1 ≤ i
  t0 : 0 ≤ tok
  t1 : tok ≤ 23
  fit : i ≤ 1000000000 - now
  room : ts.length ≠ 40
theorem set_done {now i tok : Int} {ts : List (Int × Int)} (h : (setT now ts i tok).2 = 0) : SetOk now i tok ts ∧ setT now ts i tok = (insL (now + i, tok) ts, 0) := by
  unfold setT at h ⊢
  split at h
  · next hc =>
    split at h
    · simp at h
    · next hl => exact ⟨⟨hc.1, hc.2.1, hc.2.2.1.1, hc.2.2.1.2, hc.2.2.2, hl⟩, by rw [if_pos hc, if_neg hl]⟩
  · simp at h
theorem set_not {now i tok : Int} {ts : List (Int × Int)} (h : (setT now ts i tok).2 ≠ 0) : (setT now ts i tok).1 = ts := by
  unfold setT at h ⊢
  split
  · next hc =>
    rw [if_pos hc] at h
    split
    · rfl
    · next hl => rw [if_neg hl] at h; exact absurd rfl h
  · rfl
theorem SetOk.ins {now i tok : Int} {ts : List (Int × Int)} (h : SetOk now i tok ts) : okClock now (insL (now + i, tok) ts) = true := by
  obtain ⟨p0, p1, p2, p3⟩ := ok_parts h.ok
  have h1 := h.i1
  have h2 := h.t0
  have h3 := h.t1
  have h4 := h.fit
  have h5 := h.room
  have e : okL (now + 1) (insL (now + i, tok) ts) = true := ins_okL p3 (by simp only; omega) (by simp only; omega) (by simp only; omega) (by simp only; omega)
  have hl : (insL (now + i, tok) ts).length ≤ 40 := by rw [ins_len]; omega
  unfold okClock
  rw [decide_eq_true (by omega : 0 ≤ now), decide_eq_true (by omega : now ≤ 1000000000), decide_eq_true hl, e]
  rfl
theorem adv_ok {now d : Int} {ts : List (Int × Int)} (h : okClock now ts = true) (h0 : 0 ≤ d) (h1 : d ≤ 1000000000 - now) : advT now ts d = (now + d, laterL (now + d) ts, (dueL (now + d) ts).map Prod.snd, 0) := by
  unfold advT; rw [if_pos ⟨h, h0, h1⟩]
/-- The clock just ahead of it, and then at it. -/
theorem SetOk.told {now i tok : Int} {ts : List (Int × Int)} (h : SetOk now i tok ts) :
    (advT now (insL (now + i, tok) ts) (i - 1)).2.2.1 = (advT now ts (i - 1)).2.2.1 ∧
    (advT (advT now (insL (now + i, tok) ts) (i - 1)).1 (advT now (insL (now + i, tok) ts) (i - 1)).2.1 1).2.2.2 = 0 ∧
    (∃ l, (advT (advT now (insL (now + i, tok) ts) (i - 1)).1 (advT now (insL (now + i, tok) ts) (i - 1)).2.1 1).2.2.1 = l ++ [tok]) ∧
    ((advT now (insL (now + i, tok) ts) (i - 1)).2.2.1.length + (advT (advT now (insL (now + i, tok) ts) (i - 1)).1 (advT now (insL (now + i, tok) ts) (i - 1)).2.1 1).2.2.1.length = (advT now ts i).2.2.1.length + 1) := by
  have h1 := h.i1
  have h4 := h.fit
  have hI := h.ins
  obtain ⟨p0, p1, p2, p3⟩ := ok_parts h.ok
  obtain ⟨_, _, _, q3⟩ := ok_parts hI
  have e1 := adv_ok hI (by omega : 0 ≤ i - 1) (by omega)
  have e2 := adv_ok h.ok (by omega : 0 ≤ i - 1) (by omega)
  have e3 := adv_ok h.ok (by omega : 0 ≤ i) (by omega)
  have hL := ok_later hI (by omega : 0 ≤ i - 1) (by omega)
  have e4 := adv_ok hL (by omega : (0 : Int) ≤ 1) (by omega)
  have e5 : now + (i - 1) + 1 = now + i := by omega
  rw [e5] at e4
  rw [e1, e2, e3]
  simp only
  rw [e4]
  simp only
  have hd := due_ins_at (x := (now + i, tok)) p3
  have hb := due_ins (x := (now + i, tok)) (t := now + (i - 1)) (by simp only; omega) ts
  have hdd := due_due (s := now + (i - 1)) (t := now + i) q3 (by omega)
  have hdt := due_due (s := now + (i - 1)) (t := now + i) p3 (by omega)
  simp only at hd
  rw [hd, hb, ← hdt, List.append_assoc] at hdd
  have hx := List.append_cancel_left hdd
  refine ⟨by rw [hb], trivial, ⟨(dueL (now + i) (laterL (now + (i - 1)) ts)).map Prod.snd, by rw [hx]; simp⟩, ?_⟩
  rw [hb, hx, ← hdt]
  simp only [List.length_map, List.length_append, List.length_cons, List.length_nil]
  omega
/-- It is stopped: it is told no more. -/
theorem SetOk.stop {now i tok : Int} {ts : List (Int × Int)} (h : SetOk now i tok ts) :
    1 ≤ (stopT now (insL (now + i, tok) ts) tok).2 ∧ (((stopT now (insL (now + i, tok) ts) tok).1.length : Int) + (stopT now (insL (now + i, tok) ts) tok).2 = ((insL (now + i, tok) ts).length : Int)) ∧
    tok ∉ (advT now (stopT now (insL (now + i, tok) ts) tok).1 i).2.2.1 := by
  have e : stopT now (insL (now + i, tok) ts) tok = ((insL (now + i, tok) ts).filter (fun p => !(p.2 == tok)), ((insL (now + i, tok) ts).length : Int) - (((insL (now + i, tok) ts).filter (fun p => !(p.2 == tok))).length : Int)) := by
    unfold stopT; rw [if_pos h.ins]
  rw [e]
  simp only
  have hlt : ((insL (now + i, tok) ts).filter (fun p => !(p.2 == tok))).length < (insL (now + i, tok) ts).length := by
    refine Nat.lt_of_le_of_ne (List.length_filter_le _ _) (fun hq => ?_)
    have := List.length_filter_eq_length_iff.1 hq (now + i, tok) (ins_mem _ ts)
    simp at this
  refine ⟨by omega, by omega, ?_⟩
  unfold advT
  split
  · intro hm
    obtain ⟨p, hp, e⟩ := List.mem_map.1 hm
    have h1 := (List.mem_filter.1 hp).1
    have h2 := (List.mem_filter.1 h1).2
    rw [e] at h2
    simp at h2
  · intro hm; cases hm
end Go.Proofs.Ytfahfbeemgigcaa
