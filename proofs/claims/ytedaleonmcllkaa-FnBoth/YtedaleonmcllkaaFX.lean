/-
  What passes both filters, and the other one: plain mathematics.
-/
import Derived.Test.YtedaleonmcllkaaBF8
import Derived.Test.YtedaleonmcllkaaFO
namespace Go.Proofs.Ytedaleonmcllkaa
open Go.RowKit Pl Il

theorem okF_one {f : List Tm} (h : okF f = true) (h0 : f ≠ []) : goN f 0 = some 1 := by
  cases f with
  | nil => exact absurd rfl h0
  | cons x l => simp [okF] at h; exact h.2
theorem run_one {f : List Tm} (h : okF f = true) (h0 : f ≠ []) : ∃ p, runP f = [p] ∧ passP f = p := by
  have hg := okF_one h h0
  have hl := runP_len (f := f) (k := f.length) (m := 1) (Nat.le_refl _) (by rw [List.take_length]; exact hg)
  rw [List.take_length] at hl
  match hp : runP f, hl with
  | [p], _ => exact ⟨p, rfl, by rw [passP_end h0, hp]; rfl⟩
theorem goN_shift : ∀ (g : List Tm) (n m k : Nat), goN g n = some m → goN g (n + k) = some (m + k)
  | [], n, m, k, h => by simp [goN] at h ⊢; exact h
  | t :: g, n, m, k, h => by
    rw [goN_cons] at h ⊢
    by_cases h1 : okTm t = false
    · rw [if_pos h1] at h; cases h
    · rw [if_neg h1] at h ⊢
      by_cases h2 : n < cntM t.1
      · rw [if_pos h2] at h; cases h
      · rw [if_neg h2] at h
        rw [if_neg (by omega)]
        have := goN_shift g _ m k h
        rw [show n + k - cntM t.1 + 1 = n - cntM t.1 + 1 + k by omega]
        exact this
theorem pg_app {qs ps : List Pd} {i : Nat} : pg (qs ++ ps) (qs.length + i) = pg ps i := by
  simp [pg, List.getD, List.getElem?_append_right]
theorem take_app (qs ps : List Pd) (i : Nat) : (qs ++ ps).take (qs.length + i) = qs ++ ps.take i := by
  rw [List.take_append, List.take_of_length_le (by omega), Nat.add_sub_cancel_left]
theorem step_app (t : Tm) (qs ps : List Pd) (h : ¬ ps.length < cntM t.1) : stepP t (qs ++ ps) = qs ++ stepP t ps := by
  have hlen : (qs ++ ps).length = qs.length + ps.length := List.length_append
  by_cases h8 : t.1 = 8
  · have hl : 1 ≤ ps.length := by rw [h8] at h; have e : cntM 8 = 1 := rfl; omega
    rw [stepP_8 h8, stepP_8 h8, show (qs ++ ps).length - 1 = qs.length + (ps.length - 1) by omega, pg_app, take_app, List.append_assoc]
  by_cases h9 : t.1 = 9
  · have hl : 2 ≤ ps.length := by rw [h9] at h; have e : cntM 9 = 2 := rfl; omega
    rw [stepP_9 h9, stepP_9 h9, show (qs ++ ps).length - 1 = qs.length + (ps.length - 1) by omega, show (qs ++ ps).length - 2 = qs.length + (ps.length - 2) by omega, pg_app, pg_app, take_app, List.append_assoc]
  by_cases h10 : t.1 = 10
  · have hl : 2 ≤ ps.length := by rw [h10] at h; have e : cntM 10 = 2 := rfl; omega
    rw [stepP_10 h10, stepP_10 h10, show (qs ++ ps).length - 1 = qs.length + (ps.length - 1) by omega, show (qs ++ ps).length - 2 = qs.length + (ps.length - 2) by omega, pg_app, pg_app, take_app, List.append_assoc]
  have hc : cntM t.1 = 0 := by simp [cntM, h8, h9, h10]
  rw [stepP_0 hc, stepP_0 hc, List.append_assoc]
theorem run_app : ∀ (g : List Tm) (qs ps : List Pd) (m : Nat), goN g ps.length = some m → g.foldl (fun ps t => stepP t ps) (qs ++ ps) = qs ++ g.foldl (fun ps t => stepP t ps) ps
  | [], qs, ps, m, h => rfl
  | t :: g, qs, ps, m, h => by
    rw [goN_cons] at h
    by_cases h1 : okTm t = false
    · rw [if_pos h1] at h; cases h
    · rw [if_neg h1] at h
      by_cases h2 : ps.length < cntM t.1
      · rw [if_pos h2] at h; cases h
      · rw [if_neg h2] at h
        rw [List.foldl_cons, List.foldl_cons, step_app t qs ps h2]
        exact run_app g qs (stepP t ps) m (by rw [stepP_len t ps h2]; exact h)
theorem okT9 : okTm (9, 0, noT) = true := by
  have : noT.toList = [] := by rw [ByteArray.toList_eq]; rfl
  simp [okTm, this]
theorem okT8 : okTm (8, 0, noT) = true := by
  have : noT.toList = [] := by rw [ByteArray.toList_eq]; rfl
  simp [okTm, this]
theorem okT1 : okTm (1, 0, noT) = true := by
  have : noT.toList = [] := by rw [ByteArray.toList_eq]; rfl
  simp [okTm, this]
theorem both_pass {f g h : List Tm} (hb : bothM f g = some h) : okF f = true ∧ okF g = true ∧ okF h = true ∧ ∀ b, passP h b = (passP f b && passP g b) := by
  unfold bothM at hb
  by_cases hf : okF f = false
  · rw [if_pos hf] at hb; cases hb
  rw [if_neg hf] at hb
  by_cases hg : okF g = false
  · rw [if_pos hg] at hb; cases hb
  rw [if_neg hg] at hb
  have hf' : okF f = true := by simpa using hf
  have hg' : okF g = true := by simpa using hg
  by_cases h0 : f = []
  · rw [if_pos h0] at hb
    cases hb
    subst h0
    exact ⟨hf', hg', hg', fun b => by simp [passP]⟩
  rw [if_neg h0] at hb
  by_cases h1 : g = []
  · rw [if_pos h1] at hb
    cases hb
    subst h1
    exact ⟨hf', hg', hf', fun b => by simp [passP]⟩
  rw [if_neg h1] at hb
  by_cases hl : f.length + g.length + 1 ≤ 12
  · rw [if_pos hl] at hb
    cases hb
    obtain ⟨p, hp, hpp⟩ := run_one hf' h0
    obtain ⟨q, hq, hqq⟩ := run_one hg' h1
    have hgo : goN (f ++ g) 0 = some 2 := by
      rw [goN_append, okF_one hf' h0]
      have := goN_shift g 0 1 1 (okF_one hg' h1)
      simpa using this
    have hr : runP (f ++ g) = [p] ++ [q] := by
      have e := run_app g (runP f) [] 1 (okF_one hg' h1)
      rw [List.append_nil, hp] at e
      have e2 : runP (f ++ g) = g.foldl (fun ps t => stepP t ps) (runP f) := by unfold runP; rw [List.foldl_append]
      rw [e2, hp, e]
      exact congrArg _ hq
    have hne : f ++ g ++ [((9, 0, noT) : Tm)] ≠ [] := by simp
    refine ⟨hf', hg', ?_, fun b => ?_⟩
    · rw [okF_end hne (by simp; omega) (m := 1) (by rw [goN_snoc, hgo]; simp [okT9, cntM])]
      rfl
    · rw [passP_end hne, runP_snoc, hr, stepP_9 rfl, hpp, hqq]
      simp [pg, Bool.and_comm]
  · rw [if_neg hl] at hb; cases hb
theorem both_sym {f g : List Tm} : (bothM f g).isSome = (bothM g f).isSome := by
  unfold bothM
  by_cases hf : okF f = false
  · by_cases hg : okF g = false
    · simp [hf, hg]
    · simp [hf, hg]
  · by_cases hg : okF g = false
    · simp [hf, hg]
    · by_cases h0 : f = []
      · by_cases h1 : g = []
        · simp [h0, h1]
        · simp [hg, h0, h1]
      · by_cases h1 : g = []
        · simp [hf, h0, h1]
        · by_cases hl : f.length + g.length + 1 ≤ 12
          · have hl' : g.length + f.length + 1 ≤ 12 := by omega
            simp [hf, hg, h0, h1, hl, hl']
          · have hl' : ¬ g.length + f.length + 1 ≤ 12 := by omega
            simp [hf, hg, h0, h1, hl, hl']
theorem other_pass {f g : List Tm} (h : otherM f = some g) : okF f = true ∧ okF g = true ∧ ∀ b, passP g b = !(passP f b) := by
  unfold otherM at h
  by_cases hf : okF f = false
  · rw [if_pos hf] at h; cases h
  rw [if_neg hf] at h
  have hf' : okF f = true := by simpa using hf
  by_cases hl : f.length + 1 ≤ 12
  · rw [if_pos hl] at h
    by_cases h0 : f = []
    · rw [if_pos h0] at h
      cases h
      subst h0
      refine ⟨rfl, ?_, fun b => ?_⟩
      · rw [okF_end (by simp) (by simp) (m := 1) (by simp [goN, okT1, okT8, cntM])]; rfl
      · rw [passP_end (by simp), runP_snoc, show runP [((1, 0, noT) : Tm)] = [leafP (1, 0, noT)] by simp [runP, stepP], stepP_8 rfl]
        cases b <;> simp [pg, leafP, passP]
    · rw [if_neg h0] at h
      cases h
      obtain ⟨p, hp, hpp⟩ := run_one hf' h0
      have hne : f ++ [((8, 0, noT) : Tm)] ≠ [] := by simp
      refine ⟨hf', ?_, fun b => ?_⟩
      · rw [okF_end hne (by simp; omega) (m := 1) (by rw [goN_snoc, okF_one hf' h0]; simp [okT8, cntM])]; rfl
      · rw [passP_end hne, runP_snoc, hp, stepP_8 rfl, hpp]
        simp [pg]
  · rw [if_neg hl] at h; cases h
end Go.Proofs.Ytedaleonmcllkaa
