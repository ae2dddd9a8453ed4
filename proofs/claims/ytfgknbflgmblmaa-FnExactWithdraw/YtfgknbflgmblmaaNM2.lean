/-
  The plain mathematics of grants: whose is found, and the list without it.
-/
import Derived.Test.YtfgknbflgmblmaaV3
namespace Go.Proofs.Ytfgknbflgmblmaa
open Go.RowKit Pl Il

theorem find_cons (g : Int × Bool) (gs : List (Int × Bool)) (who : Int) : findG (g :: gs) who = if (g.1 == who) = true then some g.2 else findG gs who := by
  unfold findG
  rw [List.find?_cons]
  cases h : g.1 == who <;> simp
theorem find_mem : ∀ {gs : List (Int × Bool)} (_ : (whosL gs).Nodup) {h : Int × Bool} (_ : h ∈ gs), findG gs h.1 = some h.2
  | [], _, _, hm => by simp at hm
  | g :: gs, hd, h, hm => by
    simp only [whosL, List.map_cons, List.nodup_cons] at hd
    rw [find_cons]
    rcases List.mem_cons.1 hm with rfl | hm
    · simp
    · have hne : (g.1 == h.1) = false := by
        rw [beq_eq_false_iff_ne]
        intro e
        exact hd.1 (by rw [e]; exact List.mem_map.2 ⟨h, hm, rfl⟩)
      rw [hne]
      exact find_mem hd.2 hm
theorem mem_of_find {gs : List (Int × Bool)} {who : Int} {b : Bool} (h : findG gs who = some b) : (who, b) ∈ gs := by
  unfold findG at h
  rw [Option.map_eq_some_iff] at h
  obtain ⟨g, hg, rfl⟩ := h
  have h1 := List.mem_of_find?_eq_some hg
  have h2 := List.find?_some hg
  simp only [beq_iff_eq] at h2
  rw [← h2]
  exact h1
theorem find_has {gs : List (Int × Bool)} {who : Int} {b : Bool} (h : findG gs who = some b) : hasL (whosL gs) who = true := by
  have := mem_of_find h
  simp only [hasL, List.contains_eq_mem, decide_eq_true_eq, whosL]
  exact List.mem_map.2 ⟨_, this, rfl⟩
theorem find_one {gs : List (Int × Bool)} {who : Int} (hd : (whosL gs).Nodup) (h : hasL (whosL gs) who = true) : findG gs who = some (oneOf gs who) := by
  simp only [hasL, List.contains_eq_mem, decide_eq_true_eq, whosL] at h
  obtain ⟨g, hg, rfl⟩ := List.mem_map.1 h
  rw [find_mem hd hg]
  congr 1
  cases hb : g.2
  · have : ¬ (g.1, true) ∈ gs := by
      intro hm
      have h1 := find_mem hd hm
      have h2 := find_mem hd hg
      simp only at h1
      rw [h1, hb] at h2
      simp at h2
    simp [oneOf, oneOf.hasG, this]
  · have : (g.1, true) ∈ gs := by rw [← hb]; exact hg
    simp [oneOf, oneOf.hasG, this]
theorem less_without {gs : List (Int × Bool)} {who : Int} {b : Bool} (hd : (whosL gs).Nodup) (hf : findG gs who = some b) : (gs.filter fun h => !(h.1 == who && h.2 == b)) = lessG gs who := by
  unfold lessG
  apply List.filter_congr
  intro h hm
  cases e : h.1 == who
  · simp
  · have e' : h.1 = who := by simpa using e
    have := find_mem hd hm
    rw [e', hf] at this
    simp at this
    simp [this]
theorem less_snoc (gs : List (Int × Bool)) (g : Int × Bool) (who : Int) : lessG (gs ++ [g]) who = lessG gs who ++ (if (g.1 == who) = true then [] else [g]) := by
  unfold lessG
  rw [List.filter_append]
  cases h : g.1 == who <;> simp [h]
/-- The k-th is who's just where who is found. -/
theorem place_at {gs : List (Int × Bool)} (hd : (whosL gs).Nodup) {k : Nat} (hk : k < gs.length) {who : Int} : ((gg gs k).1 = who) ↔ placeL (whosL gs) who = (k : Int) := by
  have hkw : k < (whosL gs).length := by rw [whos_len]; exact hk
  have hg : (whosL gs)[k] = (gg gs k).1 := by rw [← whos_at]; simp [List.getD, List.getElem?_eq_getElem hkw]
  constructor
  · intro h
    have := find_nodup hd hkw
    rw [hg, h] at this
    unfold placeL
    rw [this]
  · intro h
    unfold placeL at h
    cases e : (whosL gs).findIdx? (· == who) with
    | none => rw [e] at h; simp at h
    | some i =>
      rw [e] at h
      simp only at h
      obtain rfl : i = k := by omega
      obtain ⟨_, h2, _⟩ := List.findIdx?_eq_some_iff_getElem.1 e
      rw [← hg]
      simpa using h2
theorem place_bound {xs : List Int} {who : Int} (h : hasL xs who = true) : ∃ k, k < xs.length ∧ placeL xs who = (k : Int) := by
  unfold placeL
  cases e : xs.findIdx? (· == who) with
  | none =>
    rw [List.findIdx?_eq_none_iff] at e
    simp only [hasL, List.contains_eq_mem, decide_eq_true_eq] at h
    have := e who h
    simp at this
  | some i =>
    obtain ⟨h1, _⟩ := List.findIdx?_eq_some_iff_getElem.1 e
    exact ⟨i, h1, rfl⟩
theorem place_minus {xs : List Int} {who : Int} (h : hasL xs who = false) : placeL xs who = -1 := (place_none (Nat.le_refl _) (by rw [List.take_length]; exact h)).symm
theorem gg_who {gs : List (Int × Bool)} (hd : (whosL gs).Nodup) {k : Nat} (hk : k < gs.length) {who : Int} (h : placeL (whosL gs) who = (k : Int)) : gg gs k = (who, oneOf gs who) := by
  have h1 := (place_at hd hk).2 h
  have hm : gg gs k ∈ gs := by rw [gg_eq hk]; exact List.getElem_mem _
  have h2 := find_mem hd hm
  rw [h1] at h2
  rw [find_one hd (find_has h2)] at h2
  simp at h2
  exact Prod.ext h1 h2.symm
theorem lessG_len (gs : List (Int × Bool)) (who : Int) : (lessG gs who).length ≤ gs.length := List.length_filter_le _ _
theorem wake_whole {xs : List Int} (h : lineL xs = true) : wakeRest xs (xs.length : Int) = [] ∧ wakeOut xs (xs.length : Int) = xs := by
  obtain ⟨h1, h2⟩ := wake_good h (k := (xs.length : Int)) (by omega)
  have e : wakeN xs (xs.length : Int) = xs.length := by unfold wakeN; split <;> simp_all
  rw [h1, h2, e]
  simp
end Go.Proofs.Ytfgknbflgmblmaa
