/-
  Lists of topics that read the same are right together.
-/
import Derived.Test.YtffpecdjfcgadaaGreatDoorZTm22
import Derived.Test.YtffpecdjfcgadaaGreatDoorZTm16
namespace Go.Proofs.YtffpecdjfcgadaaGreatDoor
open Go.RowKit Pl Il Tn

/-- Right lists are told apart from where they lie. -/
theorem tg_tvs {xs ys : List Ta} (h : tvs ys = tvs xs) (i : Nat) : (tg ys i).nm = (tg xs i).nm ∧ (tg ys i).v = (tg xs i).v := by
  have hl : ys.length = xs.length := by have := congrArg List.length h; simpa [tvs] using this
  by_cases hi : i < ys.length
  · exact ⟨(tvs_at h hi).1.symm, (tvs_at h hi).2.symm⟩
  · unfold tg
    rw [List.getD_eq_getElem?_getD, List.getD_eq_getElem?_getD, List.getElem?_eq_none (by omega), List.getElem?_eq_none (by omega)]
    exact ⟨rfl, rfl⟩
theorem okTs_tvs {xs ys : List Ta} (h : tvs ys = tvs xs) : okTs ys = okTs xs := by
  have hl : ys.length = xs.length := by have := congrArg List.length h; simpa [tvs] using this
  have ha : ∀ i, okTa ys i = okTa xs i := fun i => by
    unfold okTa
    rw [(tg_tvs h i).1, (tg_tvs h i).2]
    have : (∀ j, j < i → ¬ (tg ys j).nm = (tg xs i).nm) ↔ ∀ j, j < i → ¬ (tg xs j).nm = (tg xs i).nm := by
      constructor
      · intro k j hj; rw [← (tg_tvs h j).1]; exact k j hj
      · intro k j hj; rw [(tg_tvs h j).1]; exact k j hj
    simp only [this]
  have ht : topTo ys xs.length ↔ topTo xs xs.length := by
    unfold topTo
    constructor
    · intro k i hi; rw [← ha]; exact k i hi
    · intro k i hi; rw [ha]; exact k i hi
  unfold okTs
  exact congr (congrArg and (decide_eq_decide.2 (by rw [hl]))) (decide_eq_decide.2 (by rw [hl]; exact ht))
theorem nms_tvs {xs ys : List Ta} (h : tvs ys = tvs xs) : nms ys = nms xs := by
  have h2 := congrArg (List.map Prod.fst) h
  simp only [tvs, List.map_map] at h2
  exact h2
theorem wf_to {xs ys : List Ta} (hs : tvs ys = tvs xs) (h : ∀ y, y ∈ ys → RCap y.M ∧ ∃ x, x ∈ xs ∧ ∀ k, RLe x.M k → RLe y.M k) (hle : TLe xs 1048576) (hw : ∀ x, x ∈ xs → RWf x.v) : TWf ys :=
  ⟨ToT.le h hle, fun y hy => (h y hy).1, fun y hy => by
    obtain ⟨i, hi, rfl⟩ := List.getElem_of_mem hy
    have hl : ys.length = xs.length := by have := congrArg List.length hs; simpa [tvs] using this
    have e := (tg_tvs hs i).2
    rw [tg_eq hi, tg_eq (by omega)] at e
    rw [e]
    exact hw _ (List.getElem_mem _)⟩
end Go.Proofs.YtffpecdjfcgadaaGreatDoor
