/-
  Lists of truth values that a call makes: copied, appended to.
-/
import Derived.Test.YtgklnpkeffobnaaBB1
import Derived.Test.YtgklnpkeffobnaaH6
namespace Go.Proofs.Ytgklnpkeffobnaa
open Go.RowKit Pl Il

/-- A list that the call has made: its row, whole. -/
abbrev OwnsB (B : Nat) (w : World) (g n cap : Nat) (xs : List Bool) : Prop := w.ownsRow B 4 1 (.slice (some ⟨g, 0, none⟩) n cap) n (xs.map (Value.bool))
theorem ownsB_parts {B : Nat} {w : World} {g n cap : Nat} {xs : List Bool} (h : OwnsB B w g n cap xs) : xs.length = n ∧ B ≤ g ∧ g < w.heap.size ∧ n ≤ cap ∧ cap ≤ maxLen ∧ OwnB B w (some ⟨g, 0, none⟩) n xs := by
  obtain ⟨a, c, e, ho⟩ := own_ofB h xs rfl
  cases e
  obtain ⟨hl, ⟨e, _⟩ | ⟨g', c', cur, e, hB, hg, hc, hm, _⟩⟩ := h
  · cases e
  · cases e
    refine ⟨by simpa using hl, hB, ?_, hc, hm, ho⟩
    rcases Nat.lt_or_ge g w.heap.size with k | k
    · exact k
    · rw [Array.getElem?_eq_none k] at hg; cases hg
theorem ownsB_keep {B : Nat} {w w' : World} {g n cap : Nat} {xs : List Bool} (h : OwnsB B w g n cap xs) (hb : Below w.heap.size w w') : OwnsB B w' g n cap xs := by
  have hlt := (ownsB_parts h).2.2.1
  obtain ⟨hl, ⟨e, _⟩ | ⟨g', c', cur, e, hB, hg, hr⟩⟩ := h
  · cases e
  · cases e
    exact ⟨hl, .inr ⟨g, cap, cur, rfl, hB, by rw [hb.block g hlt]; exact hg, hr⟩⟩
theorem ownsB_mono {B B' : Nat} {w : World} {g n cap : Nat} {xs : List Bool} (h : OwnsB B w g n cap xs) (hB : B' ≤ B) : OwnsB B' w g n cap xs := by
  obtain ⟨hl, ⟨e, _⟩ | ⟨g', c', cur, e, hB0, hr⟩⟩ := h
  · cases e
  · exact ⟨hl, .inr ⟨g', c', cur, e, Nat.le_trans hB hB0, hr⟩⟩
theorem ownsB_empty (w : World) : OwnsB w.heap.size (w.alloc (.cells #[] 4)) w.heap.size 0 0 [] :=
  ⟨rfl, .inr ⟨w.heap.size, 0, #[], rfl, Nat.le_refl _, heap_alloc_new w _, Nat.le_refl _, Nat.zero_le _, rfl, rfl⟩⟩

theorem append_bools2 (B g m c : Nat) (ys : List Bool) (a : Option Addr) (n cap : Nat) (xs : List Bool) (w : World) (ho : OwnsB B w g m c ys) (hB : B ≤ w.heap.size) (hI : BoolsAt w a n xs) (hs : m + n ≤ 4194304) :
    ∃ (g' c' : Nat) (w' : World), (Builtin.append_ #[25, 25] 25 #[.slice (some ⟨g, 0, none⟩) m c, .slice a n cap]).run Try.prog w = .ok (.slice (some ⟨g', 0, none⟩) (m + n) c') w' ∧
      OwnsB B w' g' (m + n) c' (ys ++ xs) ∧ w.grownBy w' (some g) ∧ (g' = g ∨ g' = w.heap.size) := by
  obtain ⟨i, hi, hz0, hz1, hz2⟩ := info_parts info4
  have hg0 : w.grownBy w (some g) := ⟨rfl, rfl, rfl, Nat.le_refl _, fun _ _ _ => rfl⟩
  have short : ∀ u : Value, (Builtin.append_ #[25, 25] 25 #[.slice (some ⟨g, 0, none⟩) m c, u]).run Try.prog w = .ok (.slice (some ⟨g, 0, none⟩) m c) w →
      ∃ (g' c' : Nat) (w' : World), (Builtin.append_ #[25, 25] 25 #[.slice (some ⟨g, 0, none⟩) m c, u]).run Try.prog w = .ok (.slice (some ⟨g', 0, none⟩) (m + 0) c') w' ∧ OwnsB B w' g' (m + 0) c' (ys ++ []) ∧ w.grownBy w' (some g) ∧ (g' = g ∨ g' = w.heap.size) :=
    fun u hu => ⟨g, c, w, hu, by rw [List.append_nil]; exact ho, hg0, .inl rfl⟩
  have hmc := (ownsB_parts ho).2.2.2.1
  obtain ⟨hlen, rfl | ⟨b, off, rfl, hb, hcell⟩⟩ := hI
  · have hx : xs = [] := List.length_eq_zero_iff.1 hlen
    subst hx
    refine short _ ?_
    rcases a with _ | ad
    · exact run_append_room_src _ _ _ _ 4 i Try.underlying25 hi g 0 m c _ 0 [] (Src.ofNil _ Try.underlying25 cap) (by omega) (fun j hj => by cases hj) (fun j hj => by cases hj)
    · exact run_append_room_src _ _ _ _ 4 i Try.underlying25 hi g 0 m c _ 0 [] (Src.ofSlice _ Try.underlying25 ad 0 cap [] (by simp) (fun j u h => by simp at h) (fun u h => by cases h)) (by omega) (fun j hj => by cases hj) (fun j hj => by cases hj)
  · rcases Nat.eq_zero_or_pos n with h0 | hpos
    · subst h0
      have hx : xs = [] := List.length_eq_zero_iff.1 hlen
      subst hx
      refine short _ ?_
      exact run_append_room_src _ _ _ _ 4 i Try.underlying25 hi g 0 m c _ 0 [] (Src.ofSlice _ Try.underlying25 ⟨b, off, none⟩ 0 cap [] (by simp) (fun j u h => by simp at h) (fun u h => by cases h)) (by omega) (fun j hj => by cases hj) (fun j hj => by cases hj)
    · obtain ⟨g', c', w', hr, hown, hgrow, hat, _⟩ := run_append_lies (P := Try.prog) w 25 25 B 4 i (.bool false) 1 1 Try.underlying25 hi hz0 hz1 hz2 rfl (by omega) _ m _ ho ⟨b, off, none⟩ n cap (xs.map (Value.bool)) (by simp [hlen])
        (fun j u h => by
          rw [Addr.add_lit]
          have hj : j < n := by
            have := (List.getElem?_eq_some_iff.1 h).1
            simpa [hlen] using this
          rw [hcell j hj]
          simp only [List.getElem?_map] at h
          rw [List.getElem?_eq_getElem (by omega)] at h
          simp only [Option.map_some, Option.some.injEq] at h
          rw [← h]
          simp [List.getD, List.getElem?_eq_getElem (show j < xs.length by omega)])
        (fun u hu => by obtain ⟨_, _, rfl⟩ := List.mem_map.1 hu; rfl) hpos (by unfold maxLen; omega) (by omega) hB _ rfl
      refine ⟨g', c', w', hr, by rw [← List.map_append] at hown; exact hown, hgrow, ?_⟩
      rcases hat with h | h
      · left; simpa [Value.ownBlock] using h.symm
      · exact .inr h
theorem append_bools (B g m c : Nat) (ys : List Bool) (a : Option Addr) (n cap : Nat) (xs : List Bool) (w : World) (ho : OwnsB B w g m c ys) (hB : B ≤ w.heap.size) (hI : BoolsAt w a n xs) (hs : m + n ≤ 4194304) :
    ∃ (g' c' : Nat) (w' : World), (Builtin.append_ #[25, 25] 25 #[.slice (some ⟨g, 0, none⟩) m c, .slice a n cap]).run Try.prog w = .ok (.slice (some ⟨g', 0, none⟩) (m + n) c') w' ∧
      OwnsB B w' g' (m + n) c' (ys ++ xs) ∧ w.grownBy w' (some g) := by
  obtain ⟨g', c', w', h1, h2, h3, _⟩ := append_bools2 B g m c ys a n cap xs w ho hB hI hs
  exact ⟨g', c', w', h1, h2, h3⟩
/-- append of one truth value to a row that is owned, or nil. -/
theorem append_ownB1 (B m : Nat) (v : Value) (ys : List Bool) (x : Bool) (w : World) (ho : w.ownsRow B 4 1 v m (ys.map (Value.bool))) (hB : B ≤ w.heap.size) (hs : m + 1 ≤ 4194304) :
    ∃ (g' c' : Nat) (w' : World), (Builtin.append_ #[25, 25] 25 #[v, .slice (some ⟨w.heap.size, 0, none⟩) 1 1]).run Try.prog (w.alloc (.cells #[.bool x] 4)) = .ok (.slice (some ⟨g', 0, none⟩) (m + 1) c') w' ∧
      w'.ownsRow B 4 1 (.slice (some ⟨g', 0, none⟩) (m + 1) c') (m + 1) ((ys ++ [x]).map (Value.bool)) ∧ w.grownBy w' v.ownBlock ∧ (v.ownBlock = some g' ∨ w.heap.size ≤ g') := by
  obtain ⟨i, hi, hz0, hz1, hz2⟩ := info_parts info4
  obtain ⟨g', c', w', hr, hown, hgrow, hl, _⟩ := run_append_lies (P := Try.prog) (w.alloc (.cells #[.bool x] 4)) 25 25 B 4 i (.bool false) 1 1 Try.underlying25 hi hz0 hz1 hz2 rfl (by omega) v m _ (ho.alloc _) ⟨w.heap.size, 0, none⟩ 1 1 [.bool x] rfl
    (cell_one_new _ _ _) (fun u hu => by rw [List.mem_singleton] at hu; subst hu; rfl) (by omega) (by unfold maxLen; omega) (by omega) (by simp; omega) _ rfl
  refine ⟨g', c', w', hr, by rw [List.map_append]; exact hown, (World.grownBy_alloc w _ _).trans hgrow, ?_⟩
  rcases hl with h | h
  · exact .inl h
  · right; subst h; simp

end Go.Proofs.Ytgklnpkeffobnaa
