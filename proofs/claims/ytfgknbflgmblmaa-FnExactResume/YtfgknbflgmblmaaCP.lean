/-
  Walks of the program's lists: a copy.
-/
import Derived.Test.YtfgknbflgmblmaaH6
import Derived.Deep.Upon
namespace Go.Proofs.Ytfgknbflgmblmaa
open Go.RowKit Pl Il

theorem copied_run (a : Option Addr) (n cap : Nat) (xs : List Int) (w : World) (hI : IntsAt w a n xs) (hn : n ≤ 2097152) : ∃ (v : Value) (w' : World),
    (Builtin.append_ #[24, 24] 24 #[.slice none 0 0, .slice a n cap]).run Try.prog w = .ok v w' ∧ w'.ownsRow w.heap.size 3 1 v n (xs.map (Value.int .i64)) ∧ Below w.heap.size w w' := by
  obtain ⟨i, hi, hz0, hz1, hz2⟩ := info_parts info3
  have hnil : w.ownsRow w.heap.size 3 1 (.slice none 0 0) 0 [] := ⟨rfl, .inl ⟨rfl, rfl⟩⟩
  obtain ⟨hlen, h0⟩ := hI
  rcases Nat.eq_zero_or_pos n with rfl | hpos
  · have hx : xs = [] := List.length_eq_zero_iff.1 hlen
    subst hx
    refine ⟨_, _, run_append_nothing w 24 24 24 3 i Try.underlying24 hi none 0 0 (Nat.le_refl _) _ ?_, hnil, Below.refl _ _⟩
    rcases a with _ | ad
    · exact Src.ofNil _ Try.underlying24 cap
    · exact Src.ofSlice _ Try.underlying24 ad 0 cap [] (by simp) (fun j u h => by simp at h) (fun u h => by cases h)
  · rcases h0 with h0 | ⟨b, off, rfl, hb, hcell⟩
    · omega
    · obtain ⟨g', c', w', hr, hown, hgrow, _, _⟩ := run_append_lies (P := Try.prog) w 24 24 w.heap.size 3 i (.int .i64 0) 1 8 Try.underlying24 hi hz0 hz1 hz2 rfl (by omega) _ 0 _ hnil ⟨b, off, none⟩ n cap (xs.map (Value.int .i64)) (by simp [hlen])
        (fun j u h => by
          rw [Addr.add_lit]
          have hj : j < n := by
            have := (List.getElem?_eq_some_iff.1 h).1
            simpa [hlen] using this
          rw [hcell j hj]
          simp only [List.getElem?_map] at h
          rw [List.getElem?_eq_getElem (by omega)] at h
          simp only [Option.map_some, Option.some.injEq] at h
          rw [← h]
          simp [List.getD, List.getElem?_eq_getElem (show j < xs.length by omega)])
        (fun u hu => by obtain ⟨_, _, rfl⟩ := List.mem_map.1 hu; rfl) hpos (by unfold maxLen; omega) (by omega) (Nat.le_refl _) _ rfl
      rw [Nat.zero_add] at hr hown
      rw [List.nil_append] at hown
      exact ⟨_, w', hr, hown, (Below.refl _ _).grown hgrow (Nat.le_refl _) (fun k hk => by cases hk)⟩

theorem copied_any2 (a : Option Addr) (n cap : Nat) (xs : List Int) (w : World) (hI : IntsAt w a n xs) (hn : n ≤ 2097152) :
    Calls Try.prog 74 #[.slice a n cap] w fun e w' => ∃ a' c', e = .returned (.slice a' n c') ∧ Il.OwnAt w.heap.size w' a' n xs ∧ Below w.heap.size w w' ∧ n ≤ c' := by
  obtain ⟨v, w', hr, ho, hb⟩ := copied_run a n cap xs w hI hn
  obtain ⟨a', c', rfl, hO⟩ := own_of ho xs rfl
  have hcp := own_cap ho
  have Hr := hidOf hr
  clear hr ho hI
  go_enter Try.func74, Try.ntmps74
  go_wp2_with (at_builtin; refine wpList_append_run rfl _ _ 24 rfl _ _ _ rfl rfl Hr.out ?_)
  go_ret
  exact ⟨a', c', rfl, hO, hb, hcp⟩

theorem copied_any (a : Option Addr) (n cap : Nat) (xs : List Int) (w : World) (hI : IntsAt w a n xs) (hn : n ≤ 2097152) :
    Calls Try.prog 74 #[.slice a n cap] w fun e w' => ∃ a' c', e = .returned (.slice a' n c') ∧ Il.OwnAt w.heap.size w' a' n xs ∧ Below w.heap.size w w' :=
  (copied_any2 a n cap xs w hI hn).mono fun _ _ ⟨a', c', h1, h2, h3, _⟩ => ⟨a', c', h1, h2, h3⟩

end Go.Proofs.Ytfgknbflgmblmaa
