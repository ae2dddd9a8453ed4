/-
  Walks of the specification's tokens: is one off, who is beneath it?
-/
import Derived.Test.YtgklnpkeffobnaaBB4
import Derived.Test.YtgklnpkeffobnaaH6
namespace Go.Proofs.Ytgklnpkeffobnaa
open Go.RowKit Pl Il

/-- Is x a token's number? -/
def tokIs (ps : List Int) (x : Int) : Bool := decide (0 ≤ x) && decide (x ≤ (ps.length : Int) - 1)
/-- What IsOff answers. -/
def offL (ps : List Int) (qs : List Bool) (x : Int) : Bool := tokL ps qs && tokIs ps x && qs.getD x.toNat false
theorem off_bad {ps : List Int} {qs : List Bool} {x : Int} (h : tokL ps qs = false ∨ tokIs ps x = false) : offL ps qs x = false := by rcases h with h | h <;> simp [offL, h]
theorem off_good {ps : List Int} {qs : List Bool} {k : Nat} {y : Bool} (h : tokL ps qs = true) (h2 : tokIs ps (k : Int) = true) (hy : qs.getD k false = y) : offL ps qs (k : Int) = y := by
  unfold offL; rw [h, h2, Int.toNat_natCast, hy]; simp
theorem tokIs_lt {ps : List Int} {x : Int} (h : tokIs ps x = true) : 0 ≤ x ∧ x.toNat < ps.length := by
  simp only [tokIs, Bool.and_eq_true, decide_eq_true_eq] at h
  omega
theorem tokL_len {ps : List Int} {qs : List Bool} (h : tokL ps qs = true) : ps.length = qs.length ∧ ps.length ≤ 24 := by
  simp only [tokL, Bool.and_eq_true, decide_eq_true_eq] at h
  exact ⟨h.1.1, h.1.2⟩

theorem specIsOff_any (a : Option Addr) (n c : Nat) (ps : List Int) (a' : Option Addr) (n' c' : Nat) (qs : List Bool) (x : Int) (w : World) (hT : TokIn w a n ps a' n' qs) (hn : n ≤ 2097152) (hn' : n' ≤ 2097152) :
    Calls Try.prog 17 #[.agg #[.slice a n c, .slice a' n' c'], .int .i64 x] w fun e w' => e = .returned (.bool (offL ps qs x)) ∧ Below w.heap.size w w' := by
  generalize hW0 : w.alloc (.cells #[.slice a n c, .slice a' n' c'] 27) = W0
  have B0 : Below w.heap.size w W0 := by subst hW0; exact bl_alloc (Below.refl _ _) _
  have x0 : Box2 w.heap.size (.slice a n c) (.slice a' n' c') W0 := by subst hW0; exact Box2.new w _ _ _
  obtain ⟨_, p0, p1, _⟩ := id x0
  have hT0 := hT.keep B0
  have hlp := hT.ints.len
  have hlq := hT.bools.len
  clear hT
  go_enter Try.func17, Try.ntmps17
  go_wp2_with fail
  refine (specTokensOk_any a n c ps a' n' c' qs _ hT0 hn hn').mono ?_
  rintro e w1 ⟨rfl, hb1⟩
  obtain ⟨_, r0, r1, _⟩ := x0.keep hb1
  have hB := bl_trans B0 hb1
  have hq := hT0.bools.keep hb1
  clear p0 p1 x0 hb1 hT0 hW0 B0
  cases hl : tokL ps qs
  · have ho := off_bad (x := x) (.inl hl)
    clear hq
    go_wp2
    go_ret
    exact ⟨rbool ho.symm, hB⟩
  · obtain ⟨l1, l2⟩ := tokL_len hl
    have hin := in_any x 0 ((n : Int) - 1) w1
    have e1 : (decide (0 ≤ x) && decide (x ≤ (n : Int) - 1)) = tokIs ps x := by rw [tokIs, hlp]
    rw [e1] at hin
    have HIn := hidOf hin
    clear hin e1
    go_wp2_with fail
    refine HIn.out.mono ?_
    rintro e w2 ⟨rfl, rfl⟩
    cases hi : tokIs ps x
    · have ho := off_bad (qs := qs) (.inr hi)
      clear hq
      go_wp2
      go_ret
      exact ⟨rbool ho.symm, hB⟩
    · obtain ⟨h0, hlt⟩ := tokIs_lt hi
      obtain ⟨k, rfl⟩ := Int.eq_ofNat_of_zero_le h0
      rw [Int.toNat_natCast] at hlt
      rcases hq.row with h | ⟨b, off, rfl, hb, hcell⟩
      · omega
      · have hc := hcell k (by omega)
        generalize hy : qs.getD k false = y at hc
        have ho := off_good hl hi hy
        have hki : (k : Int) < (n' : Int) := by omega
        clear hcell hq
        go_wp2
        go_ret
        exact ⟨rbool ho.symm, hB⟩

/-- The first j of those from x on that lie beneath x. -/
def underGo (ps : List Int) (x : Nat) : Nat → List Int
  | 0 => []
  | j + 1 => if (j == 0) || hasL (underGo ps x j) (ps.getD (x + j) 0) then underGo ps x j ++ [((x + j : Nat) : Int)] else underGo ps x j
/-- What Under answers. -/
def underL (ps : List Int) (qs : List Bool) (x : Int) : List Int := if tokL ps qs && tokIs ps x then underGo ps x.toNat (ps.length - x.toNat) else []
theorem under_bad {ps : List Int} {qs : List Bool} {x : Int} (h : tokL ps qs = false ∨ tokIs ps x = false) : underL ps qs x = [] := by rcases h with h | h <;> simp [underL, h]
theorem under_good {ps : List Int} {qs : List Bool} {k : Nat} (h : tokL ps qs = true) (h2 : tokIs ps (k : Int) = true) : underL ps qs (k : Int) = underGo ps k (ps.length - k) := by
  unfold underL; rw [h, h2]; rfl
theorem under_yes {ps : List Int} {x j : Nat} (h : ((j == 0) || hasL (underGo ps x j) (ps.getD (x + j) 0)) = true) : underGo ps x (j + 1) = underGo ps x j ++ [((x + j : Nat) : Int)] := by
  rw [underGo, if_pos h]
theorem under_no {ps : List Int} {x j : Nat} (h : ((j == 0) || hasL (underGo ps x j) (ps.getD (x + j) 0)) = false) : underGo ps x (j + 1) = underGo ps x j := by
  rw [underGo, if_neg (by rw [h]; simp)]
theorem under_yes' {ps : List Int} {t k : Nat} (ht : t ≤ k) (h : ((k == t) || hasL (underGo ps t (k - t)) (ps.getD k 0)) = true) : underGo ps t (k + 1 - t) = underGo ps t (k - t) ++ [(k : Int)] := by
  obtain ⟨j, rfl⟩ := Nat.exists_eq_add_of_le ht
  rw [Nat.add_sub_cancel_left] at h ⊢
  rw [show t + j + 1 - t = j + 1 by omega]
  refine under_yes ?_
  rw [← h]
  congr 1
  rw [Bool.eq_iff_iff]; simp
theorem under_no' {ps : List Int} {t k : Nat} (ht : t ≤ k) (h : ((k == t) || hasL (underGo ps t (k - t)) (ps.getD k 0)) = false) : underGo ps t (k + 1 - t) = underGo ps t (k - t) := by
  obtain ⟨j, rfl⟩ := Nat.exists_eq_add_of_le ht
  rw [Nat.add_sub_cancel_left] at h ⊢
  rw [show t + j + 1 - t = j + 1 by omega]
  refine under_no ?_
  rw [← h]
  congr 1
  rw [Bool.eq_iff_iff]; simp
theorem under_len (ps : List Int) (x : Nat) : ∀ j, (underGo ps x j).length ≤ j
  | 0 => by simp [underGo]
  | j + 1 => by
    have := under_len ps x j
    unfold underGo
    split
    · rw [List.length_append, List.length_singleton]; omega
    · omega
theorem under_mem (ps : List Int) (x : Nat) : ∀ j, ∀ y ∈ underGo ps x j, (x : Int) ≤ y ∧ y < (x : Int) + (j : Int)
  | 0, y, h => by simp [underGo] at h
  | j + 1, y, h => by
    have ih := under_mem ps x j
    unfold underGo at h
    split at h
    · rcases List.mem_append.1 h with h | h
      · have := ih y h; omega
      · rw [List.mem_singleton] at h; subst h; omega
    · have := ih y h; omega

theorem specUnder_any (a : Option Addr) (n c : Nat) (ps : List Int) (a' : Option Addr) (n' c' : Nat) (qs : List Bool) (x : Int) (w : World) (hT : TokIn w a n ps a' n' qs) (hn : n ≤ 2097152) (hn' : n' ≤ 2097152) :
    Calls Try.prog 31 #[.agg #[.slice a n c, .slice a' n' c'], .int .i64 x] w fun e w' => ∃ g m cp, e = .returned (.slice (some ⟨g, 0, none⟩) m cp) ∧ Owns w.heap.size w' g m cp (underL ps qs x) ∧ Below w.heap.size w w' := by
  generalize hW0 : w.alloc (.cells #[.slice a n c, .slice a' n' c'] 27) = W0
  generalize hW1 : W0.alloc (.cells #[] 3) = W1
  have B0 : Below w.heap.size w W0 := by subst hW0; exact bl_alloc (Below.refl _ _) _
  have B1 : Below w.heap.size w W1 := by subst hW1; exact bl_alloc B0 _
  have s0 : W0.heap.size = w.heap.size + 1 := by subst hW0; simp
  have x0 : Box2 w.heap.size (.slice a n c) (.slice a' n' c') W1 := by subst hW1 hW0; exact (Box2.new w _ _ _).alloc _
  have o0 : Owns (w.heap.size + 1) W1 (w.heap.size + 1) 0 0 [] := by subst hW1; rw [← s0]; exact owns_empty W0
  obtain ⟨_, p0, p1, _⟩ := id x0
  have hT0 := hT.keep B1
  have hlp := hT.ints.len
  have hrow := hT.ints.row
  clear hT
  go_enter Try.func31, Try.ntmps31
  go_wp2_with fail
  refine (specTokensOk_any a n c ps a' n' c' qs _ hT0 hn hn').mono ?_
  rintro e w1 ⟨rfl, hb1⟩
  have x1 := x0.keep hb1
  obtain ⟨_, r0, r1, _⟩ := id x1
  have hB := bl_trans B1 hb1
  have o1 := owns_keep o0 hb1
  have hs1 := x1.lt
  clear p0 p1 x0 hb1 hT0 hW0 hW1 B0 B1 o0
  cases hl : tokL ps qs
  · have ho := under_bad (x := x) (.inl hl)
    have HO := hidOf (owns_mono o1 (Nat.le_succ _))
    clear hrow o1
    go_wp2
    go_ret
    rw [ho]
    exact ⟨_, _, _, rfl, HO.out, hB⟩
  · obtain ⟨l1, l2⟩ := tokL_len hl
    have hin := in_any x 0 ((n : Int) - 1) w1
    have e1 : (decide (0 ≤ x) && decide (x ≤ (n : Int) - 1)) = tokIs ps x := by rw [tokIs, hlp]
    rw [e1] at hin
    have HIn := hidOf hin
    clear hin e1
    go_wp2_with fail
    refine HIn.out.mono ?_
    rintro e w2 ⟨rfl, rfl⟩
    cases hi : tokIs ps x
    · have ho := under_bad (qs := qs) (.inr hi)
      have HO := hidOf (owns_mono o1 (Nat.le_succ _))
      clear hrow o1
      go_wp2
      go_ret
      rw [ho]
      exact ⟨_, _, _, rfl, HO.out, hB⟩
    · obtain ⟨h0, hlt⟩ := tokIs_lt hi
      obtain ⟨t, rfl⟩ := Int.eq_ofNat_of_zero_le h0
      rw [Int.toNat_natCast] at hlt
      have hug := under_good hl hi
      rw [hlp] at hug
      have HU := hidOf hug
      rcases hrow with h | ⟨b, off, rfl, hb, hcell0⟩
      · omega
      · have hcell : ∀ i, i < n → w2.cell? ⟨b, off + i, none⟩ = some (.int .i64 (ps.getD i 0)) := fun i hi => by
          rw [hB.cell (p := ⟨b, off + i, none⟩) hb]; exact hcell0 i hi
        have ou : Owns (w.heap.size + 1) w2 (w.heap.size + 1) 0 0 (underGo ps t (t - t)) := by rw [Nat.sub_self]; exact o1
        have HO := hidOf ou
        clear hug HIn hcell0 o1 ou
        go_wp2
        go_loopw [5, 6] (fun v i wr => ∃ k g m cp : Nat, t ≤ k ∧ k ≤ n ∧ i = .int .i64 (k : Int) ∧ v = .slice (some ⟨g, 0, none⟩) m cp ∧ Owns (w.heap.size + 1) wr g m cp (underGo ps t (k - t)) ∧ Below (w.heap.size + 1) w2 wr) (fun _ i _ => n - (intOf i).toNat)
        case atStart => exact ⟨t, _, 0, 0, Nat.le_refl _, by omega, rfl, rfl, HO.out, Below.refl _ _⟩
        case round =>
          rename_i wr
          obtain ⟨k, g, m, cp, htk, hk, rfl, rfl, hor, hbr⟩ := hrel
          have q0 : wr.cell? ⟨w.heap.size, 0, none⟩ = some (.slice (some ⟨b, off, none⟩) n c) := by rw [hbr.cell (p := ⟨w.heap.size, 0, none⟩) (by simp)]; exact r0
          have hsz : w.heap.size + 1 ≤ wr.heap.size := Nat.le_trans hs1 hbr.size
          have hBr : Below w.heap.size w wr := hB.trans (hbr.mono (Nat.le_succ _))
          by_cases hkn : k < n
          · have hc : wr.cell? ⟨b, off + k, none⟩ = some (.int .i64 (ps.getD k 0)) := by rw [hbr.cell (p := ⟨b, off + k, none⟩) (show b < w.heap.size + 1 by omega)]; exact hcell k hkn
            have hml := (owns_parts hor).1
            have hul := under_len ps t (k - t)
            obtain ⟨g', c'', w', hr, ho', hg, _⟩ := append_own1 (w.heap.size + 1) m _ _ (k : Int) wr hor hsz (by omega)
            have hb' : Below (w.heap.size + 1) w2 w' := hbr.grown hg hsz (fun j hj => (World.ownsRow.lt hor j hj).1)
            have hI := (owns_parts hor).2.2.2.2.2.ints
            generalize hp : ps.getD k 0 = p at hc
            have HP := hidOf hp
            have Hr := hidOf hr
            have Ho' := hidOf ho'
            have Hor := hidOf hor
            have Hul := hidOf hul
            have hki : (k : Int) < (n : Int) := by omega
            clear hp hr ho' hor hcell hul hg
            by_cases hkt : k = t
            · subst hkt
              go_wp2_with (first | (at_builtin; refine wpList_append_run rfl _ _ 24 rfl _ _ _ rfl rfl Hr.out ?_) | fail)
              go_roundw
              case rel => exact ⟨k + 1, g', m + 1, c'', by omega, by omega, by go_num, rfl, by rw [under_yes' (by omega) (by simp)]; exact Ho'.out, hb'⟩
              case measure => simp [intOf]; omega
            · have hkt' : ((k : Int) == (t : Int)) = false := by simp; omega
              have hkt2 : (k == t) = false := by simp; omega
              go_wp2_with fail
              refine (l2Has_any _ m cp _ p _ hI (by have := Hul.out; omega)).mono ?_
              rintro e w3 ⟨rfl, rfl⟩
              cases hh : hasL (underGo ps t (k - t)) p
              · go_wp2
                go_roundw
                case rel => exact ⟨k + 1, g, m, cp, by omega, by omega, by go_num, rfl, by rw [under_no' (by omega) (by rw [hkt2, HP.out, hh]; rfl)]; exact Hor.out, hbr⟩
                case measure => simp [intOf]; omega
              · go_wp2_with (first | (at_builtin; refine wpList_append_run rfl _ _ 24 rfl _ _ _ rfl rfl Hr.out ?_) | fail)
                go_roundw
                case rel => exact ⟨k + 1, g', m + 1, c'', by omega, by omega, by go_num, rfl, by rw [under_yes' (by omega) (by rw [hkt2, HP.out, hh]; rfl)]; exact Ho'.out, hb'⟩
                case measure => simp [intOf]; omega
          · obtain rfl : k = n := by omega
            have HF := hidOf (owns_mono hor (Nat.le_succ _))
            clear hor hcell
            go_wp2
            go_ret
            rw [HU.out]
            exact ⟨_, _, _, rfl, HF.out, hBr⟩
end Go.Proofs.Ytgklnpkeffobnaa
