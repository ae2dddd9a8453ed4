/-
  Walks of the specification's tokens: are they right?
-/
import Derived.Test.YtgklnpkeffobnaaBB3
import Derived.Test.YtgklnpkeffobnaaH3
namespace Go.Proofs.Ytgklnpkeffobnaa
open Go.RowKit Pl Il

/-- Token i is as it must be. -/
def tokAt (ps : List Int) (qs : List Bool) (i : Nat) : Bool :=
  decide (-1 ≤ ps.getD i 0) && decide (ps.getD i 0 ≤ (i : Int) - 1) && !(decide (0 ≤ ps.getD i 0) && qs.getD (ps.getD i 0).toNat false && !qs.getD i false)
def tokTo (ps : List Int) (qs : List Bool) (k : Nat) : Bool := (List.range k).all (tokAt ps qs)
/-- Right tokens. -/
def tokL (ps : List Int) (qs : List Bool) : Bool := decide (ps.length = qs.length) && decide (ps.length ≤ 24) && tokTo ps qs ps.length
theorem tokTo_zero (ps : List Int) (qs : List Bool) : tokTo ps qs 0 = true := by simp [tokTo]
theorem tokTo_step {ps : List Int} {qs : List Bool} {k : Nat} (h : tokTo ps qs k = true) (hk : tokAt ps qs k = true) : tokTo ps qs (k + 1) = true := by
  simp only [tokTo, List.range_succ, List.all_append, List.all_cons, List.all_nil, Bool.and_true, Bool.and_eq_true] at h ⊢
  exact ⟨h, hk⟩
theorem tok_bad {ps : List Int} {qs : List Bool} {k : Nat} (hk : k < ps.length) (h : tokAt ps qs k = false) : tokL ps qs = false := by
  have : tokTo ps qs ps.length = false := by
    unfold tokTo
    rw [List.all_eq_false]
    exact ⟨k, List.mem_range.2 hk, by simp [h]⟩
  simp [tokL, this]
theorem tok_long {ps : List Int} {qs : List Bool} (h : ¬ ps.length ≤ 24) : tokL ps qs = false := by simp [tokL, h]
theorem tok_len {ps : List Int} {qs : List Bool} (h : ¬ ps.length = qs.length) : tokL ps qs = false := by simp [tokL, h]
theorem tok_end {ps : List Int} {qs : List Bool} (h1 : ps.length = qs.length) (h : ps.length ≤ 24) (ht : tokTo ps qs ps.length = true) : tokL ps qs = true := by unfold tokL; rw [ht, decide_eq_true h1, decide_eq_true h]; rfl
theorem tok_out {ps : List Int} {qs : List Bool} {i : Nat} {p : Int} (hp : ps.getD i 0 = p) (h : (decide (-1 ≤ p) && decide (p ≤ (i : Int) - 1)) = false) : tokAt ps qs i = false := by
  unfold tokAt; rw [hp, h]; rfl
theorem tok_neg {ps : List Int} {qs : List Bool} {i : Nat} {p : Int} (hp : ps.getD i 0 = p) (h : (decide (-1 ≤ p) && decide (p ≤ (i : Int) - 1)) = true) (hn : ¬ 0 ≤ p) : tokAt ps qs i = true := by
  unfold tokAt; rw [hp, h]; simp [hn]
theorem tok_pos {ps : List Int} {qs : List Bool} {i j : Nat} {x y : Bool} (hp : ps.getD i 0 = (j : Int)) (h : (decide (-1 ≤ (j : Int)) && decide ((j : Int) ≤ (i : Int) - 1)) = true) (hx : qs.getD j false = x) (hy : qs.getD i false = y) : tokAt ps qs i = !(x && !y) := by
  unfold tokAt; rw [hp, h, Int.toNat_natCast, hx, hy]; simp

theorem specTokensOk_any (a : Option Addr) (n c : Nat) (ps : List Int) (a' : Option Addr) (n' c' : Nat) (qs : List Bool) (w : World) (hT : TokIn w a n ps a' n' qs) (hn : n ≤ 2097152) (hn' : n' ≤ 2097152) :
    Calls Try.prog 22 #[.agg #[.slice a n c, .slice a' n' c']] w fun e w' => e = .returned (.bool (tokL ps qs)) ∧ Below w.heap.size w w' := by
  generalize hW0 : w.alloc (.cells #[.slice a n c, .slice a' n' c'] 27) = W0
  have B0 : Below w.heap.size w W0 := by subst hW0; exact bl_alloc (Below.refl _ _) _
  have x0 : Box2 w.heap.size (.slice a n c) (.slice a' n' c') W0 := by subst hW0; exact Box2.new w _ _ _
  obtain ⟨_, p0, p1, _⟩ := x0
  have hT0 := hT.keep B0
  have hlp := hT.ints.len
  have hlq := hT.bools.len
  clear hT
  by_cases hnn : n = n'
  · subst hnn
    by_cases h24 : n ≤ 24
    · have h24' : ¬ 24 < (n : Int) := by omega
      obtain ⟨⟨_, hr⟩, ⟨_, hr'⟩⟩ := hT0
      rcases Nat.eq_zero_or_pos n with rfl | hpos
      · have e1 : ps = [] := List.length_eq_zero_iff.1 hlp
        have e2 : qs = [] := List.length_eq_zero_iff.1 hlq
        subst e1 e2
        clear hr hr'
        go_enter Try.func22, Try.ntmps22
        go_wp2
        go_loop [3] (fun i => i = .int .i64 0) (fun _ => 0)
        case atStart => rfl
        case round =>
          subst hrel
          go_wp2
          go_ret
          exact ⟨rfl, B0⟩
      · obtain ⟨b, off, rfl, hb, hcell⟩ : ∃ b off, a = some ⟨b, off, none⟩ ∧ b < W0.heap.size ∧ ∀ i, i < n → W0.cell? ⟨b, off + i, none⟩ = some (.int .i64 (ps.getD i 0)) := by
          rcases hr with h | h
          · omega
          · exact h
        obtain ⟨b', off', rfl, hb', hcell'⟩ : ∃ b off, a' = some ⟨b, off, none⟩ ∧ b < W0.heap.size ∧ ∀ i, i < n → W0.cell? ⟨b, off + i, none⟩ = some (.bool (qs.getD i false)) := by
          rcases hr' with h | h
          · omega
          · exact h
        clear hr hr'
        go_enter Try.func22, Try.ntmps22
        go_wp2
        go_loop [3] (fun i => ∃ k : Nat, k ≤ n ∧ i = .int .i64 k ∧ tokTo ps qs k = true) (fun i => n - (intOf i).toNat)
        case atStart => exact ⟨0, Nat.zero_le _, rfl, tokTo_zero _ _⟩
        case round =>
          obtain ⟨k, hk, rfl, hto⟩ := hrel
          have Hto := hidOf hto
          clear hto
          by_cases hlt : k < n
          · have hc := hcell k hlt
            have hck := hcell' k hlt
            generalize hp : ps.getD k 0 = p at hc
            generalize hy : qs.getD k false = y at hck
            have HP := hidOf hp
            have HY := hidOf hy
            have hki : (k : Int) < (n : Int) := by omega
            clear hcell hp hy
            go_wp2_with fail
            refine (in_any p (-1) ((k : Int) - 1) _).mono ?_
            rintro e w1 ⟨rfl, rfl⟩
            cases hin : (decide (-1 ≤ p) && decide (p ≤ (k : Int) - 1))
            · clear hcell'
              go_wp2
              go_ret
              exact ⟨rbool (tok_bad (k := k) (by omega) (tok_out HP.out hin)).symm, B0⟩
            · by_cases hp0 : 0 ≤ p
              · obtain ⟨j, rfl⟩ := Int.eq_ofNat_of_zero_le hp0
                have hj : j < k := by simp at hin; omega
                have hcj := hcell' j (by omega)
                generalize hx : qs.getD j false = x at hcj
                have HX := hidOf hx
                have hji : (j : Int) < (n : Int) := by omega
                have hta := tok_pos HP.out hin HX.out HY.out
                have HTA := hidOf hta
                clear hcell' hx hta
                cases x
                · go_wp2
                  go_round
                  case rel => exact ⟨k + 1, by omega, by go_num, tokTo_step Hto.out (by rw [HTA.out]; rfl)⟩
                  case measure => simp [intOf]; omega
                · cases y
                  · go_wp2
                    go_ret
                    exact ⟨rbool (tok_bad (k := k) (by omega) (by rw [HTA.out]; rfl)).symm, B0⟩
                  · go_wp2
                    go_round
                    case rel => exact ⟨k + 1, by omega, by go_num, tokTo_step Hto.out (by rw [HTA.out]; rfl)⟩
                    case measure => simp [intOf]; omega
              · have hta := tok_neg (qs := qs) HP.out hin hp0
                have HTA := hidOf hta
                clear hcell' hta
                go_wp2
                go_round
                case rel => exact ⟨k + 1, by omega, by go_num, tokTo_step Hto.out HTA.out⟩
                case measure => simp [intOf]; omega
          · obtain rfl : k = n := by omega
            clear hcell hcell'
            go_wp2
            go_ret
            exact ⟨rbool (tok_end (by omega) (by omega) (by rw [hlp]; exact Hto.out)).symm, B0⟩
    · have h24' : 24 < (n : Int) := by omega
      have hq := tok_long (ps := ps) (qs := qs) (by omega)
      clear hT0
      go_enter Try.func22, Try.ntmps22
      go_wp2
      go_ret
      exact ⟨rbool hq.symm, B0⟩
  · have hne : ((n : Int) != (n' : Int)) = true := by simp; omega
    have hq := tok_len (ps := ps) (qs := qs) (by omega)
    clear hT0
    go_enter Try.func22, Try.ntmps22
    go_wp2
    go_ret
    exact ⟨rbool hq.symm, B0⟩
end Go.Proofs.Ytgklnpkeffobnaa
