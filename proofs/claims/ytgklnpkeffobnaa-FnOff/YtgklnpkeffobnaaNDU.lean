/-
  Walks of the program's tokens: going down (Under).
-/
import Derived.Test.YtgklnpkeffobnaaN8
namespace Go.Proofs.Ytgklnpkeffobnaa
open Go.RowKit Pl Il

/-- What going down reads. -/
structure RdUnder (L N g c n : Nat) (bs : List Nat) (ps : List Int) (w : World) : Prop where
  cl : w.cell? ⟨L, 0, none⟩ = some (.slice (some ⟨g, 0, none⟩) n c)
  cv : w.cell? ⟨L + 1, 0, none⟩ = some (.func (.func 45) #[] #[.pointer (some ⟨N, 0, none⟩)])
  cd : w.cell? ⟨L + 2, 0, none⟩ = some (.func (.func 60) #[] #[.pointer (some ⟨L + 1, 0, none⟩), .pointer (some ⟨L, 0, none⟩), .pointer (some ⟨L + 2, 0, none⟩)])
  row : ∀ k, k < n → w.cell? ⟨g, k, none⟩ = some (nodeP (bs.getD k 0))
  blk : ∀ k, k < n → ∃ q, w.heap[bs.getD k 0]? = some (nodeO k (parV bs (ps.getD k 0)) q)
set_option maxRecDepth 100000 in
theorem downUnder_any {L N g c n : Nat} {bs : List Nat} {ps : List Int} (I : List Int → World → Prop) (hn : n ≤ 24) (hinj : ∀ i j, i < n → j < n → bs.getD i 0 = bs.getD j 0 → i = j) (hpr : parR ps n)
    (hR : ∀ vs w, I vs w → RdUnder L N g c n bs ps w)
    (hV : ∀ vs w i, i < n → vs.length + 1 ≤ 4194304 → I vs w → Calls Try.prog 45 #[nodeP (bs.getD i 0), .pointer (some ⟨N, 0, none⟩)] w fun e w' => e = .returned (.tuple #[]) ∧ I (vs ++ [(i : Int)]) w') :
    ∀ (f x : Nat), n - x ≤ f → x < n → ∀ vs w, vs.length + (downL ps n f x).length ≤ 4194304 → I vs w →
      Calls Try.prog 60 #[nodeP (bs.getD x 0), .pointer (some ⟨L + 1, 0, none⟩), .pointer (some ⟨L, 0, none⟩), .pointer (some ⟨L + 2, 0, none⟩)] w fun e w' => e = .returned (.tuple #[]) ∧ I (vs ++ downL ps n f x) w' := by
  intro f
  induction f with
  | zero => intro x hf hx; omega
  | succ f ih =>
    intro x hf hx vs w hlen hI
    rw [down_succ, List.length_cons] at hlen
    obtain ⟨cl, cv, cd, _, _⟩ := hR vs w hI
    have HV := hidOf (hV vs w x hx (by omega) hI)
    have HI := hidOf (hR)
    have HV2 := hidOf hV
    have HIH := hidOf ih
    have HInj := hidOf hinj
    have HP := hidOf hpr
    rw [down_succ]
    clear hR hV ih hinj hpr hI
    generalize hbx : bs.getD x 0 = bx at HV ⊢
    have HBX := hidOf hbx
    clear hbx
    unfold nodeP at HV ⊢
    go_enter Try.func60, Try.ntmps60
    go_wp2_with fail
    refine HV.out.mono ?_
    rintro e w1 ⟨rfl, hI1⟩
    obtain ⟨cl1, _, _, _, _⟩ := HI.out _ _ hI1
    clear HV cl cv cd
    have HI1 := hidOf hI1
    clear hI1
    go_wp2_with fail
    clear cl1
    go_loopw [12] (fun i wr => ∃ k : Nat, k ≤ n ∧ i = .int .i64 k ∧ I ((vs ++ [(x : Int)]) ++ kidsL ps n f x k) wr) (fun i _ => n - (intOf i).toNat)
    case atStart => exact ⟨0, Nat.zero_le _, rfl, by rw [kids_zero, List.append_nil]; exact HI1.out⟩
    case round =>
      rename_i wr
      obtain ⟨k, hk, rfl, hIk⟩ := hrel
      obtain ⟨cl, cv, cd, hrow, hpar⟩ := HI.out _ _ hIk
      by_cases hlt : k < n
      · have hc := hrow k hlt
        obtain ⟨qk, hbk⟩ := hpar k hlt
        have hp := (node_cells hbk).2.1
        obtain ⟨hp1, hp2⟩ := HP.out k hlt
        have hki : (k : Int) < (n : Int) := by omega
        by_cases hpx : ps.getD k 0 = (x : Int)
        · have hpv : parV bs (ps.getD k 0) = nodeP bx := by
            unfold parV
            rw [if_neg (by omega), hpx, Int.toNat_natCast, HBX.out]
          have hky := kids_yes (n := n) (f := f) hpx
          have hle := kids_le ps n f x (k := k + 1) (m := n) (by omega)
          rw [hky, List.length_append] at hle
          have HC := hidOf (HIH.out k (by omega) hlt _ wr (by rw [List.length_append, List.length_append, List.length_singleton]; omega) hIk)
          rw [hpv] at hp
          have hse := ptr_same bx wr
          generalize bs.getD k 0 = bk at hc hp HC
          unfold nodeP at hc hp HC
          have HKY := hidOf hky
          clear hIk cl cv hrow hpar hpv hky hle hp1 hp2 hpx hbk
          go_wp2_with fail
          refine HC.out.mono ?_
          rintro e w2 ⟨rfl, hI2⟩
          have HI2 := hidOf hI2
          clear hI2
          go_wp2
          go_roundw
          case rel => exact ⟨k + 1, by omega, by go_num, by rw [HKY.out, ← List.append_assoc]; exact HI2.out⟩
          case measure => simp [intOf]; omega
        · have hkn := kids_no (n := n) (f := f) hpx
          have HKN := hidOf hkn
          have HIK := hidOf hIk
          by_cases hm1 : ps.getD k 0 = -1
          · have hpv : parV bs (ps.getD k 0) = .pointer none := by unfold parV; rw [if_pos hm1]
            rw [hpv] at hp
            have hse := ptr_nil bx wr
            generalize bs.getD k 0 = bk at hc hp
            unfold nodeP at hc
            clear hIk cl cv cd hrow hpar hpv hkn hp1 hp2 hpx hm1 hbk
            go_wp2
            go_roundw
            case rel => exact ⟨k + 1, by omega, by go_num, by rw [HKN.out]; exact HIK.out⟩
            case measure => simp [intOf]; omega
          · obtain ⟨j, hj⟩ := Int.eq_ofNat_of_zero_le (show 0 ≤ ps.getD k 0 by omega)
            have hpv : parV bs (ps.getD k 0) = nodeP (bs.getD j 0) := by unfold parV; rw [if_neg hm1, hj, Int.toNat_natCast]
            have hne : ¬ bs.getD j 0 = bx := fun e => by
              have := HInj.out j x (by omega) hx (e.trans HBX.out.symm)
              omega
            rw [hpv] at hp
            obtain ⟨qj, hbj⟩ := hpar j (by omega)
            obtain ⟨qx, hbx⟩ := hpar x hx
            rw [HBX.out] at hbx
            have hse := ptr_other hne hbj hbx
            generalize bs.getD k 0 = bk at hc hp
            generalize bs.getD j 0 = bj at hp hne hse
            unfold nodeP at hc hp
            clear hIk cl cv cd hrow hpar hpv hkn hp1 hp2 hpx hm1 hj hbk hbj hbx
            go_wp2
            go_roundw
            case rel => exact ⟨k + 1, by omega, by go_num, by rw [HKN.out]; exact HIK.out⟩
            case measure => simp [intOf]; omega
      · obtain rfl : k = n := by omega
        have HIK := hidOf hIk
        clear hIk hrow hpar cl cv cd
        go_wp2
        go_end0
        refine ⟨rfl, ?_⟩
        have h2 := HIK.out
        rw [List.append_assoc] at h2
        exact h2
end Go.Proofs.Ytgklnpkeffobnaa
