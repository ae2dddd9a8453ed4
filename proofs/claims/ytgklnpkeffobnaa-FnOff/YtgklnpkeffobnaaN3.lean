/-
  Walks of the program's tokens: the list of nodes, TokensOk, IsOff.
-/
import Derived.Test.YtgklnpkeffobnaaN2
namespace Go.Proofs.Ytgklnpkeffobnaa
open Go.RowKit Pl Il

/-- What tokenNodes answers. -/
def NodesOf (w : World) (ps : List Int) (qs : List Bool) (e : Ending) (w' : World) : Prop :=
  Below w.heap.size w w' ∧ ((tokL ps qs = false ∧ e = .returned (.tuple #[.slice none 0 0, .bool false])) ∨
    (tokL ps qs = true ∧ ∃ a c bs, e = .returned (.tuple #[.slice a bs.length c, .bool true]) ∧ NRow w.heap.size w' (.slice a bs.length c) bs ∧ Nodes w.heap.size w' bs ps qs))

theorem tokenNodes_any (a : Option Addr) (n c : Nat) (ps : List Int) (a' : Option Addr) (n' c' : Nat) (qs : List Bool) (w : World) (hT : TokIn w a n ps a' n' qs) (hn : n ≤ 2097152) (hn' : n' ≤ 2097152) :
    Calls Try.prog 35 #[.agg #[.slice a n c, .slice a' n' c']] w fun e w' => NodesOf w ps qs e w' := by
  generalize hW0 : w.alloc (.cells #[.slice a n c, .slice a' n' c'] 27) = W0
  have B0 : Below w.heap.size w W0 := by subst hW0; exact bl_alloc (Below.refl _ _) _
  have s0 : W0.heap.size = w.heap.size + 1 := by subst hW0; simp
  have x0 : Box2 w.heap.size (.slice a n c) (.slice a' n' c') W0 := by subst hW0; exact Box2.new w _ _ _
  have hT0 := hT.keep B0
  have hlp := hT.ints.len
  have hlq := hT.bools.len
  have X0 := hidOf x0
  obtain ⟨_, p0, p1, _⟩ := x0
  clear hT
  by_cases hnn : n = n'
  · subst hnn
    have hneq : ((n : Int) != (n : Int)) = false := by simp
    by_cases h24 : n ≤ 24
    · have h24' : ¬ 24 < (n : Int) := by omega
      have HT := hidOf hT0
      have hS : NTo W0.heap.size W0 ps qs 0 (.slice none 0 0) [] W0 := ⟨rfl, ⟨rfl, .inl ⟨rfl, rfl⟩⟩, ⟨by simp, by simp, fun i hi => (by simp at hi), fun i hi => (by simp at hi), fun i hi => (by simp at hi)⟩, tokTo_zero _ _, Below.refl _ _⟩
      have HS := hidOf hS
      clear hT0 hS
      go_enter Try.func35, Try.ntmps35
      go_wp2
      clear p0 p1
      go_loopw [4, 25] (fun l i wr => ∃ (k : Nat) (v : Value) (bs : List Nat), k ≤ n ∧ i = .int .i64 k ∧ l = v ∧ NTo W0.heap.size W0 ps qs k v bs wr) (fun _ i _ => n - (intOf i).toNat)
      case atStart => exact ⟨0, _, _, Nat.zero_le _, rfl, rfl, HS.out⟩
      case round =>
        rename_i wr
        obtain ⟨k, v, bs, hk, rfl, rfl, hN⟩ := hrel
        clear HS
        obtain ⟨av, cv, rfl⟩ := hN.form
        by_cases hlt : k < n
        · have hI := HT.out.keep hN.below
          rcases hI.ints.row with h | ⟨b, off, rfl, hb, hcell⟩
          · omega
          rcases hI.bools.row with h | ⟨b', off', rfl, hb', hcell'⟩
          · omega
          have hc := hcell k hlt
          have hc' := hcell' k hlt
          have hki : (k : Int) < (n : Int) := by omega
          have x1 := X0.out.keep hN.below
          obtain ⟨hxl, q0, q1, _⟩ := x1
          generalize hp : ps.getD k 0 = p at hc
          generalize hy : qs.getD k false = y at hc'
          by_cases hpr : p < -1 ∨ (k : Int) ≤ p
          · have hcall := born_no av k cv p wr hpr
            have hbad := tok_bad (by omega) (tok_no (qs := qs) hp hpr)
            have HC := hidOf hcall
            have HB := hidOf (bl_trans B0 (bl_alloc hN.below (nodeO k (.pointer none) false)))
            clear hcell hcell' hcall hp hy hN hI hpr
            go_wp2_with fail
            refine HC.out.mono ?_
            rintro e w1 ⟨rfl, rfl⟩
            go_wp2
            go_ret2
            exact ⟨HB.out, .inl ⟨hbad, rfl⟩⟩
          · have h1 : -1 ≤ p := by omega
            have h2 : p ≤ (k : Int) - 1 := by omega
            have HC := hidOf (hN.born p h1 h2)
            have q1o : ∀ o, (wr.alloc o).cell? ⟨w.heap.size, 1, none⟩ = some (.slice (some ⟨b', off', none⟩) n c') := fun o => by rw [World.cell?_alloc_old _ _ _ (Nat.ne_of_lt hxl)]; exact q1
            have hco : ∀ o, (wr.alloc o).cell? ⟨b', off' + k, none⟩ = some (.bool y) := fun o => by rw [World.cell?_alloc_old _ _ _ (Nat.ne_of_lt hb')]; exact hc'
            have hat := tok_at hp hy h1 h2
            generalize hq : bornQ qs p = q at hat
            have HQ := hidOf hq
            cases hby : (q && !y)
            · obtain ⟨g', cc, w', hrun, hN'⟩ := hN.step rfl (by omega) (by omega) (by omega) hp hy h1 h2 (by rw [hq]; exact hby)
              generalize parV bs p = pv at hrun HC
              have Hr := hidOf hrun
              have HN' := hidOf hN'
              rw [hq] at HC
              unfold nodeO nodeP at Hr HC
              clear hcell hcell' hp hy hN hI hpr hrun hN' hat hq h1 h2 HQ
              cases q
              · go_wp2_with fail
                refine HC.out.mono ?_
                rintro e w1 ⟨rfl, rfl⟩
                go_wp2_with (at_builtin; refine wpList_append_run rfl _ _ 51 rfl _ _ _ rfl rfl Hr.out ?_)
                go_roundw
                case rel => exact ⟨k + 1, _, _, by omega, by go_num, rfl, HN'.out⟩
                case measure => simp [intOf]; omega
              · cases y
                · simp at hby
                · go_wp2_with fail
                  refine HC.out.mono ?_
                  rintro e w1 ⟨rfl, rfl⟩
                  go_wp2_with (at_builtin; refine wpList_append_run rfl _ _ 51 rfl _ _ _ rfl rfl Hr.out ?_)
                  go_roundw
                  case rel => exact ⟨k + 1, _, _, by omega, by go_num, rfl, HN'.out⟩
                  case measure => simp [intOf]; omega
            · obtain ⟨rfl, rfl⟩ : q = true ∧ y = false := by revert hby; cases q <;> cases y <;> simp
              have hbad := tok_bad (by omega) (hat.trans (by rfl))
              have HB := hidOf (bl_trans B0 (bl_alloc hN.below (nodeO k (parV bs p) true)))
              generalize parV bs p = pv at HB HC
              rw [hq] at HC
              unfold nodeO nodeP at HC
              unfold nodeO at HB
              clear hcell hcell' hp hy hN hI hpr hat hq h1 h2 HQ
              go_wp2_with fail
              refine HC.out.mono ?_
              rintro e w1 ⟨rfl, rfl⟩
              go_wp2
              go_ret2
              exact ⟨HB.out, .inl ⟨hbad, rfl⟩⟩
        · obtain rfl : k = n := by omega
          have hok := tok_end (ps := ps) (qs := qs) (by omega) (by omega) (by rw [hlp]; exact hN.ok)
          have hB := bl_trans B0 hN.below
          obtain ⟨hl, hr, hn1, _, _⟩ := hN
          rw [List.take_of_length_le (by omega), List.take_of_length_le (by omega)] at hn1
          have HR := hidOf (hr.mono (B' := w.heap.size) (by omega))
          have HN := hidOf (hn1.mono (B' := w.heap.size) (by omega))
          have HL := hidOf hl
          clear hl hr hn1
          go_wp2
          go_ret2
          refine ⟨hB, .inr ⟨hok, av, cv, bs, ?_, ?_, HN.out⟩⟩
          · rw [HL.out]; rfl
          · rw [HL.out]; exact HR.out
    · have h24' : 24 < (n : Int) := by omega
      have hq := tok_long (qs := qs) (show ¬ ps.length ≤ 24 by omega)
      clear hT0
      go_enter Try.func35, Try.ntmps35
      go_wp2
      go_ret2
      exact ⟨B0, .inl ⟨hq, rfl⟩⟩
  · have hneq : ((n : Int) != (n' : Int)) = true := by simp; omega
    have hq := tok_len (ps := ps) (qs := qs) (by omega)
    clear hT0
    go_enter Try.func35, Try.ntmps35
    go_wp2
    go_ret2
    exact ⟨B0, .inl ⟨hq, rfl⟩⟩

theorem implTokensOk_any (a : Option Addr) (n c : Nat) (ps : List Int) (a' : Option Addr) (n' c' : Nat) (qs : List Bool) (w : World) (hT : TokIn w a n ps a' n' qs) (hn : n ≤ 2097152) (hn' : n' ≤ 2097152) :
    Calls Try.prog 20 #[.agg #[.slice a n c, .slice a' n' c']] w fun e w' => e = .returned (.bool (tokL ps qs)) ∧ Below w.heap.size w w' := by
  have hW : TokIn (w.alloc (.cells #[.slice a n c, .slice a' n' c'] 27)) a n ps a' n' qs := hT.keep (bl_alloc (Below.refl _ _) _)
  have HC := hidOf (tokenNodes_any a n c ps a' n' c' qs _ hW hn hn')
  have HB := hidOf (bl_alloc (Below.refl _ w) (.cells #[.slice a n c, .slice a' n' c'] 27))
  clear hT hW
  go_enter Try.func20, Try.ntmps20
  go_wp2_with fail
  refine HC.out.mono ?_
  rintro e w1 ⟨hb, ⟨hl, rfl⟩ | ⟨hl, a1, c1, bs, rfl, _, _⟩⟩
  · go_wp2
    go_ret
    exact ⟨rbool hl.symm, bl_trans HB.out hb⟩
  · go_wp2
    go_ret
    exact ⟨rbool hl.symm, bl_trans HB.out hb⟩
theorem implIsOff_any (a : Option Addr) (n c : Nat) (ps : List Int) (a' : Option Addr) (n' c' : Nat) (qs : List Bool) (x : Int) (w : World) (hT : TokIn w a n ps a' n' qs) (hn : n ≤ 2097152) (hn' : n' ≤ 2097152) :
    Calls Try.prog 18 #[.agg #[.slice a n c, .slice a' n' c'], .int .i64 x] w fun e w' => e = .returned (.bool (offL ps qs x)) ∧ Below w.heap.size w w' := by
  have hW : TokIn (w.alloc (.cells #[.slice a n c, .slice a' n' c'] 27)) a n ps a' n' qs := hT.keep (bl_alloc (Below.refl _ _) _)
  have HC := hidOf (tokenNodes_any a n c ps a' n' c' qs _ hW hn hn')
  have HB := hidOf (bl_alloc (Below.refl _ w) (.cells #[.slice a n c, .slice a' n' c'] 27))
  clear hT hW
  go_enter Try.func18, Try.ntmps18
  go_wp2_with fail
  refine HC.out.mono ?_
  rintro e w1 ⟨hb, ⟨hl, rfl⟩ | ⟨hl, a1, c1, bs, rfl, hr, hN⟩⟩
  · have ho := off_bad (x := x) (.inl hl)
    go_wp2
    go_ret
    exact ⟨rbool ho.symm, bl_trans HB.out hb⟩
  · have hlp := hN.lp
    have hlq := hN.lq
    by_cases hx : x < 0 ∨ (bs.length : Int) ≤ x
    · have ho := off_bad (ps := ps) (qs := qs) (x := x) (.inr (by simp only [tokIs, Bool.and_eq_false_iff, decide_eq_false_iff_not]; omega))
      have HA := hidOf (tokenAt_no a1 bs.length c1 x w1 hx)
      clear hx hlp hlq hr hN
      go_wp2_with fail
      refine HA.out.mono ?_
      rintro e w2 ⟨rfl, rfl⟩
      go_wp2
      go_ret
      exact ⟨rbool ho.symm, bl_trans HB.out hb⟩
    · obtain ⟨k, rfl⟩ := Int.eq_ofNat_of_zero_le (show 0 ≤ x by omega)
      have hk : k < bs.length := by omega
      obtain ⟨a2, c2, e2, h0 | ⟨g, ea, _, hg, hcl⟩⟩ := hr.parts
      · omega
      · cases e2
        subst ea
        have HA := hidOf (tokenAt_yes g bs.length c1 k _ w1 hk (hcl k hk))
        have hbk := hN.blk k hk
        have ho := off_good (qs := qs) (k := k) hl (by simp only [tokIs, Bool.and_eq_true, decide_eq_true_eq]; omega) rfl
        generalize hq : qs.getD k false = q at hbk ho
        generalize parV bs (ps.getD k 0) = pv at hbk
        generalize hb2 : bs.getD k 0 = b at hbk HA
        have hc2 : w1.cell? ⟨b, 2, none⟩ = some (.bool q) := by simp [World.cell?, hbk, nodeO]
        unfold nodeP at HA
        clear hx hlp hlq hr hN hcl hbk hq hb2 hg
        go_wp2_with fail
        refine HA.out.mono ?_
        rintro e w2 ⟨rfl, rfl⟩
        go_wp2
        go_ret
        exact ⟨rbool ho.symm, bl_trans HB.out hb⟩
end Go.Proofs.Ytgklnpkeffobnaa
