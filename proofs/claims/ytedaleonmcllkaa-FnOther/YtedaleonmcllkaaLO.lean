/-
  Walk of the law on the other filter.
-/
import Derived.Test.YtedaleonmcllkaaDF3
import Derived.Test.YtedaleonmcllkaaFX
import Derived.Test.YtedaleonmcllkaaFA
import Derived.Test.YtedaleonmcllkaaWF4
namespace Go.Proofs.Ytedaleonmcllkaa
open Go.RowKit Pl Il Dr

theorem pass_other {f g : List Tm} (h : otherM f = some g) (k n : Int) (s : ByteArray) (ho : okB k n s = true) : passM g k n s = !(passM f k n s) := by
  obtain ⟨h1, h2, h3⟩ := other_pass h
  unfold passM
  rw [h1, h2, h3, ho]
  cases passP f (bdOf k n s) <;> rfl
theorem pass_bad {f : List Tm} {k n : Int} {s : ByteArray} (ho : okB k n s = false) : passM f k n s = false := by simp [passM, ho]
theorem other_len {f g : List Tm} (h : otherM f = some g) : g.length ≤ 12 := okF_le (other_pass h).2.1
/-- What the last test of the law holds on to. -/
abbrev OtS (w0 : World) (M : Nat) (k n : Int) (s : ByteArray) (af : Option Addr) (mf : Nat) (f : List Tm) (ag : Option Addr) (mg : Nat) (g : List Tm) (ah : Option Addr) (mh : Nat) (h : List Tm) (w : World) : Prop :=
  w.cell? ⟨M, 0, none⟩ = some (.int .i64 k) ∧ w.cell? ⟨M, 1, none⟩ = some (.int .i64 n) ∧ w.cell? ⟨M, 2, none⟩ = some (.string s) ∧ TmAt w af mf f ∧ TmAt w ag mg g ∧ TmAt w ah mh h ∧ GOk w ∧ Below w0.heap.size w0 w
theorem OtS.keep {w0 : World} {M : Nat} {k n : Int} {s : ByteArray} {af : Option Addr} {mf : Nat} {f : List Tm} {ag : Option Addr} {mg : Nat} {g : List Tm} {ah : Option Addr} {mh : Nat} {h : List Tm} {w w' : World} (q : OtS w0 M k n s af mf f ag mg g ah mh h w) (hb : Below w.heap.size w w') : OtS w0 M k n s af mf f ag mg g ah mh h w' :=
  ⟨cellH q.1 hb, cellH q.2.1 hb, cellH q.2.2.1 hb, q.2.2.2.1.keep hb, q.2.2.2.2.1.keep hb, q.2.2.2.2.2.1.keep hb, q.2.2.2.2.2.2.1.keep hb, bl_trans q.2.2.2.2.2.2.2 hb⟩
theorem other_big (a : Option Addr) (len cap : Nat) (w : World) (hl : 1048576 < len) :
    Calls Try.prog 3 #[.slice a len cap] w fun e w' => e = .returned (.bool true) ∧ Below w.heap.size w w' := by
  go_enter Try.func3, Try.ntmps3
  go_wp2_with fail
  refine (bigC_any a len cap _).mono ?_
  rintro e w1 ⟨rfl, rfl⟩
  rw [show decide (1048576 < len) = true by simp [hl]]
  go_wp2
  go_ret
  exact ⟨rfl, Below.refl _ _⟩
set_option maxRecDepth 100000 in
set_option maxHeartbeats 8000000 in
theorem other_small (a : Option Addr) (len cap : Nat) (w : World) (hB : Bytes w.heap.size w a len cap) (hl : len ≤ 1048576) (hG : GOk w) :
    Calls Try.prog 3 #[.slice a len cap] w fun e w' => e = .returned (.bool true) ∧ Below w.heap.size w w' := by
  have HB := hidOf hB
  have HG := hidOf hG
  clear hB hG
  go_enter Try.func3, Try.ntmps3
  go_wp2_with fail
  refine (bigC_any a len cap _).mono ?_
  rintro e w0 ⟨rfl, rfl⟩
  rw [show decide (1048576 < len) = false by simp; omega]
  go_wp2_with fail
  refine (drawPasses_any a len cap _ HB.out).mono ?_
  rintro e w1 ⟨af, mf, cf, f, k, n, s, rfl, hmf, hf, hs0, hb1⟩
  have hs : s.size ≤ maxLen := by unfold maxLen; omega
  have HM1 := hidOf (Box3.new w1 (.int .i64 k) (.int .i64 n) (.string s) 26)
  have HB1 := hidOf (bl_alloc hb1 (.cells #[.int .i64 k, .int .i64 n, .string s] 26))
  have HF1 := hidOf (hf.keep (bl_alloc (Below.refl _ _) (.cells #[.int .i64 k, .int .i64 n, .string s] 26)))
  clear hf hb1 HB
  go_wp2_with fail
  refine (implOther_any _ mf cf f _ HF1.out (by omega)).mono ?_
  rintro e w2 ⟨ag, mg, cg, rfl, _, hmg, hg, hb2⟩
  have HM2 := hidOf (HM1.out.keep hb2)
  have HB2 := hidOf (bl_trans HB1.out hb2)
  have HF2 := hidOf (HF1.out.keep hb2)
  have HG2 := hidOf hg.tm
  clear hb2 hg HM1 HB1 HF1
  go_wp2_with fail
  refine (specOther_any _ mf cf f _ HF2.out (by omega)).mono ?_
  rintro e w3 ⟨ax, mx, cx, rfl, _, _, _, hb3⟩
  have HM3 := hidOf (HM2.out.keep hb3)
  have HB3 := hidOf (bl_trans HB2.out hb3)
  have HF3 := hidOf (HF2.out.keep hb3)
  have HG3 := hidOf (HG2.out.keep hb3)
  have HGo := hidOf (HG.out.keep HB3.out)
  clear hb3 HM2 HB2 HF2 HG2 HG
  cases hr : otherM f with
  | none =>
    rw [hr] at HG3
    have hz : mg = 0 := by have := HG3.out.len; simpa using this.symm
    simp only [Option.isSome_none]
    clear hr HG3
    subst hz
    go_wp2
    go_ret
    exact ⟨rfl, HB3.out⟩
  | some g =>
    rw [hr] at HG3
    simp only [Option.isSome_some, Option.getD_some] at HG3 ⊢
    have HR := hidOf hr
    clear hr
    obtain ⟨_, p0, p1, p2, pf⟩ := id HM3.out
    go_wp2_with fail
    refine (specMsgOk_any k n s _ hs).mono ?_
    rintro e w4 ⟨rfl, hb4⟩
    have HM4 := hidOf (HM3.out.keep hb4)
    have HB4 := hidOf (bl_trans HB3.out hb4)
    have HF4 := hidOf (HF3.out.keep hb4)
    have HG4 := hidOf (HG3.out.keep hb4)
    have HG04 := hidOf (HGo.out.keep hb4)
    clear hb4 HM3 HB3 HF3 HG3 HGo p0 p1 p2 pf
    cases ho : okB k n s
    · have HP := hidOf (fun l => pass_bad (f := l) ho)
      clear ho
      obtain ⟨_, p0, p1, p2, pf⟩ := id HM4.out
      go_wp2_with fail
      refine (implPasses_any _ mf cf f k n s _ HF4.out (by omega) hs HG04.out).mono ?_
      rintro e w5 ⟨rfl, hb5⟩
      rw [HP.out]
      have HM5 := hidOf (HM4.out.keep hb5)
      have HB5 := hidOf (bl_trans HB4.out hb5)
      have HG5 := hidOf (HG4.out.keep hb5)
      have HG05 := hidOf (HG04.out.keep hb5)
      clear hb5 p0 p1 p2 pf HM4 HB4 HF4 HG4 HG04
      obtain ⟨_, p0, p1, p2, pf⟩ := id HM5.out
      go_wp2_with fail
      refine (implPasses_any _ mg cg g k n s _ HG5.out (by omega) hs HG05.out).mono ?_
      rintro e w6 ⟨rfl, hb6⟩
      rw [HP.out]
      have HB6 := hidOf (bl_trans HB5.out hb6)
      clear hb6 p0 p1 p2 pf
      go_wp2
      go_ret
      exact ⟨rfl, HB6.out⟩
    · have HPg := hidOf (pass_other HR.out k n s ho)
      have HOg := hidOf (other_pass HR.out).2.1
      have HPh := hidOf (fun h (e : otherM g = some h) => (pass_other e k n s ho).trans (by rw [HPg.out, Bool.not_not] : _ = passM f k n s))
      clear ho
      go_wp2_with fail
      refine (implOther_any _ mg cg g _ HG4.out (by omega)).mono ?_
      rintro e w5 ⟨ah, mh, ch, rfl, _, hmh, hh, hb5⟩
      have hcell := HM4.out.keep hb5
      have hS : OtS w0 w1.heap.size k n s af mf f ag mg g ah mh ((otherM g).getD []) w5 := ⟨hcell.c0, hcell.c1, hcell.c2, HF4.out.keep hb5, HG4.out.keep hb5, hh.tm, HG04.out.keep hb5, bl_trans HB4.out hb5⟩
      clear hh hb5 hcell HM4 HB4 HF4 HG4 HG04
      obtain ⟨P, hP⟩ : ∃ P, passM f k n s = P := ⟨_, rfl⟩
      rw [hP] at HPg HPh
      have HPf := hidOf hP
      clear hP
      cases hm : otherM g with
      | none =>
        rw [hm] at hS
        simp only [Option.isSome_none, Option.getD_none] at hS ⊢
        clear hm HPh
        cases P
        · go_wp2_with fail
          refine wp_region_noPanic ?_
          refine wp_region_held_drew (S := fun w' => OtS w0 w1.heap.size k n s af mf f ag mg g ah mh [] w') (by kernel_rfl) (hS.keep (Below.refl _ _).drew) (fun hHeld => ?_)
          refine wpAnyH_take (i := 0) (v := ?_) rfl (by kernel_rfl) (by kernel_rfl) (by kernel_rfl) (fun _ _ _ h => h) (Or.inl ⟨by rfl, ?_⟩) (by assumption) ?_
          case refine_2 => (intro w hSw; (try dsimp only at hSw); go_simp; try with_reducible rfl)
          simp only [Act.put, List.getElem_toArray, List.getElem_cons_zero, List.setIfInBounds_toArray, List.set_cons_zero, List.set_cons_succ]
          refine wpAnyH_ready (rs := [1]) (by kernel_rfl) (by simp) ?_
          refine AllReadyH.cons rfl (fun K hK => ?_) AllReadyH.nil
          go_simp
          refine (implFilterOk_any _ mg cg g _ hHeld.2.2.2.2.1 (by omega)).mono ?_
          rintro e u1 ⟨rfl, hbu⟩
          rw [HOg.out]
          have hN := hHeld.keep hbu
          clear hbu
          go_wp2_with fail
          refine hK.out _ _ hN (fun hHeld => ?_)
          clear hK K
          clear hN
          refine wpAnyH_take (i := 2) (v := ?_) rfl (by kernel_rfl) (by kernel_rfl) (by kernel_rfl) (fun _ _ _ h => h) (Or.inl ⟨by rfl, ?_⟩) (by assumption) ?_
          case refine_2 => (intro w hSw; (try dsimp only at hSw); go_simp; try with_reducible rfl)
          simp only [Act.put, zGA, zG0, zGC, zSA, zS0, zSC]
          refine wpAnyH_take (i := 3) (v := ?_) rfl (by kernel_rfl) (by kernel_rfl) (by kernel_rfl) (fun _ _ _ h => h) (Or.inl ⟨by rfl, ?_⟩) (by assumption) ?_
          case refine_2 => (intro w hSw; (try dsimp only at hSw); go_simp; try with_reducible rfl)
          simp only [Act.put, zGA, zG0, zGC, zSA, zS0, zSC]
          refine wpAnyH_take (i := 4) (v := ?_) rfl (by kernel_rfl) (by kernel_rfl) (by kernel_rfl) (fun _ _ _ h => h) (Or.inl ⟨by rfl, ?_⟩) (by assumption) ?_
          case refine_2 => (intro w hSw; (try dsimp only at hSw); go_simp; try with_reducible rfl)
          simp only [Act.put, zGA, zG0, zGC, zSA, zS0, zSC]
          refine wpAnyH_take (i := 6) (v := ?_) rfl (by kernel_rfl) (by kernel_rfl) (by kernel_rfl) (fun _ _ _ h => h) (Or.inl ⟨by rfl, ?_⟩) (by assumption) ?_
          case refine_2 => (intro w hSw; (try dsimp only at hSw); go_simp; try with_reducible rfl)
          simp only [Act.put, zGA, zG0, zGC, zSA, zS0, zSC]
          refine wpAnyH_take (i := 7) (v := ?_) rfl (by kernel_rfl) (by kernel_rfl) (by kernel_rfl) (fun _ _ _ h => h) (Or.inl ⟨by rfl, ?_⟩) (by assumption) ?_
          case refine_2 => (intro w hSw; (try dsimp only at hSw); go_simp; try with_reducible rfl)
          simp only [Act.put, zGA, zG0, zGC, zSA, zS0, zSC]
          refine wpAnyH_ready (rs := [5]) (by kernel_rfl) (by simp) ?_
          refine AllReadyH.cons rfl (fun K hK => ?_) AllReadyH.nil
          go_simp
          refine (implPasses_any _ mg cg g k n s _ hHeld.2.2.2.2.1 (by omega) hs hHeld.2.2.2.2.2.2.1).mono ?_
          rintro e u1 ⟨rfl, hbu⟩
          rw [HPg.out]
          have hN := hHeld.keep hbu
          clear hbu
          go_wp2_with fail
          refine hK.out _ _ hN (fun hHeld => ?_)
          clear hK K
          clear hN
          refine wpAnyH_ready (rs := [8]) (by kernel_rfl) (by simp) ?_
          refine AllReadyH.cons rfl (fun K hK => ?_) AllReadyH.nil
          go_simp
          refine (implPasses_any _ mf cf f k n s _ hHeld.2.2.2.1 (by omega) hs hHeld.2.2.2.2.2.2.1).mono ?_
          rintro e u1 ⟨rfl, hbu⟩
          rw [HPf.out]
          have hN := hHeld.keep hbu
          clear hbu
          go_wp2_with fail
          refine hK.out _ _ hN (fun hHeld => ?_)
          clear hK K
          clear hN
          refine wpAnyH_take (i := 9) (v := ?_) rfl (by kernel_rfl) (by kernel_rfl) (by kernel_rfl) (fun _ _ _ h => h) (Or.inl ⟨by rfl, ?_⟩) (by assumption) ?_
          case refine_2 => (intro w hSw; (try dsimp only at hSw); go_simp; try with_reducible rfl)
          simp only [Act.put, zGA, zG0, zGC, zSA, zS0, zSC]
          refine wpAnyH_take (i := 10) (v := ?_) rfl (by kernel_rfl) (by kernel_rfl) (by kernel_rfl) (fun _ _ _ h => h) (Or.inl ⟨by rfl, ?_⟩) (by assumption) ?_
          case refine_2 => (intro w hSw; (try dsimp only at hSw); go_simp; try with_reducible rfl)
          simp only [Act.put, zGA, zG0, zGC, zSA, zS0, zSC]
          refine wpAnyH_take (i := 11) (v := ?_) rfl (by kernel_rfl) (by kernel_rfl) (by kernel_rfl) (fun _ _ _ h => h) (Or.inl ⟨by rfl, ?_⟩) (by assumption) ?_
          case refine_2 => (intro w hSw; (try dsimp only at hSw); go_simp; try with_reducible rfl)
          simp only [Act.put, zGA, zG0, zGC, zSA, zS0, zSC]
          refine wpAnyH_take (i := 12) (v := ?_) rfl (by kernel_rfl) (by kernel_rfl) (by kernel_rfl) (fun _ _ _ h => h) (Or.inl ⟨by rfl, ?_⟩) (by assumption) ?_
          case refine_2 => (intro w hSw; (try dsimp only at hSw); go_simp; try with_reducible rfl)
          simp only [Act.put, zGA, zG0, zGC, zSA, zS0, zSC]
          refine wpAnyH_take (i := 13) (v := ?_) rfl (by kernel_rfl) (by kernel_rfl) (by kernel_rfl) (fun _ _ _ h => h) (Or.inl ⟨by rfl, ?_⟩) (by assumption) ?_
          case refine_2 => (intro w hSw; (try dsimp only at hSw); go_simp; try with_reducible rfl)
          simp only [Act.put, zGA, zG0, zGC, zSA, zS0, zSC]
          refine wpAnyH_take (i := 15) (v := ?_) rfl (by kernel_rfl) (by kernel_rfl) (by kernel_rfl) (fun _ _ _ h => h) (Or.inl ⟨by rfl, ?_⟩) (by assumption) ?_
          case refine_2 => (intro w hSw; (try dsimp only at hSw); go_simp; try with_reducible rfl)
          simp only [Act.put, zGA, zG0, zGC, zSA, zS0, zSC]
          refine wpAnyH_take (i := 16) (v := ?_) rfl (by kernel_rfl) (by kernel_rfl) (by kernel_rfl) (fun _ _ _ h => h) (Or.inl ⟨by rfl, ?_⟩) (by assumption) ?_
          case refine_2 => (intro w hSw; (try dsimp only at hSw); go_simp; try with_reducible rfl)
          simp only [Act.put, zGA, zG0, zGC, zSA, zS0, zSC]
          refine wpAnyH_ready (rs := [14]) (by kernel_rfl) (by simp) ?_
          refine AllReadyH.cons rfl (fun K hK => ?_) AllReadyH.nil
          go_simp
          refine (implPasses_any _ mf cf f k n s _ hHeld.2.2.2.1 (by omega) hs hHeld.2.2.2.2.2.2.1).mono ?_
          rintro e u1 ⟨rfl, hbu⟩
          rw [HPf.out]
          have hN := hHeld.keep hbu
          clear hbu
          go_wp2_with fail
          refine hK.out _ _ hN (fun hHeld => ?_)
          clear hK K
          clear hN
          refine wpAnyH_ready (rs := [17]) (by kernel_rfl) (by simp) ?_
          refine AllReadyH.cons rfl (fun K hK => ?_) AllReadyH.nil
          go_simp
          refine (specPasses_any _ mf cf f k n s _ hHeld.2.2.2.1 (by omega) hs).mono ?_
          rintro e u1 ⟨rfl, hbu⟩
          rw [HPf.out]
          have hN := hHeld.keep hbu
          clear hbu
          go_wp2_with fail
          refine hK.out _ _ hN (fun hHeld => ?_)
          clear hK K
          clear hN
          refine wpAnyH_take (i := 18) (v := ?_) rfl (by kernel_rfl) (by kernel_rfl) (by kernel_rfl) (fun _ _ _ h => h) (Or.inl ⟨by rfl, ?_⟩) (by assumption) ?_
          case refine_2 => (intro w hSw; (try dsimp only at hSw); go_simp; try with_reducible rfl)
          simp only [Act.put, zGA, zG0, zGC, zSA, zS0, zSC]
          refine wpAnyH_take (i := 19) (v := ?_) rfl (by kernel_rfl) (by kernel_rfl) (by kernel_rfl) (fun _ _ _ h => h) (Or.inl ⟨by rfl, ?_⟩) (by assumption) ?_
          case refine_2 => (intro w hSw; (try dsimp only at hSw); go_simp; try with_reducible rfl)
          simp only [Act.put, zGA, zG0, zGC, zSA, zS0, zSC]
          refine wpAnyH_take (i := 20) (v := ?_) rfl (by kernel_rfl) (by kernel_rfl) (by kernel_rfl) (fun _ _ _ h => h) (Or.inl ⟨by rfl, ?_⟩) (by assumption) ?_
          case refine_2 => (intro w hSw; (try dsimp only at hSw); go_simp; try with_reducible rfl)
          simp only [Act.put, zGA, zG0, zGC, zSA, zS0, zSC]
          refine wpAnyH_take (i := 21) (v := ?_) rfl (by kernel_rfl) (by kernel_rfl) (by kernel_rfl) (fun _ _ _ h => h) (Or.inl ⟨by rfl, ?_⟩) (by assumption) ?_
          case refine_2 => (intro w hSw; (try dsimp only at hSw); go_simp; try with_reducible rfl)
          simp only [Act.put, zGA, zG0, zGC, zSA, zS0, zSC]
          refine wpAnyH_take (i := 22) (v := ?_) rfl (by kernel_rfl) (by kernel_rfl) (by kernel_rfl) (fun _ _ _ h => h) (Or.inl ⟨by rfl, ?_⟩) (by assumption) ?_
          case refine_2 => (intro w hSw; (try dsimp only at hSw); go_simp; try with_reducible rfl)
          simp only [Act.put, zGA, zG0, zGC, zSA, zS0, zSC]
          refine wpAnyH_take (i := 23) (v := ?_) rfl (by kernel_rfl) (by kernel_rfl) (by kernel_rfl) (fun _ _ _ h => h) (Or.inl ⟨by rfl, ?_⟩) (by assumption) ?_
          case refine_2 => (intro w hSw; (try dsimp only at hSw); go_simp; try with_reducible rfl)
          simp only [Act.put, zGA, zG0, zGC, zSA, zS0, zSC]
          refine wpAnyH_take (i := 24) (v := undef) rfl (by kernel_rfl) (by kernel_rfl) (by kernel_rfl) (fun _ _ _ h => h) (Or.inr ⟨by rfl, rfl⟩) (by assumption) ?_
          simp only [Act.put, zGA, zG0, zGC, zSA, zS0, zSC]
          refine wpAnyH_take (i := 25) (v := undef) rfl (by kernel_rfl) (by kernel_rfl) (by kernel_rfl) (fun _ _ _ h => h) (Or.inr ⟨by rfl, rfl⟩) (by assumption) ?_
          simp only [Act.put, zGA, zG0, zGC, zSA, zS0, zSC]
          refine wpAnyH_take (i := 27) (v := undef) rfl (by kernel_rfl) (by kernel_rfl) (by kernel_rfl) (fun _ _ _ h => h) (Or.inr ⟨by rfl, rfl⟩) (by assumption) ?_
          simp only [Act.put, zGA, zG0, zGC, zSA, zS0, zSC]
          refine wpAnyH_take (i := 28) (v := undef) rfl (by kernel_rfl) (by kernel_rfl) (by kernel_rfl) (fun _ _ _ h => h) (Or.inr ⟨by rfl, rfl⟩) (by assumption) ?_
          simp only [Act.put, zGA, zG0, zGC, zSA, zS0, zSC]
          refine wpAnyH_ready (rs := [26]) (by kernel_rfl) (by simp) ?_
          refine AllReadyH.cons rfl (fun K hK => ?_) AllReadyH.nil
          refine cast (if_neg (Bool.eq_false_iff.1 (by rfl))).symm ?_
          refine hK.out _ _ (by assumption) (fun hHeld => ?_)
          clear hK K
          simp only [Act.put, zGA, zG0, zGC, zSA, zS0, zSC]
          refine wpAnyH_ready (rs := [29]) (by kernel_rfl) (by simp) ?_
          refine AllReadyH.cons rfl (fun K hK => ?_) AllReadyH.nil
          refine cast (if_neg (Bool.eq_false_iff.1 (by rfl))).symm ?_
          refine hK.out _ _ (by assumption) (fun hHeld => ?_)
          clear hK K
          simp only [Act.put, zGA, zG0, zGC, zSA, zS0, zSC]
          refine wpAnyH_take (i := 30) (v := undef) rfl (by kernel_rfl) (by kernel_rfl) (by kernel_rfl) (fun _ _ _ h => h) (Or.inr ⟨by rfl, rfl⟩) (by assumption) ?_
          simp only [Act.put, zGA, zG0, zGC, zSA, zS0, zSC]
          refine wpAnyH_take (i := 31) (v := ?_) rfl (by kernel_rfl) (by kernel_rfl) (by kernel_rfl) (fun _ _ _ h => h) (Or.inl ⟨by rfl, ?_⟩) (by assumption) ?_
          case refine_2 => (intro w hSw; (try dsimp only at hSw); go_simp; try with_reducible rfl)
          simp only [Act.put, zGA, zG0, zGC, zSA, zS0, zSC]
          refine wpAnyH_take (i := 32) (v := ?_) rfl (by kernel_rfl) (by kernel_rfl) (by kernel_rfl) (fun _ _ _ h => h) (Or.inl ⟨by rfl, ?_⟩) (by assumption) ?_
          case refine_2 => (intro w hSw; (try dsimp only at hSw); go_simp; try with_reducible rfl)
          simp only [Act.put, zGA, zG0, zGC, zSA, zS0, zSC]
          refine wpAnyH_take (i := 33) (v := ?_) rfl (by kernel_rfl) (by kernel_rfl) (by kernel_rfl) (fun _ _ _ h => h) (Or.inl ⟨by rfl, ?_⟩) (by assumption) ?_
          case refine_2 => (intro w hSw; (try dsimp only at hSw); go_simp; try with_reducible rfl)
          simp only [Act.put, zGA, zG0, zGC, zSA, zS0, zSC]
          refine wpAnyH_done (by kernel_rfl) ?_ _
          refine NoPanic.normal ?_
          have HBf := hidOf hHeld.2.2.2.2.2.2.2
          clear hHeld hS
          go_wp2
          go_ret
          exact ⟨rfl, HBf.out⟩
        · go_wp2_with fail
          refine wp_region_noPanic ?_
          refine wp_region_held_drew (S := fun w' => OtS w0 w1.heap.size k n s af mf f ag mg g ah mh [] w') (by kernel_rfl) (hS.keep (Below.refl _ _).drew) (fun hHeld => ?_)
          refine wpAnyH_take (i := 0) (v := ?_) rfl (by kernel_rfl) (by kernel_rfl) (by kernel_rfl) (fun _ _ _ h => h) (Or.inl ⟨by rfl, ?_⟩) (by assumption) ?_
          case refine_2 => (intro w hSw; (try dsimp only at hSw); go_simp; try with_reducible rfl)
          simp only [Act.put, List.getElem_toArray, List.getElem_cons_zero, List.setIfInBounds_toArray, List.set_cons_zero, List.set_cons_succ]
          refine wpAnyH_ready (rs := [1]) (by kernel_rfl) (by simp) ?_
          refine AllReadyH.cons rfl (fun K hK => ?_) AllReadyH.nil
          go_simp
          refine (implFilterOk_any _ mg cg g _ hHeld.2.2.2.2.1 (by omega)).mono ?_
          rintro e u1 ⟨rfl, hbu⟩
          rw [HOg.out]
          have hN := hHeld.keep hbu
          clear hbu
          go_wp2_with fail
          refine hK.out _ _ hN (fun hHeld => ?_)
          clear hK K
          clear hN
          refine wpAnyH_take (i := 2) (v := ?_) rfl (by kernel_rfl) (by kernel_rfl) (by kernel_rfl) (fun _ _ _ h => h) (Or.inl ⟨by rfl, ?_⟩) (by assumption) ?_
          case refine_2 => (intro w hSw; (try dsimp only at hSw); go_simp; try with_reducible rfl)
          simp only [Act.put, zGA, zG0, zGC, zSA, zS0, zSC]
          refine wpAnyH_take (i := 3) (v := ?_) rfl (by kernel_rfl) (by kernel_rfl) (by kernel_rfl) (fun _ _ _ h => h) (Or.inl ⟨by rfl, ?_⟩) (by assumption) ?_
          case refine_2 => (intro w hSw; (try dsimp only at hSw); go_simp; try with_reducible rfl)
          simp only [Act.put, zGA, zG0, zGC, zSA, zS0, zSC]
          refine wpAnyH_take (i := 4) (v := ?_) rfl (by kernel_rfl) (by kernel_rfl) (by kernel_rfl) (fun _ _ _ h => h) (Or.inl ⟨by rfl, ?_⟩) (by assumption) ?_
          case refine_2 => (intro w hSw; (try dsimp only at hSw); go_simp; try with_reducible rfl)
          simp only [Act.put, zGA, zG0, zGC, zSA, zS0, zSC]
          refine wpAnyH_take (i := 6) (v := ?_) rfl (by kernel_rfl) (by kernel_rfl) (by kernel_rfl) (fun _ _ _ h => h) (Or.inl ⟨by rfl, ?_⟩) (by assumption) ?_
          case refine_2 => (intro w hSw; (try dsimp only at hSw); go_simp; try with_reducible rfl)
          simp only [Act.put, zGA, zG0, zGC, zSA, zS0, zSC]
          refine wpAnyH_take (i := 7) (v := ?_) rfl (by kernel_rfl) (by kernel_rfl) (by kernel_rfl) (fun _ _ _ h => h) (Or.inl ⟨by rfl, ?_⟩) (by assumption) ?_
          case refine_2 => (intro w hSw; (try dsimp only at hSw); go_simp; try with_reducible rfl)
          simp only [Act.put, zGA, zG0, zGC, zSA, zS0, zSC]
          refine wpAnyH_ready (rs := [5]) (by kernel_rfl) (by simp) ?_
          refine AllReadyH.cons rfl (fun K hK => ?_) AllReadyH.nil
          go_simp
          refine (implPasses_any _ mg cg g k n s _ hHeld.2.2.2.2.1 (by omega) hs hHeld.2.2.2.2.2.2.1).mono ?_
          rintro e u1 ⟨rfl, hbu⟩
          rw [HPg.out]
          have hN := hHeld.keep hbu
          clear hbu
          go_wp2_with fail
          refine hK.out _ _ hN (fun hHeld => ?_)
          clear hK K
          clear hN
          refine wpAnyH_ready (rs := [8]) (by kernel_rfl) (by simp) ?_
          refine AllReadyH.cons rfl (fun K hK => ?_) AllReadyH.nil
          go_simp
          refine (implPasses_any _ mf cf f k n s _ hHeld.2.2.2.1 (by omega) hs hHeld.2.2.2.2.2.2.1).mono ?_
          rintro e u1 ⟨rfl, hbu⟩
          rw [HPf.out]
          have hN := hHeld.keep hbu
          clear hbu
          go_wp2_with fail
          refine hK.out _ _ hN (fun hHeld => ?_)
          clear hK K
          clear hN
          refine wpAnyH_take (i := 9) (v := ?_) rfl (by kernel_rfl) (by kernel_rfl) (by kernel_rfl) (fun _ _ _ h => h) (Or.inl ⟨by rfl, ?_⟩) (by assumption) ?_
          case refine_2 => (intro w hSw; (try dsimp only at hSw); go_simp; try with_reducible rfl)
          simp only [Act.put, zGA, zG0, zGC, zSA, zS0, zSC]
          refine wpAnyH_take (i := 10) (v := ?_) rfl (by kernel_rfl) (by kernel_rfl) (by kernel_rfl) (fun _ _ _ h => h) (Or.inl ⟨by rfl, ?_⟩) (by assumption) ?_
          case refine_2 => (intro w hSw; (try dsimp only at hSw); go_simp; try with_reducible rfl)
          simp only [Act.put, zGA, zG0, zGC, zSA, zS0, zSC]
          refine wpAnyH_take (i := 11) (v := ?_) rfl (by kernel_rfl) (by kernel_rfl) (by kernel_rfl) (fun _ _ _ h => h) (Or.inl ⟨by rfl, ?_⟩) (by assumption) ?_
          case refine_2 => (intro w hSw; (try dsimp only at hSw); go_simp; try with_reducible rfl)
          simp only [Act.put, zGA, zG0, zGC, zSA, zS0, zSC]
          refine wpAnyH_take (i := 12) (v := ?_) rfl (by kernel_rfl) (by kernel_rfl) (by kernel_rfl) (fun _ _ _ h => h) (Or.inl ⟨by rfl, ?_⟩) (by assumption) ?_
          case refine_2 => (intro w hSw; (try dsimp only at hSw); go_simp; try with_reducible rfl)
          simp only [Act.put, zGA, zG0, zGC, zSA, zS0, zSC]
          refine wpAnyH_take (i := 13) (v := ?_) rfl (by kernel_rfl) (by kernel_rfl) (by kernel_rfl) (fun _ _ _ h => h) (Or.inl ⟨by rfl, ?_⟩) (by assumption) ?_
          case refine_2 => (intro w hSw; (try dsimp only at hSw); go_simp; try with_reducible rfl)
          simp only [Act.put, zGA, zG0, zGC, zSA, zS0, zSC]
          refine wpAnyH_take (i := 15) (v := ?_) rfl (by kernel_rfl) (by kernel_rfl) (by kernel_rfl) (fun _ _ _ h => h) (Or.inl ⟨by rfl, ?_⟩) (by assumption) ?_
          case refine_2 => (intro w hSw; (try dsimp only at hSw); go_simp; try with_reducible rfl)
          simp only [Act.put, zGA, zG0, zGC, zSA, zS0, zSC]
          refine wpAnyH_take (i := 16) (v := ?_) rfl (by kernel_rfl) (by kernel_rfl) (by kernel_rfl) (fun _ _ _ h => h) (Or.inl ⟨by rfl, ?_⟩) (by assumption) ?_
          case refine_2 => (intro w hSw; (try dsimp only at hSw); go_simp; try with_reducible rfl)
          simp only [Act.put, zGA, zG0, zGC, zSA, zS0, zSC]
          refine wpAnyH_ready (rs := [14]) (by kernel_rfl) (by simp) ?_
          refine AllReadyH.cons rfl (fun K hK => ?_) AllReadyH.nil
          go_simp
          refine (implPasses_any _ mf cf f k n s _ hHeld.2.2.2.1 (by omega) hs hHeld.2.2.2.2.2.2.1).mono ?_
          rintro e u1 ⟨rfl, hbu⟩
          rw [HPf.out]
          have hN := hHeld.keep hbu
          clear hbu
          go_wp2_with fail
          refine hK.out _ _ hN (fun hHeld => ?_)
          clear hK K
          clear hN
          refine wpAnyH_ready (rs := [17]) (by kernel_rfl) (by simp) ?_
          refine AllReadyH.cons rfl (fun K hK => ?_) AllReadyH.nil
          go_simp
          refine (specPasses_any _ mf cf f k n s _ hHeld.2.2.2.1 (by omega) hs).mono ?_
          rintro e u1 ⟨rfl, hbu⟩
          rw [HPf.out]
          have hN := hHeld.keep hbu
          clear hbu
          go_wp2_with fail
          refine hK.out _ _ hN (fun hHeld => ?_)
          clear hK K
          clear hN
          refine wpAnyH_take (i := 18) (v := ?_) rfl (by kernel_rfl) (by kernel_rfl) (by kernel_rfl) (fun _ _ _ h => h) (Or.inl ⟨by rfl, ?_⟩) (by assumption) ?_
          case refine_2 => (intro w hSw; (try dsimp only at hSw); go_simp; try with_reducible rfl)
          simp only [Act.put, zGA, zG0, zGC, zSA, zS0, zSC]
          refine wpAnyH_take (i := 19) (v := ?_) rfl (by kernel_rfl) (by kernel_rfl) (by kernel_rfl) (fun _ _ _ h => h) (Or.inl ⟨by rfl, ?_⟩) (by assumption) ?_
          case refine_2 => (intro w hSw; (try dsimp only at hSw); go_simp; try with_reducible rfl)
          simp only [Act.put, zGA, zG0, zGC, zSA, zS0, zSC]
          refine wpAnyH_take (i := 20) (v := ?_) rfl (by kernel_rfl) (by kernel_rfl) (by kernel_rfl) (fun _ _ _ h => h) (Or.inl ⟨by rfl, ?_⟩) (by assumption) ?_
          case refine_2 => (intro w hSw; (try dsimp only at hSw); go_simp; try with_reducible rfl)
          simp only [Act.put, zGA, zG0, zGC, zSA, zS0, zSC]
          refine wpAnyH_take (i := 21) (v := ?_) rfl (by kernel_rfl) (by kernel_rfl) (by kernel_rfl) (fun _ _ _ h => h) (Or.inl ⟨by rfl, ?_⟩) (by assumption) ?_
          case refine_2 => (intro w hSw; (try dsimp only at hSw); go_simp; try with_reducible rfl)
          simp only [Act.put, zGA, zG0, zGC, zSA, zS0, zSC]
          refine wpAnyH_take (i := 22) (v := ?_) rfl (by kernel_rfl) (by kernel_rfl) (by kernel_rfl) (fun _ _ _ h => h) (Or.inl ⟨by rfl, ?_⟩) (by assumption) ?_
          case refine_2 => (intro w hSw; (try dsimp only at hSw); go_simp; try with_reducible rfl)
          simp only [Act.put, zGA, zG0, zGC, zSA, zS0, zSC]
          refine wpAnyH_take (i := 23) (v := ?_) rfl (by kernel_rfl) (by kernel_rfl) (by kernel_rfl) (fun _ _ _ h => h) (Or.inl ⟨by rfl, ?_⟩) (by assumption) ?_
          case refine_2 => (intro w hSw; (try dsimp only at hSw); go_simp; try with_reducible rfl)
          simp only [Act.put, zGA, zG0, zGC, zSA, zS0, zSC]
          refine wpAnyH_take (i := 24) (v := undef) rfl (by kernel_rfl) (by kernel_rfl) (by kernel_rfl) (fun _ _ _ h => h) (Or.inr ⟨by rfl, rfl⟩) (by assumption) ?_
          simp only [Act.put, zGA, zG0, zGC, zSA, zS0, zSC]
          refine wpAnyH_take (i := 25) (v := undef) rfl (by kernel_rfl) (by kernel_rfl) (by kernel_rfl) (fun _ _ _ h => h) (Or.inr ⟨by rfl, rfl⟩) (by assumption) ?_
          simp only [Act.put, zGA, zG0, zGC, zSA, zS0, zSC]
          refine wpAnyH_take (i := 27) (v := undef) rfl (by kernel_rfl) (by kernel_rfl) (by kernel_rfl) (fun _ _ _ h => h) (Or.inr ⟨by rfl, rfl⟩) (by assumption) ?_
          simp only [Act.put, zGA, zG0, zGC, zSA, zS0, zSC]
          refine wpAnyH_take (i := 28) (v := undef) rfl (by kernel_rfl) (by kernel_rfl) (by kernel_rfl) (fun _ _ _ h => h) (Or.inr ⟨by rfl, rfl⟩) (by assumption) ?_
          simp only [Act.put, zGA, zG0, zGC, zSA, zS0, zSC]
          refine wpAnyH_ready (rs := [26]) (by kernel_rfl) (by simp) ?_
          refine AllReadyH.cons rfl (fun K hK => ?_) AllReadyH.nil
          refine cast (if_neg (Bool.eq_false_iff.1 (by rfl))).symm ?_
          refine hK.out _ _ (by assumption) (fun hHeld => ?_)
          clear hK K
          simp only [Act.put, zGA, zG0, zGC, zSA, zS0, zSC]
          refine wpAnyH_ready (rs := [29]) (by kernel_rfl) (by simp) ?_
          refine AllReadyH.cons rfl (fun K hK => ?_) AllReadyH.nil
          refine cast (if_neg (Bool.eq_false_iff.1 (by rfl))).symm ?_
          refine hK.out _ _ (by assumption) (fun hHeld => ?_)
          clear hK K
          simp only [Act.put, zGA, zG0, zGC, zSA, zS0, zSC]
          refine wpAnyH_take (i := 30) (v := undef) rfl (by kernel_rfl) (by kernel_rfl) (by kernel_rfl) (fun _ _ _ h => h) (Or.inr ⟨by rfl, rfl⟩) (by assumption) ?_
          simp only [Act.put, zGA, zG0, zGC, zSA, zS0, zSC]
          refine wpAnyH_take (i := 31) (v := ?_) rfl (by kernel_rfl) (by kernel_rfl) (by kernel_rfl) (fun _ _ _ h => h) (Or.inl ⟨by rfl, ?_⟩) (by assumption) ?_
          case refine_2 => (intro w hSw; (try dsimp only at hSw); go_simp; try with_reducible rfl)
          simp only [Act.put, zGA, zG0, zGC, zSA, zS0, zSC]
          refine wpAnyH_take (i := 32) (v := ?_) rfl (by kernel_rfl) (by kernel_rfl) (by kernel_rfl) (fun _ _ _ h => h) (Or.inl ⟨by rfl, ?_⟩) (by assumption) ?_
          case refine_2 => (intro w hSw; (try dsimp only at hSw); go_simp; try with_reducible rfl)
          simp only [Act.put, zGA, zG0, zGC, zSA, zS0, zSC]
          refine wpAnyH_take (i := 33) (v := ?_) rfl (by kernel_rfl) (by kernel_rfl) (by kernel_rfl) (fun _ _ _ h => h) (Or.inl ⟨by rfl, ?_⟩) (by assumption) ?_
          case refine_2 => (intro w hSw; (try dsimp only at hSw); go_simp; try with_reducible rfl)
          simp only [Act.put, zGA, zG0, zGC, zSA, zS0, zSC]
          refine wpAnyH_done (by kernel_rfl) ?_ _
          refine NoPanic.normal ?_
          have HBf := hidOf hHeld.2.2.2.2.2.2.2
          clear hHeld hS
          go_wp2
          go_ret
          exact ⟨rfl, HBf.out⟩
      | some h =>
        rw [hm] at hS
        have HPk := hidOf (HPh.out h hm)
        simp only [Option.isSome_some, Option.getD_some] at hS ⊢
        clear hm HPh
        cases P
        · go_wp2_with fail
          refine wp_region_noPanic ?_
          refine wp_region_held_drew (S := fun w' => OtS w0 w1.heap.size k n s af mf f ag mg g ah mh h w') (by kernel_rfl) (hS.keep (Below.refl _ _).drew) (fun hHeld => ?_)
          refine wpAnyH_take (i := 0) (v := ?_) rfl (by kernel_rfl) (by kernel_rfl) (by kernel_rfl) (fun _ _ _ h => h) (Or.inl ⟨by rfl, ?_⟩) (by assumption) ?_
          case refine_2 => (intro w hSw; (try dsimp only at hSw); go_simp; try with_reducible rfl)
          simp only [Act.put, List.getElem_toArray, List.getElem_cons_zero, List.setIfInBounds_toArray, List.set_cons_zero, List.set_cons_succ]
          refine wpAnyH_ready (rs := [1]) (by kernel_rfl) (by simp) ?_
          refine AllReadyH.cons rfl (fun K hK => ?_) AllReadyH.nil
          go_simp
          refine (implFilterOk_any _ mg cg g _ hHeld.2.2.2.2.1 (by omega)).mono ?_
          rintro e u1 ⟨rfl, hbu⟩
          rw [HOg.out]
          have hN := hHeld.keep hbu
          clear hbu
          go_wp2_with fail
          refine hK.out _ _ hN (fun hHeld => ?_)
          clear hK K
          clear hN
          refine wpAnyH_take (i := 2) (v := ?_) rfl (by kernel_rfl) (by kernel_rfl) (by kernel_rfl) (fun _ _ _ h => h) (Or.inl ⟨by rfl, ?_⟩) (by assumption) ?_
          case refine_2 => (intro w hSw; (try dsimp only at hSw); go_simp; try with_reducible rfl)
          simp only [Act.put, zGA, zG0, zGC, zSA, zS0, zSC]
          refine wpAnyH_take (i := 3) (v := ?_) rfl (by kernel_rfl) (by kernel_rfl) (by kernel_rfl) (fun _ _ _ h => h) (Or.inl ⟨by rfl, ?_⟩) (by assumption) ?_
          case refine_2 => (intro w hSw; (try dsimp only at hSw); go_simp; try with_reducible rfl)
          simp only [Act.put, zGA, zG0, zGC, zSA, zS0, zSC]
          refine wpAnyH_take (i := 4) (v := ?_) rfl (by kernel_rfl) (by kernel_rfl) (by kernel_rfl) (fun _ _ _ h => h) (Or.inl ⟨by rfl, ?_⟩) (by assumption) ?_
          case refine_2 => (intro w hSw; (try dsimp only at hSw); go_simp; try with_reducible rfl)
          simp only [Act.put, zGA, zG0, zGC, zSA, zS0, zSC]
          refine wpAnyH_take (i := 6) (v := ?_) rfl (by kernel_rfl) (by kernel_rfl) (by kernel_rfl) (fun _ _ _ h => h) (Or.inl ⟨by rfl, ?_⟩) (by assumption) ?_
          case refine_2 => (intro w hSw; (try dsimp only at hSw); go_simp; try with_reducible rfl)
          simp only [Act.put, zGA, zG0, zGC, zSA, zS0, zSC]
          refine wpAnyH_take (i := 7) (v := ?_) rfl (by kernel_rfl) (by kernel_rfl) (by kernel_rfl) (fun _ _ _ h => h) (Or.inl ⟨by rfl, ?_⟩) (by assumption) ?_
          case refine_2 => (intro w hSw; (try dsimp only at hSw); go_simp; try with_reducible rfl)
          simp only [Act.put, zGA, zG0, zGC, zSA, zS0, zSC]
          refine wpAnyH_ready (rs := [5]) (by kernel_rfl) (by simp) ?_
          refine AllReadyH.cons rfl (fun K hK => ?_) AllReadyH.nil
          go_simp
          refine (implPasses_any _ mg cg g k n s _ hHeld.2.2.2.2.1 (by omega) hs hHeld.2.2.2.2.2.2.1).mono ?_
          rintro e u1 ⟨rfl, hbu⟩
          rw [HPg.out]
          have hN := hHeld.keep hbu
          clear hbu
          go_wp2_with fail
          refine hK.out _ _ hN (fun hHeld => ?_)
          clear hK K
          clear hN
          refine wpAnyH_ready (rs := [8]) (by kernel_rfl) (by simp) ?_
          refine AllReadyH.cons rfl (fun K hK => ?_) AllReadyH.nil
          go_simp
          refine (implPasses_any _ mf cf f k n s _ hHeld.2.2.2.1 (by omega) hs hHeld.2.2.2.2.2.2.1).mono ?_
          rintro e u1 ⟨rfl, hbu⟩
          rw [HPf.out]
          have hN := hHeld.keep hbu
          clear hbu
          go_wp2_with fail
          refine hK.out _ _ hN (fun hHeld => ?_)
          clear hK K
          clear hN
          refine wpAnyH_take (i := 9) (v := ?_) rfl (by kernel_rfl) (by kernel_rfl) (by kernel_rfl) (fun _ _ _ h => h) (Or.inl ⟨by rfl, ?_⟩) (by assumption) ?_
          case refine_2 => (intro w hSw; (try dsimp only at hSw); go_simp; try with_reducible rfl)
          simp only [Act.put, zGA, zG0, zGC, zSA, zS0, zSC]
          refine wpAnyH_take (i := 10) (v := ?_) rfl (by kernel_rfl) (by kernel_rfl) (by kernel_rfl) (fun _ _ _ h => h) (Or.inl ⟨by rfl, ?_⟩) (by assumption) ?_
          case refine_2 => (intro w hSw; (try dsimp only at hSw); go_simp; try with_reducible rfl)
          simp only [Act.put, zGA, zG0, zGC, zSA, zS0, zSC]
          refine wpAnyH_take (i := 11) (v := ?_) rfl (by kernel_rfl) (by kernel_rfl) (by kernel_rfl) (fun _ _ _ h => h) (Or.inl ⟨by rfl, ?_⟩) (by assumption) ?_
          case refine_2 => (intro w hSw; (try dsimp only at hSw); go_simp; try with_reducible rfl)
          simp only [Act.put, zGA, zG0, zGC, zSA, zS0, zSC]
          refine wpAnyH_take (i := 12) (v := ?_) rfl (by kernel_rfl) (by kernel_rfl) (by kernel_rfl) (fun _ _ _ h => h) (Or.inl ⟨by rfl, ?_⟩) (by assumption) ?_
          case refine_2 => (intro w hSw; (try dsimp only at hSw); go_simp; try with_reducible rfl)
          simp only [Act.put, zGA, zG0, zGC, zSA, zS0, zSC]
          refine wpAnyH_take (i := 13) (v := ?_) rfl (by kernel_rfl) (by kernel_rfl) (by kernel_rfl) (fun _ _ _ h => h) (Or.inl ⟨by rfl, ?_⟩) (by assumption) ?_
          case refine_2 => (intro w hSw; (try dsimp only at hSw); go_simp; try with_reducible rfl)
          simp only [Act.put, zGA, zG0, zGC, zSA, zS0, zSC]
          refine wpAnyH_take (i := 15) (v := ?_) rfl (by kernel_rfl) (by kernel_rfl) (by kernel_rfl) (fun _ _ _ h => h) (Or.inl ⟨by rfl, ?_⟩) (by assumption) ?_
          case refine_2 => (intro w hSw; (try dsimp only at hSw); go_simp; try with_reducible rfl)
          simp only [Act.put, zGA, zG0, zGC, zSA, zS0, zSC]
          refine wpAnyH_take (i := 16) (v := ?_) rfl (by kernel_rfl) (by kernel_rfl) (by kernel_rfl) (fun _ _ _ h => h) (Or.inl ⟨by rfl, ?_⟩) (by assumption) ?_
          case refine_2 => (intro w hSw; (try dsimp only at hSw); go_simp; try with_reducible rfl)
          simp only [Act.put, zGA, zG0, zGC, zSA, zS0, zSC]
          refine wpAnyH_ready (rs := [14]) (by kernel_rfl) (by simp) ?_
          refine AllReadyH.cons rfl (fun K hK => ?_) AllReadyH.nil
          go_simp
          refine (implPasses_any _ mf cf f k n s _ hHeld.2.2.2.1 (by omega) hs hHeld.2.2.2.2.2.2.1).mono ?_
          rintro e u1 ⟨rfl, hbu⟩
          rw [HPf.out]
          have hN := hHeld.keep hbu
          clear hbu
          go_wp2_with fail
          refine hK.out _ _ hN (fun hHeld => ?_)
          clear hK K
          clear hN
          refine wpAnyH_ready (rs := [17]) (by kernel_rfl) (by simp) ?_
          refine AllReadyH.cons rfl (fun K hK => ?_) AllReadyH.nil
          go_simp
          refine (specPasses_any _ mf cf f k n s _ hHeld.2.2.2.1 (by omega) hs).mono ?_
          rintro e u1 ⟨rfl, hbu⟩
          rw [HPf.out]
          have hN := hHeld.keep hbu
          clear hbu
          go_wp2_with fail
          refine hK.out _ _ hN (fun hHeld => ?_)
          clear hK K
          clear hN
          refine wpAnyH_take (i := 18) (v := ?_) rfl (by kernel_rfl) (by kernel_rfl) (by kernel_rfl) (fun _ _ _ h => h) (Or.inl ⟨by rfl, ?_⟩) (by assumption) ?_
          case refine_2 => (intro w hSw; (try dsimp only at hSw); go_simp; try with_reducible rfl)
          simp only [Act.put, zGA, zG0, zGC, zSA, zS0, zSC]
          refine wpAnyH_take (i := 19) (v := ?_) rfl (by kernel_rfl) (by kernel_rfl) (by kernel_rfl) (fun _ _ _ h => h) (Or.inl ⟨by rfl, ?_⟩) (by assumption) ?_
          case refine_2 => (intro w hSw; (try dsimp only at hSw); go_simp; try with_reducible rfl)
          simp only [Act.put, zGA, zG0, zGC, zSA, zS0, zSC]
          refine wpAnyH_take (i := 20) (v := ?_) rfl (by kernel_rfl) (by kernel_rfl) (by kernel_rfl) (fun _ _ _ h => h) (Or.inl ⟨by rfl, ?_⟩) (by assumption) ?_
          case refine_2 => (intro w hSw; (try dsimp only at hSw); go_simp; try with_reducible rfl)
          simp only [Act.put, zGA, zG0, zGC, zSA, zS0, zSC]
          refine wpAnyH_take (i := 21) (v := ?_) rfl (by kernel_rfl) (by kernel_rfl) (by kernel_rfl) (fun _ _ _ h => h) (Or.inl ⟨by rfl, ?_⟩) (by assumption) ?_
          case refine_2 => (intro w hSw; (try dsimp only at hSw); go_simp; try with_reducible rfl)
          simp only [Act.put, zGA, zG0, zGC, zSA, zS0, zSC]
          refine wpAnyH_take (i := 22) (v := ?_) rfl (by kernel_rfl) (by kernel_rfl) (by kernel_rfl) (fun _ _ _ h => h) (Or.inl ⟨by rfl, ?_⟩) (by assumption) ?_
          case refine_2 => (intro w hSw; (try dsimp only at hSw); go_simp; try with_reducible rfl)
          simp only [Act.put, zGA, zG0, zGC, zSA, zS0, zSC]
          refine wpAnyH_take (i := 23) (v := ?_) rfl (by kernel_rfl) (by kernel_rfl) (by kernel_rfl) (fun _ _ _ h => h) (Or.inl ⟨by rfl, ?_⟩) (by assumption) ?_
          case refine_2 => (intro w hSw; (try dsimp only at hSw); go_simp; try with_reducible rfl)
          simp only [Act.put, zGA, zG0, zGC, zSA, zS0, zSC]
          refine wpAnyH_take (i := 24) (v := ?_) rfl (by kernel_rfl) (by kernel_rfl) (by kernel_rfl) (fun _ _ _ h => h) (Or.inl ⟨by rfl, ?_⟩) (by assumption) ?_
          case refine_2 => (intro w hSw; (try dsimp only at hSw); go_simp; try with_reducible rfl)
          simp only [Act.put, zGA, zG0, zGC, zSA, zS0, zSC]
          refine wpAnyH_take (i := 25) (v := ?_) rfl (by kernel_rfl) (by kernel_rfl) (by kernel_rfl) (fun _ _ _ h => h) (Or.inl ⟨by rfl, ?_⟩) (by assumption) ?_
          case refine_2 => (intro w hSw; (try dsimp only at hSw); go_simp; try with_reducible rfl)
          simp only [Act.put, zGA, zG0, zGC, zSA, zS0, zSC]
          refine wpAnyH_take (i := 27) (v := ?_) rfl (by kernel_rfl) (by kernel_rfl) (by kernel_rfl) (fun _ _ _ h => h) (Or.inl ⟨by rfl, ?_⟩) (by assumption) ?_
          case refine_2 => (intro w hSw; (try dsimp only at hSw); go_simp; try with_reducible rfl)
          simp only [Act.put, zGA, zG0, zGC, zSA, zS0, zSC]
          refine wpAnyH_take (i := 28) (v := ?_) rfl (by kernel_rfl) (by kernel_rfl) (by kernel_rfl) (fun _ _ _ h => h) (Or.inl ⟨by rfl, ?_⟩) (by assumption) ?_
          case refine_2 => (intro w hSw; (try dsimp only at hSw); go_simp; try with_reducible rfl)
          simp only [Act.put, zGA, zG0, zGC, zSA, zS0, zSC]
          refine wpAnyH_ready (rs := [26]) (by kernel_rfl) (by simp) ?_
          refine AllReadyH.cons rfl (fun K hK => ?_) AllReadyH.nil
          go_simp
          refine (implPasses_any _ mh ch h k n s _ hHeld.2.2.2.2.2.1 (by omega) hs hHeld.2.2.2.2.2.2.1).mono ?_
          rintro e u1 ⟨rfl, hbu⟩
          rw [HPk.out]
          have hN := hHeld.keep hbu
          clear hbu
          go_wp2_with fail
          refine hK.out _ _ hN (fun hHeld => ?_)
          clear hK K
          clear hN
          refine wpAnyH_ready (rs := [29]) (by kernel_rfl) (by simp) ?_
          refine AllReadyH.cons rfl (fun K hK => ?_) AllReadyH.nil
          go_simp
          refine (specPasses_any _ mf cf f k n s _ hHeld.2.2.2.1 (by omega) hs).mono ?_
          rintro e u1 ⟨rfl, hbu⟩
          rw [HPf.out]
          have hN := hHeld.keep hbu
          clear hbu
          go_wp2_with fail
          refine hK.out _ _ hN (fun hHeld => ?_)
          clear hK K
          clear hN
          refine wpAnyH_take (i := 30) (v := ?_) rfl (by kernel_rfl) (by kernel_rfl) (by kernel_rfl) (fun _ _ _ h => h) (Or.inl ⟨by rfl, ?_⟩) (by assumption) ?_
          case refine_2 => (intro w hSw; (try dsimp only at hSw); go_simp; try with_reducible rfl)
          simp only [Act.put, zGA, zG0, zGC, zSA, zS0, zSC]
          refine wpAnyH_take (i := 31) (v := ?_) rfl (by kernel_rfl) (by kernel_rfl) (by kernel_rfl) (fun _ _ _ h => h) (Or.inl ⟨by rfl, ?_⟩) (by assumption) ?_
          case refine_2 => (intro w hSw; (try dsimp only at hSw); go_simp; try with_reducible rfl)
          simp only [Act.put, zGA, zG0, zGC, zSA, zS0, zSC]
          refine wpAnyH_take (i := 32) (v := ?_) rfl (by kernel_rfl) (by kernel_rfl) (by kernel_rfl) (fun _ _ _ h => h) (Or.inl ⟨by rfl, ?_⟩) (by assumption) ?_
          case refine_2 => (intro w hSw; (try dsimp only at hSw); go_simp; try with_reducible rfl)
          simp only [Act.put, zGA, zG0, zGC, zSA, zS0, zSC]
          refine wpAnyH_take (i := 33) (v := ?_) rfl (by kernel_rfl) (by kernel_rfl) (by kernel_rfl) (fun _ _ _ h => h) (Or.inl ⟨by rfl, ?_⟩) (by assumption) ?_
          case refine_2 => (intro w hSw; (try dsimp only at hSw); go_simp; try with_reducible rfl)
          simp only [Act.put, zGA, zG0, zGC, zSA, zS0, zSC]
          refine wpAnyH_done (by kernel_rfl) ?_ _
          refine NoPanic.normal ?_
          have HBf := hidOf hHeld.2.2.2.2.2.2.2
          clear hHeld hS
          go_wp2
          go_ret
          exact ⟨rfl, HBf.out⟩
        · go_wp2_with fail
          refine wp_region_noPanic ?_
          refine wp_region_held_drew (S := fun w' => OtS w0 w1.heap.size k n s af mf f ag mg g ah mh h w') (by kernel_rfl) (hS.keep (Below.refl _ _).drew) (fun hHeld => ?_)
          refine wpAnyH_take (i := 0) (v := ?_) rfl (by kernel_rfl) (by kernel_rfl) (by kernel_rfl) (fun _ _ _ h => h) (Or.inl ⟨by rfl, ?_⟩) (by assumption) ?_
          case refine_2 => (intro w hSw; (try dsimp only at hSw); go_simp; try with_reducible rfl)
          simp only [Act.put, List.getElem_toArray, List.getElem_cons_zero, List.setIfInBounds_toArray, List.set_cons_zero, List.set_cons_succ]
          refine wpAnyH_ready (rs := [1]) (by kernel_rfl) (by simp) ?_
          refine AllReadyH.cons rfl (fun K hK => ?_) AllReadyH.nil
          go_simp
          refine (implFilterOk_any _ mg cg g _ hHeld.2.2.2.2.1 (by omega)).mono ?_
          rintro e u1 ⟨rfl, hbu⟩
          rw [HOg.out]
          have hN := hHeld.keep hbu
          clear hbu
          go_wp2_with fail
          refine hK.out _ _ hN (fun hHeld => ?_)
          clear hK K
          clear hN
          refine wpAnyH_take (i := 2) (v := ?_) rfl (by kernel_rfl) (by kernel_rfl) (by kernel_rfl) (fun _ _ _ h => h) (Or.inl ⟨by rfl, ?_⟩) (by assumption) ?_
          case refine_2 => (intro w hSw; (try dsimp only at hSw); go_simp; try with_reducible rfl)
          simp only [Act.put, zGA, zG0, zGC, zSA, zS0, zSC]
          refine wpAnyH_take (i := 3) (v := ?_) rfl (by kernel_rfl) (by kernel_rfl) (by kernel_rfl) (fun _ _ _ h => h) (Or.inl ⟨by rfl, ?_⟩) (by assumption) ?_
          case refine_2 => (intro w hSw; (try dsimp only at hSw); go_simp; try with_reducible rfl)
          simp only [Act.put, zGA, zG0, zGC, zSA, zS0, zSC]
          refine wpAnyH_take (i := 4) (v := ?_) rfl (by kernel_rfl) (by kernel_rfl) (by kernel_rfl) (fun _ _ _ h => h) (Or.inl ⟨by rfl, ?_⟩) (by assumption) ?_
          case refine_2 => (intro w hSw; (try dsimp only at hSw); go_simp; try with_reducible rfl)
          simp only [Act.put, zGA, zG0, zGC, zSA, zS0, zSC]
          refine wpAnyH_take (i := 6) (v := ?_) rfl (by kernel_rfl) (by kernel_rfl) (by kernel_rfl) (fun _ _ _ h => h) (Or.inl ⟨by rfl, ?_⟩) (by assumption) ?_
          case refine_2 => (intro w hSw; (try dsimp only at hSw); go_simp; try with_reducible rfl)
          simp only [Act.put, zGA, zG0, zGC, zSA, zS0, zSC]
          refine wpAnyH_take (i := 7) (v := ?_) rfl (by kernel_rfl) (by kernel_rfl) (by kernel_rfl) (fun _ _ _ h => h) (Or.inl ⟨by rfl, ?_⟩) (by assumption) ?_
          case refine_2 => (intro w hSw; (try dsimp only at hSw); go_simp; try with_reducible rfl)
          simp only [Act.put, zGA, zG0, zGC, zSA, zS0, zSC]
          refine wpAnyH_ready (rs := [5]) (by kernel_rfl) (by simp) ?_
          refine AllReadyH.cons rfl (fun K hK => ?_) AllReadyH.nil
          go_simp
          refine (implPasses_any _ mg cg g k n s _ hHeld.2.2.2.2.1 (by omega) hs hHeld.2.2.2.2.2.2.1).mono ?_
          rintro e u1 ⟨rfl, hbu⟩
          rw [HPg.out]
          have hN := hHeld.keep hbu
          clear hbu
          go_wp2_with fail
          refine hK.out _ _ hN (fun hHeld => ?_)
          clear hK K
          clear hN
          refine wpAnyH_ready (rs := [8]) (by kernel_rfl) (by simp) ?_
          refine AllReadyH.cons rfl (fun K hK => ?_) AllReadyH.nil
          go_simp
          refine (implPasses_any _ mf cf f k n s _ hHeld.2.2.2.1 (by omega) hs hHeld.2.2.2.2.2.2.1).mono ?_
          rintro e u1 ⟨rfl, hbu⟩
          rw [HPf.out]
          have hN := hHeld.keep hbu
          clear hbu
          go_wp2_with fail
          refine hK.out _ _ hN (fun hHeld => ?_)
          clear hK K
          clear hN
          refine wpAnyH_take (i := 9) (v := ?_) rfl (by kernel_rfl) (by kernel_rfl) (by kernel_rfl) (fun _ _ _ h => h) (Or.inl ⟨by rfl, ?_⟩) (by assumption) ?_
          case refine_2 => (intro w hSw; (try dsimp only at hSw); go_simp; try with_reducible rfl)
          simp only [Act.put, zGA, zG0, zGC, zSA, zS0, zSC]
          refine wpAnyH_take (i := 10) (v := ?_) rfl (by kernel_rfl) (by kernel_rfl) (by kernel_rfl) (fun _ _ _ h => h) (Or.inl ⟨by rfl, ?_⟩) (by assumption) ?_
          case refine_2 => (intro w hSw; (try dsimp only at hSw); go_simp; try with_reducible rfl)
          simp only [Act.put, zGA, zG0, zGC, zSA, zS0, zSC]
          refine wpAnyH_take (i := 11) (v := ?_) rfl (by kernel_rfl) (by kernel_rfl) (by kernel_rfl) (fun _ _ _ h => h) (Or.inl ⟨by rfl, ?_⟩) (by assumption) ?_
          case refine_2 => (intro w hSw; (try dsimp only at hSw); go_simp; try with_reducible rfl)
          simp only [Act.put, zGA, zG0, zGC, zSA, zS0, zSC]
          refine wpAnyH_take (i := 12) (v := ?_) rfl (by kernel_rfl) (by kernel_rfl) (by kernel_rfl) (fun _ _ _ h => h) (Or.inl ⟨by rfl, ?_⟩) (by assumption) ?_
          case refine_2 => (intro w hSw; (try dsimp only at hSw); go_simp; try with_reducible rfl)
          simp only [Act.put, zGA, zG0, zGC, zSA, zS0, zSC]
          refine wpAnyH_take (i := 13) (v := ?_) rfl (by kernel_rfl) (by kernel_rfl) (by kernel_rfl) (fun _ _ _ h => h) (Or.inl ⟨by rfl, ?_⟩) (by assumption) ?_
          case refine_2 => (intro w hSw; (try dsimp only at hSw); go_simp; try with_reducible rfl)
          simp only [Act.put, zGA, zG0, zGC, zSA, zS0, zSC]
          refine wpAnyH_take (i := 15) (v := ?_) rfl (by kernel_rfl) (by kernel_rfl) (by kernel_rfl) (fun _ _ _ h => h) (Or.inl ⟨by rfl, ?_⟩) (by assumption) ?_
          case refine_2 => (intro w hSw; (try dsimp only at hSw); go_simp; try with_reducible rfl)
          simp only [Act.put, zGA, zG0, zGC, zSA, zS0, zSC]
          refine wpAnyH_take (i := 16) (v := ?_) rfl (by kernel_rfl) (by kernel_rfl) (by kernel_rfl) (fun _ _ _ h => h) (Or.inl ⟨by rfl, ?_⟩) (by assumption) ?_
          case refine_2 => (intro w hSw; (try dsimp only at hSw); go_simp; try with_reducible rfl)
          simp only [Act.put, zGA, zG0, zGC, zSA, zS0, zSC]
          refine wpAnyH_ready (rs := [14]) (by kernel_rfl) (by simp) ?_
          refine AllReadyH.cons rfl (fun K hK => ?_) AllReadyH.nil
          go_simp
          refine (implPasses_any _ mf cf f k n s _ hHeld.2.2.2.1 (by omega) hs hHeld.2.2.2.2.2.2.1).mono ?_
          rintro e u1 ⟨rfl, hbu⟩
          rw [HPf.out]
          have hN := hHeld.keep hbu
          clear hbu
          go_wp2_with fail
          refine hK.out _ _ hN (fun hHeld => ?_)
          clear hK K
          clear hN
          refine wpAnyH_ready (rs := [17]) (by kernel_rfl) (by simp) ?_
          refine AllReadyH.cons rfl (fun K hK => ?_) AllReadyH.nil
          go_simp
          refine (specPasses_any _ mf cf f k n s _ hHeld.2.2.2.1 (by omega) hs).mono ?_
          rintro e u1 ⟨rfl, hbu⟩
          rw [HPf.out]
          have hN := hHeld.keep hbu
          clear hbu
          go_wp2_with fail
          refine hK.out _ _ hN (fun hHeld => ?_)
          clear hK K
          clear hN
          refine wpAnyH_take (i := 18) (v := ?_) rfl (by kernel_rfl) (by kernel_rfl) (by kernel_rfl) (fun _ _ _ h => h) (Or.inl ⟨by rfl, ?_⟩) (by assumption) ?_
          case refine_2 => (intro w hSw; (try dsimp only at hSw); go_simp; try with_reducible rfl)
          simp only [Act.put, zGA, zG0, zGC, zSA, zS0, zSC]
          refine wpAnyH_take (i := 19) (v := ?_) rfl (by kernel_rfl) (by kernel_rfl) (by kernel_rfl) (fun _ _ _ h => h) (Or.inl ⟨by rfl, ?_⟩) (by assumption) ?_
          case refine_2 => (intro w hSw; (try dsimp only at hSw); go_simp; try with_reducible rfl)
          simp only [Act.put, zGA, zG0, zGC, zSA, zS0, zSC]
          refine wpAnyH_take (i := 20) (v := ?_) rfl (by kernel_rfl) (by kernel_rfl) (by kernel_rfl) (fun _ _ _ h => h) (Or.inl ⟨by rfl, ?_⟩) (by assumption) ?_
          case refine_2 => (intro w hSw; (try dsimp only at hSw); go_simp; try with_reducible rfl)
          simp only [Act.put, zGA, zG0, zGC, zSA, zS0, zSC]
          refine wpAnyH_take (i := 21) (v := ?_) rfl (by kernel_rfl) (by kernel_rfl) (by kernel_rfl) (fun _ _ _ h => h) (Or.inl ⟨by rfl, ?_⟩) (by assumption) ?_
          case refine_2 => (intro w hSw; (try dsimp only at hSw); go_simp; try with_reducible rfl)
          simp only [Act.put, zGA, zG0, zGC, zSA, zS0, zSC]
          refine wpAnyH_take (i := 22) (v := ?_) rfl (by kernel_rfl) (by kernel_rfl) (by kernel_rfl) (fun _ _ _ h => h) (Or.inl ⟨by rfl, ?_⟩) (by assumption) ?_
          case refine_2 => (intro w hSw; (try dsimp only at hSw); go_simp; try with_reducible rfl)
          simp only [Act.put, zGA, zG0, zGC, zSA, zS0, zSC]
          refine wpAnyH_take (i := 23) (v := ?_) rfl (by kernel_rfl) (by kernel_rfl) (by kernel_rfl) (fun _ _ _ h => h) (Or.inl ⟨by rfl, ?_⟩) (by assumption) ?_
          case refine_2 => (intro w hSw; (try dsimp only at hSw); go_simp; try with_reducible rfl)
          simp only [Act.put, zGA, zG0, zGC, zSA, zS0, zSC]
          refine wpAnyH_take (i := 24) (v := ?_) rfl (by kernel_rfl) (by kernel_rfl) (by kernel_rfl) (fun _ _ _ h => h) (Or.inl ⟨by rfl, ?_⟩) (by assumption) ?_
          case refine_2 => (intro w hSw; (try dsimp only at hSw); go_simp; try with_reducible rfl)
          simp only [Act.put, zGA, zG0, zGC, zSA, zS0, zSC]
          refine wpAnyH_take (i := 25) (v := ?_) rfl (by kernel_rfl) (by kernel_rfl) (by kernel_rfl) (fun _ _ _ h => h) (Or.inl ⟨by rfl, ?_⟩) (by assumption) ?_
          case refine_2 => (intro w hSw; (try dsimp only at hSw); go_simp; try with_reducible rfl)
          simp only [Act.put, zGA, zG0, zGC, zSA, zS0, zSC]
          refine wpAnyH_take (i := 27) (v := ?_) rfl (by kernel_rfl) (by kernel_rfl) (by kernel_rfl) (fun _ _ _ h => h) (Or.inl ⟨by rfl, ?_⟩) (by assumption) ?_
          case refine_2 => (intro w hSw; (try dsimp only at hSw); go_simp; try with_reducible rfl)
          simp only [Act.put, zGA, zG0, zGC, zSA, zS0, zSC]
          refine wpAnyH_take (i := 28) (v := ?_) rfl (by kernel_rfl) (by kernel_rfl) (by kernel_rfl) (fun _ _ _ h => h) (Or.inl ⟨by rfl, ?_⟩) (by assumption) ?_
          case refine_2 => (intro w hSw; (try dsimp only at hSw); go_simp; try with_reducible rfl)
          simp only [Act.put, zGA, zG0, zGC, zSA, zS0, zSC]
          refine wpAnyH_ready (rs := [26]) (by kernel_rfl) (by simp) ?_
          refine AllReadyH.cons rfl (fun K hK => ?_) AllReadyH.nil
          go_simp
          refine (implPasses_any _ mh ch h k n s _ hHeld.2.2.2.2.2.1 (by omega) hs hHeld.2.2.2.2.2.2.1).mono ?_
          rintro e u1 ⟨rfl, hbu⟩
          rw [HPk.out]
          have hN := hHeld.keep hbu
          clear hbu
          go_wp2_with fail
          refine hK.out _ _ hN (fun hHeld => ?_)
          clear hK K
          clear hN
          refine wpAnyH_ready (rs := [29]) (by kernel_rfl) (by simp) ?_
          refine AllReadyH.cons rfl (fun K hK => ?_) AllReadyH.nil
          go_simp
          refine (specPasses_any _ mf cf f k n s _ hHeld.2.2.2.1 (by omega) hs).mono ?_
          rintro e u1 ⟨rfl, hbu⟩
          rw [HPf.out]
          have hN := hHeld.keep hbu
          clear hbu
          go_wp2_with fail
          refine hK.out _ _ hN (fun hHeld => ?_)
          clear hK K
          clear hN
          refine wpAnyH_take (i := 30) (v := ?_) rfl (by kernel_rfl) (by kernel_rfl) (by kernel_rfl) (fun _ _ _ h => h) (Or.inl ⟨by rfl, ?_⟩) (by assumption) ?_
          case refine_2 => (intro w hSw; (try dsimp only at hSw); go_simp; try with_reducible rfl)
          simp only [Act.put, zGA, zG0, zGC, zSA, zS0, zSC]
          refine wpAnyH_take (i := 31) (v := ?_) rfl (by kernel_rfl) (by kernel_rfl) (by kernel_rfl) (fun _ _ _ h => h) (Or.inl ⟨by rfl, ?_⟩) (by assumption) ?_
          case refine_2 => (intro w hSw; (try dsimp only at hSw); go_simp; try with_reducible rfl)
          simp only [Act.put, zGA, zG0, zGC, zSA, zS0, zSC]
          refine wpAnyH_take (i := 32) (v := ?_) rfl (by kernel_rfl) (by kernel_rfl) (by kernel_rfl) (fun _ _ _ h => h) (Or.inl ⟨by rfl, ?_⟩) (by assumption) ?_
          case refine_2 => (intro w hSw; (try dsimp only at hSw); go_simp; try with_reducible rfl)
          simp only [Act.put, zGA, zG0, zGC, zSA, zS0, zSC]
          refine wpAnyH_take (i := 33) (v := ?_) rfl (by kernel_rfl) (by kernel_rfl) (by kernel_rfl) (fun _ _ _ h => h) (Or.inl ⟨by rfl, ?_⟩) (by assumption) ?_
          case refine_2 => (intro w hSw; (try dsimp only at hSw); go_simp; try with_reducible rfl)
          simp only [Act.put, zGA, zG0, zGC, zSA, zS0, zSC]
          refine wpAnyH_done (by kernel_rfl) ?_ _
          refine NoPanic.normal ?_
          have HBf := hidOf hHeld.2.2.2.2.2.2.2
          clear hHeld hS
          go_wp2
          go_ret
          exact ⟨rfl, HBf.out⟩
theorem lawOther_any (a : Option Addr) (len cap : Nat) (w : World) (hB : len ≤ 1048576 → Bytes w.heap.size w a len cap) (hG : GOk w) :
    Calls Try.prog 3 #[.slice a len cap] w fun e w' => e = .returned (.bool true) ∧ Below w.heap.size w w' := by
  by_cases hl : len ≤ 1048576
  · exact other_small a len cap w (hB hl) hl hG
  · exact other_big a len cap w (by omega)
end Go.Proofs.Ytedaleonmcllkaa
