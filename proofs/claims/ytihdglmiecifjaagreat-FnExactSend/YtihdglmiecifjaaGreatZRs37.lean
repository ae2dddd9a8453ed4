/-
  Walks of the specification's filters: what a filter leaves of a messag
-/
import Derived.Test.YtihdglmiecifjaaGreatZRs35
namespace Go.Proofs.YtihdglmiecifjaaGreat
open Go.RowKit Pl Il
set_option maxRecDepth 100000 in
set_option maxHeartbeats 8000000 in
theorem l8Left_any (a : Option Addr) (N cap : Nat) (ts : List Tm) (k n : Int) (s : ByteArray) (w : World) (hI : TmAt w a N ts) (hok : okF ts = true) (hm : okB k n s = true) :
  Calls Tryz.prog 85 #[.slice a N cap, .agg #[.int .i64 k, .int .i64 n, .string s]] w fun e w' => e = .returned (.bool (passP ts (bdOf k n s))) ∧ Below w.heap.size w w' := by
 have hlen := hI.len
 have hN : N ≤ 12 := by rw [← hlen]; simp [okF] at hok; exact hok.1
 obtain ⟨W0, hW0⟩ : ∃ W, W = w.alloc (.cells #[.int .i64 k, .int .i64 n, .string s] 30) := ⟨_, rfl⟩
 have b0 : Below w.heap.size w W0 := by rw [hW0]; exact bl_alloc (Below.refl _ _) _
 have x0 : Box3 w.heap.size (.int .i64 k) (.int .i64 n) (.string s) W0 := by rw [hW0]; exact Box3.new w _ _ _ _
 have sW : W0.heap.size = w.heap.size + 1 := by rw [hW0]; simp
 obtain ⟨W1, hW1⟩ : ∃ W, W = W0.alloc (.cells #[] 4) := ⟨_, rfl⟩
 have b1 : Below W0.heap.size W0 W1 := by rw [hW1]; exact bl_alloc (Below.refl _ _) _
 have oW : W1.ownsRow W0.heap.size 4 1 (.slice (some ⟨W0.heap.size, 0, none⟩) 0 0) 0 [] := by rw [hW1]; exact World.ownsRow_made W0 #[] 0 (Nat.le_refl _) (by unfold maxLen; omega) (by simp)
 have HR := hidOf (hI.keep b0).row
 have HX := hidOf x0
 have HB0 := hidOf b0
 have HO := hidOf (And.intro oW b1)
 have HOK := hidOf hok
 have HM := hidOf hm
 have HL := hidOf hlen
 have HSW := hidOf sW
 generalize hbd : bdOf k n s = bd
 have HBD := hidOf hbd
 clear hI b0 x0 b1 oW hok hm hlen hbd sW
 go_enter Tryz.func85, Tryz.ntmps85
 go_wp2_with fail
 rw [← hW0, ← hW1, ← HSW.out]
 clear hW0 hW1
 go_loopw [5, 6] (fun v i wr => ∃ (j m : Nat) (g c : Nat), j ≤ N ∧ i = .int .i64 j ∧ v = .slice (some ⟨g, 0, none⟩) m c ∧ goN (ts.take j) 0 = some m ∧ wr.ownsRow W0.heap.size 4 1 (.slice (some ⟨g, 0, none⟩) m c) m (bitsV (runP (ts.take j)) bd) ∧ Below W0.heap.size W0 wr) (fun _ i _ => N - (intOf i).toNat)
 case atStart => exact ⟨0, 0, _, _, Nat.zero_le _, rfl, rfl, rfl, HO.out.1, HO.out.2⟩
 case round =>
  rename_i wr
  obtain ⟨j, m, g, c, hj, rfl, rfl, hgo, ho, hB⟩ := hrel
  have hw0 : w.heap.size < W0.heap.size := by rw [HSW.out]; omega
  have hpl := runP_len (f := ts) (k := j) (by rw [HL.out]; exact hj) hgo
  have hgc : W0.heap.size ≤ g ∧ g < wr.heap.size := ho.lt g rfl
  have hmc : m ≤ c := by
   obtain ⟨_, ⟨h0, _⟩ | ⟨g', cap', cur, hv, _, _, hc', _⟩⟩ := id ho
   ·cases h0
   ·cases hv; exact hc'
  clear HO
  by_cases hlt : j < N
  ·have hjl : j < ts.length := by rw [HL.out]; exact hlt
   obtain ⟨hok, hcn⟩ := okF_at HOK.out hjl hgo
   have hstep := goN_step hjl hgo hok hcn
   have hrun := runP_step hjl
   have hm12 : m ≤ 12 := by have := goN_le _ _ _ hgo; simp at this; omega
   obtain hr | ⟨b, off, rfl, hb, hcell⟩ := HR.out
   ·omega
   obtain ⟨q0, q1, q2⟩ := hcell j hlt
   obtain ⟨z, hz⟩ : ∃ z, qg ts j = z := ⟨_, rfl⟩
   rw [hz] at q0 q1 q2 hok hcn hstep hrun
   have hS0 : LeftS b (off + j * 3) w.heap.size z k n s W0 W0 := ⟨q0, q1, q2, HX.out.c0, HX.out.c1, HX.out.c2, Below.refl _ _⟩
   have hS := hS0.keep hB hb hw0
   obtain ⟨t0, t1, t2, y0, y1, y2, _⟩ := id hS
   have HGO := hidOf (And.intro hstep hrun)
   have Hz := hidOf hz
   clear hz hcell q0 q1 q2 hS0 hstep hrun
   obtain ⟨ps, hps⟩ : ∃ ps, runP (ts.take j) = ps := ⟨_, rfl⟩
   rw [hps] at ho hpl HGO
   by_cases h8 : z.1 = 8
   ·have hc1 : 1 ≤ m := by rw [h8] at hcn; have e : cntM 8 = 1 := rfl; omega
    obtain ⟨qs, p, rfl⟩ := pd_snoc (ps := ps) (by omega)
    have hql : m = qs.length + 1 := by rw [← hpl]; simp
    subst hql
    rw [bits_snoc] at ho
    have hx : wr.cell? ⟨g, qs.length, none⟩ = some (.bool (p bd)) := by rw [ho.cellAt qs.length (by omega)]; simp [bitsV]
    have hfx : ∀ o, wr.frozen? ⟨g, o, none⟩ = false := ho.frozenAt
    have ho2 := (ho.stored qs.length (.bool (!(p bd)))).1
    have e1 := set_snoc (l := bitsV qs bd) (x := .bool (p bd)) (y := .bool (!(p bd)))
    rw [bits_len] at e1
    rw [e1, ← step8 qs p bd h8] at ho2
    have hB2 : Below W0.heap.size W0 (wr.setCell ⟨g, qs.length, none⟩ (.bool (!(p bd)))) := hB.setCell (p := ⟨g, qs.length, none⟩) hgc.1 _
    have HO2 := hidOf (And.intro ho2 hB2)
    have e2 : ((qs.length + 1 : Nat) : Int) - 1 = (qs.length : Int) := by omega
    have hcz : cntM z.1 = 1 := by rw [h8]; rfl
    rw [hcz] at HGO
    rw [h8] at t0
    clear ho ho2 hB2 hB hS hcn hok h8 e1
    go_wp2
    go_roundw
    case rel => exact ⟨j + 1, qs.length + 1, g, c, by omega, by go_num, rfl, HGO.out.1, by rw [HGO.out.2]; exact HO2.out.1, HO2.out.2⟩
    case measure => simp [intOf]; omega
   by_cases h9 : z.1 = 9
   ·have hc1 : 2 ≤ m := by rw [h9] at hcn; have e : cntM 9 = 2 := rfl; omega
    obtain ⟨qs1, q, rfl⟩ := pd_snoc (ps := ps) (by omega)
    obtain ⟨qs, p, rfl⟩ := pd_snoc (ps := qs1) (by simp at hpl; omega)
    have hql : m = qs.length + 1 + 1 := by rw [← hpl]; simp
    subst hql
    rw [bits_snoc, bits_snoc] at ho
    have hx : wr.cell? ⟨g, qs.length, none⟩ = some (.bool (p bd)) := by rw [ho.cellAt qs.length (by omega)]; simp [bitsV]
    have hx2 : wr.cell? ⟨g, qs.length + 1, none⟩ = some (.bool (q bd)) := by rw [ho.cellAt (qs.length + 1) (by omega)]; simp [bitsV]
    have hfx : ∀ o, wr.frozen? ⟨g, o, none⟩ = false := ho.frozenAt
    have ho2 := (ho.stored qs.length (.bool (p bd && q bd))).1
    have e1 := set_snoc2 (l := bitsV qs bd) (x := .bool (p bd)) (z := .bool (q bd)) (y := .bool (p bd && q bd))
    rw [bits_len] at e1
    rw [e1, ← step9 qs p q bd h9] at ho2
    have hl3 : (bitsV (stepP z (qs ++ [p] ++ [q])) bd).length = (qs.length + 1) * 1 := by rw [step9 qs p q bd h9]; simp [bitsV]
    have ho3 := ownsRow_pop hl3 ho2
    have hB2 : Below W0.heap.size W0 (wr.setCell ⟨g, qs.length, none⟩ (.bool (p bd && q bd))) := hB.setCell (p := ⟨g, qs.length, none⟩) hgc.1 _
    have HO2 := hidOf (And.intro ho3 hB2)
    have e2 : ((qs.length + 1 + 1 : Nat) : Int) - 1 = ((qs.length + 1 : Nat) : Int) := by omega
    have e3 : ((qs.length + 1 + 1 : Nat) : Int) - 2 = (qs.length : Int) := by omega
    have hcz : cntM z.1 = 2 := by rw [h9]; rfl
    rw [hcz] at HGO
    rw [h9] at t0
    clear ho ho2 ho3 hB2 hB hS hcn hok h9 e1 hl3
    cases hpv : p bd
    all_goals rw [hpv] at hx HO2
    all_goals go_wp2
    all_goals go_roundw
    all_goals first
     | exact ⟨j + 1, qs.length + 1, g, c, by omega, by go_num, rfl, HGO.out.1, by rw [HGO.out.2]; exact HO2.out.1, HO2.out.2⟩
     | (simp [intOf]; omega)
   by_cases h10 : z.1 = 10
   ·have hc1 : 2 ≤ m := by rw [h10] at hcn; have e : cntM 10 = 2 := rfl; omega
    obtain ⟨qs1, q, rfl⟩ := pd_snoc (ps := ps) (by omega)
    obtain ⟨qs, p, rfl⟩ := pd_snoc (ps := qs1) (by simp at hpl; omega)
    have hql : m = qs.length + 1 + 1 := by rw [← hpl]; simp
    subst hql
    rw [bits_snoc, bits_snoc] at ho
    have hx : wr.cell? ⟨g, qs.length, none⟩ = some (.bool (p bd)) := by rw [ho.cellAt qs.length (by omega)]; simp [bitsV]
    have hx2 : wr.cell? ⟨g, qs.length + 1, none⟩ = some (.bool (q bd)) := by rw [ho.cellAt (qs.length + 1) (by omega)]; simp [bitsV]
    have hfx : ∀ o, wr.frozen? ⟨g, o, none⟩ = false := ho.frozenAt
    have ho2 := (ho.stored qs.length (.bool (p bd || q bd))).1
    have e1 := set_snoc2 (l := bitsV qs bd) (x := .bool (p bd)) (z := .bool (q bd)) (y := .bool (p bd || q bd))
    rw [bits_len] at e1
    rw [e1, ← step10 qs p q bd h10] at ho2
    have hl3 : (bitsV (stepP z (qs ++ [p] ++ [q])) bd).length = (qs.length + 1) * 1 := by rw [step10 qs p q bd h10]; simp [bitsV]
    have ho3 := ownsRow_pop hl3 ho2
    have hB2 : Below W0.heap.size W0 (wr.setCell ⟨g, qs.length, none⟩ (.bool (p bd || q bd))) := hB.setCell (p := ⟨g, qs.length, none⟩) hgc.1 _
    have HO2 := hidOf (And.intro ho3 hB2)
    have e2 : ((qs.length + 1 + 1 : Nat) : Int) - 1 = ((qs.length + 1 : Nat) : Int) := by omega
    have e3 : ((qs.length + 1 + 1 : Nat) : Int) - 2 = (qs.length : Int) := by omega
    have hcz : cntM z.1 = 2 := by rw [h10]; rfl
    rw [hcz] at HGO
    rw [h10] at t0
    clear ho ho2 ho3 hB2 hB hS hcn hok h10 e1 hl3
    cases hpv : p bd
    all_goals rw [hpv] at hx HO2
    all_goals go_wp2
    all_goals go_roundw
    all_goals first
     | exact ⟨j + 1, qs.length + 1, g, c, by omega, by go_num, rfl, HGO.out.1, by rw [HGO.out.2]; exact HO2.out.1, HO2.out.2⟩
     | (simp [intOf]; omega)
   have hc0 : cntM z.1 = 0 := by simp [cntM, h8, h9, h10]
   have e8 : (z.1 == 8) = false := by simp [h8]
   have e9 : (z.1 == 9) = false := by simp [h9]
   have e10 : (z.1 == 10) = false := by simp [h10]
   have HC := fun u => hidOf (l8Says_any z k n s u hok hc0 HM.out)
   rw [HBD.out] at HC
   rw [hc0] at HGO
   have HO1 := hidOf ho
   clear ho hok hcn h8 h9 h10
   go_wp2_with fail
   refine wp_region_noPanic ?_
   refine wp_region_held_drew (S := fun w' => LeftS b (off + j * 3) w.heap.size z k n s W0 w') (by kernel_rfl) (hS.keep (Below.refl _ _).drew hb hw0) (fun hHeld => ?_)
   refine tK 0 ?_ rfl (by kernel_rfl) (by rfl) ?_ (by assumption) (fun _ _ _ h => h) ?_
   case refine_2 => (intro w hSw; (try dsimp only at hSw); go_simp; try with_reducible rfl)
   simp only [Act.put, List.getElem_toArray, List.getElem_cons_zero, List.setIfInBounds_toArray, List.set_cons_zero, List.set_cons_succ]
   refine tK 1 ?_ rfl (by kernel_rfl) (by rfl) ?_ (by assumption) (fun _ _ _ h => h) ?_
   case refine_2 => (intro w hSw; (try dsimp only at hSw); go_simp; try with_reducible rfl)
   simp only [Act.put, zGA, zG0, zGC, zSA, zS0, zSC]
   refine tK 2 ?_ rfl (by kernel_rfl) (by rfl) ?_ (by assumption) (fun _ _ _ h => h) ?_
   case refine_2 => (intro w hSw; (try dsimp only at hSw); go_simp; try with_reducible rfl)
   simp only [Act.put, zGA, zG0, zGC, zSA, zS0, zSC]
   refine tK 3 ?_ rfl (by kernel_rfl) (by rfl) ?_ (by assumption) (fun _ _ _ h => h) ?_
   case refine_2 => (intro w hSw; (try dsimp only at hSw); go_simp; try with_reducible rfl)
   simp only [Act.put, zGA, zG0, zGC, zSA, zS0, zSC]
   refine tK 4 ?_ rfl (by kernel_rfl) (by rfl) ?_ (by assumption) (fun _ _ _ h => h) ?_
   case refine_2 => (intro w hSw; (try dsimp only at hSw); go_simp; try with_reducible rfl)
   simp only [Act.put, zGA, zG0, zGC, zSA, zS0, zSC]
   refine tK 5 ?_ rfl (by kernel_rfl) (by rfl) ?_ (by assumption) (fun _ _ _ h => h) ?_
   case refine_2 => (intro w hSw; (try dsimp only at hSw); go_simp; try with_reducible rfl)
   simp only [Act.put, zGA, zG0, zGC, zSA, zS0, zSC]
   refine wpAnyH_ready (rs := [6]) (by kernel_rfl) (by simp) ?_
   refine AllReadyH.cons rfl (fun K hK => ?_) AllReadyH.nil
   go_simp
   refine ((HC _).out).mono ?_
   rintro e w1 ⟨rfl, hb1⟩
   have hb1' : Below wr.heap.size wr w1 := (Below.refl _ _).drew.trans hb1
   have hS1 : LeftS b (off + j * 3) w.heap.size z k n s W0 w1 := hHeld.keep (hb1.mono hHeld.2.2.2.2.2.2.size) hb hw0
   have ho1 := rowB_keep HO1.out hb1'
   obtain ⟨g3, c3, w3, hr3, ho3, hg3⟩ := append_bit W0.heap.size m _ _ (leafP z bd) w1 ho1 hS1.2.2.2.2.2.2.size (by omega)
   have hB3 : Below W0.heap.size W0 w3 := hS1.2.2.2.2.2.2.grown hg3 hS1.2.2.2.2.2.2.size (fun q hq => (ho1.lt q hq).1)
   have hS3 : LeftS b (off + j * 3) w.heap.size z k n s W0 w3 := hS1.keep ((Below.refl W0.heap.size w1).grown hg3 hS1.2.2.2.2.2.2.size (fun q hq => (ho1.lt q hq).1)) hb hw0
   have hSa : LeftS b (off + j * 3) w.heap.size z k n s W0 (w1.alloc (.cells #[.bool (leafP z bd)] 4)) := hS1.keep ((Below.refl W0.heap.size w1).alloc hS1.2.2.2.2.2.2.size _) hb hw0
   rw [← bits_snoc, ← stepP_0 hc0] at ho3
   have HO3 := hidOf (And.intro ho3 hB3)
   go_wp2_with fail
   refine hK.out _ _ hS1 (fun hHeld => ?_)
   clear hK K
   refine wpAnyH_ready (rs := [7]) (by kernel_rfl) (by simp) ?_
   refine AllReadyH.cons rfl (fun K hK => ?_) AllReadyH.nil
   go_simp
   refine hK.out _ _ hSa (fun hHeld => ?_)
   clear hK K
   refine wpAnyH_ready (rs := [8]) (by kernel_rfl) (by simp) ?_
   refine AllReadyH.cons rfl (fun K hK => ?_) AllReadyH.nil
   refine fstep_append_run (by rfl) _ _ 162 (by rfl) (.slice (some ⟨g, 0, none⟩) m c) (.slice (some ⟨w1.heap.size, 0, none⟩) 1 1) _ (by rfl) (by rfl) hr3 ?_
   refine hK.out _ _ hS3 (fun hHeld => ?_)
   clear hK K
   simp only [Act.put, zGA, zG0, zGC, zSA, zS0, zSC]
   refine tK 9 ?_ rfl (by kernel_rfl) (by rfl) ?_ (by assumption) (fun _ _ _ h => h) ?_
   case refine_2 => (intro w hSw; (try dsimp only at hSw); go_simp; try with_reducible rfl)
   simp only [Act.put, zGA, zG0, zGC, zSA, zS0, zSC]
   refine wpAnyH_done (by kernel_rfl) ?_ _
   refine NoPanic.normal ?_
   clear hHeld hS1 hS3 hSa ho1 ho3 hg3 hr3 hB3 hb1 hb1' HC HO1 t0 t1 t2 y0 y1 y2 hS
   go_wp2
   go_roundw
   case rel => exact ⟨j + 1, m + 1, g3, c3, by omega, by go_num, rfl, HGO.out.1, by rw [HGO.out.2]; exact HO3.out.1, HO3.out.2⟩
   case measure => simp [intOf]; omega
  ·obtain rfl : j = N := by omega
   have hT : ts.take j = ts := List.take_of_length_le (by rw [HL.out]; exact Nat.le_refl _)
   rw [hT] at ho hgo hpl
   have HBf := hidOf (HB0.out.trans (hB.mono (Nat.le_of_lt hw0)))
   by_cases h0 : j = 0
   ·subst h0
    obtain rfl : ts = [] := List.length_eq_zero_iff.1 HL.out
    clear ho hB
    go_wp2
    go_ret
    exact ⟨rfl, HBf.out⟩
   ·have hne : ts ≠ [] := by rintro rfl; have := HL.out; simp at this; omega
    have hpos : 1 ≤ m := goN_pos (f := ts) (k := j) (by omega) (by rw [HL.out]; exact Nat.le_refl _) (by rw [hT]; exact hgo)
    have e0 : ((j : Int) == 0) = false := by simp; omega
    have hx : wr.cell? ⟨g, 0, none⟩ = some (.bool (pg (runP ts) 0 bd)) := by
     rw [ho.cellAt 0 (by omega)]
     have : 0 < (runP ts).length := by omega
     simp [bitsV, pg, List.getD, List.getElem?_eq_getElem this]
    have HP := hidOf (passP_end hne)
    clear ho hB hT
    go_wp2
    go_ret
    exact ⟨rbool (by rw [HP.out]), HBf.out⟩
end Go.Proofs.YtihdglmiecifjaaGreat
