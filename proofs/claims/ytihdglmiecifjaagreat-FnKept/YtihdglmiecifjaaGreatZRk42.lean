/-
  One subscriber is gone: the program's unsubscribe
-/
import Derived.Test.YtihdglmiecifjaaGreatZRk41
namespace Go.Proofs.YtihdglmiecifjaaGreat
open Go.RowKit Go.Maps Pl Il
theorem SubW.drewW {g s sc : Nat} {xs : List Sa} {w : World} {cur : Array Value} (h : SubW g s sc xs w cur) : SubW g s sc xs w.drew cur := ⟨h.blk, h.size, h.le, h.max, h.cells, h.len⟩
/-- A body whose list is another one of the same block, shorter by one. -/
theorem RBody.erase {B b : Nat} {A : Na} {P : Nat → Tm} {f : Nat} {v : Rv} {g s sc : Nat} {ys : List Sa} {w w' : World} {cur : Array Value} (h : RBody B b A P f v (some ⟨g, 0, none⟩) s sc ys w) {k : Nat} (hk : k < ys.length) (hs : s = ys.length)
  (gr : w.grownBy w' (some g)) (hg : w'.heap[g]? = some (.cells cur 41 (0, 0))) (hz : cur.size = sc * 7) (ht : cur.toList.take ((s - 1) * 7) = sflat (ys.eraseIdx k)) :
  RBody B b A P f { v with sb := v.sb.eraseIdx k } (some ⟨g, 0, none⟩) (s - 1) sc (ys.eraseIdx k) (w'.setCell ⟨b, 57, none⟩ (.slice (some ⟨g, 0, none⟩) (s - 1) sc)) := by
 obtain ⟨hB, cur0, hW⟩ := SubW.of h.srow.sb
 have hgb : g ≠ b := fun e => h.nb.1 (by rw [e]; rfl)
 have hkb : w'.heap[b]? = w.heap[b]? := gr.block b h.wst.lt (fun e => by injection e with e; exact hgb e.symm)
 have c1 : ∀ j, w'.cell? ⟨b, j, none⟩ = w.cell? ⟨b, j, none⟩ := fun j => World.cell?_of_block hkb
 have ct : ∀ j, j ≠ 57 → (w'.setCell ⟨b, 57, none⟩ (.slice (some ⟨g, 0, none⟩) (s - 1) sc)).cell? ⟨b, j, none⟩ = w.cell? ⟨b, j, none⟩ := fun j hj => by rw [World.cell?_setCell_other _ _ _ _ (by intro e; cases e; exact hj rfl), c1]
 have gs := grown_setC w' b 57 (.slice (some ⟨g, 0, none⟩) (s - 1) sc)
 have ha := h.srow.apt
 unfold Apt at ha
 rw [List.pairwise_cons] at ha
 have two : ∀ {t z : Nat} {u : Value} {n : Nat} {xs : List Value}, w.ownsRow B t z u n xs → u.ownBlock ≠ some g → u.ownBlock ≠ some b → (w'.setCell ⟨b, 57, none⟩ (.slice (some ⟨g, 0, none⟩) (s - 1) sc)).ownsRow B t z u n xs := fun hr h1 h2 =>
  rowG (rowG hr gr (fun q e => by injection e with e; rw [← e]; exact h1)) gs (fun q e => by injection e with e; rw [← e]; exact h2)
 have sbrow : w'.ownsRow B 41 7 (.slice (some ⟨g, 0, none⟩) (s - 1) sc) (s - 1) (sflat (ys.eraseIdx k)) :=
  ⟨by rw [length_sflat, List.length_eraseIdx, if_pos hk]; omega, .inr ⟨g, sc, cur, rfl, hB, hg, by have := hW.le; omega, hW.max, hz, ht⟩⟩
 refine ⟨⟨?_, h.wst.ge, by rw [ct 0 (by omega)]; exact h.wst.c0, by rw [ct 1 (by omega)]; exact h.wst.c1, fun o => ?_, ⟨two h.wst.rows.one (fun e => (h.ap _ (.inl e)).1 rfl) h.wst.ne1, two h.wst.rows.two (fun e => (h.ap _ (.inr e)).1 rfl) h.wst.ne2, h.wst.rows.ne⟩, h.wst.ne1, h.wst.ne2⟩, ⟨?_, fun j hj => ?_⟩, by rw [ct 2 (by omega)]; exact h.c2, by rw [ct _ (by omega)]; exact h.fst, by rw [ct _ (by omega)]; exact h.nxt, by rw [ct 56 (by omega)]; exact h.c56, World.cell?_setCell_same _ _ _ (by rw [c1]; exact h.c57), by rw [ct 58 (by omega)]; exact h.c58, ⟨rowG sbrow gs (fun q e => by injection e with e; rw [← e]; intro e2; exact hgb (by simpa [Value.ownBlock] using e2)), fun x hx => ?_, fun x hx => h.srow.fls x (erase_mem hx), ?_⟩, ?_, h.its, h.sh, h.se, h.few, ⟨fun e => hgb (by simpa [Value.ownBlock] using e), fun x hx => h.nb.2 x (erase_mem hx)⟩, fun q hq => ⟨(h.ap q hq).1, fun x hx => (h.ap q hq).2 x (erase_mem hx)⟩⟩
 ·have := gr.size; have := h.wst.lt; simp; omega
 ·obtain ⟨cur1, t1, hc1, _⟩ := h.rnd.blk
  simp [World.frozen?, heap_setCell_same w' b 57 cur1 t1 _ (by rw [hkb]; exact hc1)]
 ·obtain ⟨cur1, t1, hc1, hs1⟩ := h.rnd.blk
  exact ⟨cur1.setIfInBounds 57 (.slice (some ⟨g, 0, none⟩) (s - 1) sc), t1, heap_setCell_same w' b 57 cur1 t1 _ (by rw [hkb]; exact hc1), by simpa using hs1⟩
 ·obtain ⟨h1, h2, h3⟩ := h.rnd.pl j hj
  exact ⟨by rw [ct _ (by omega)]; exact h1, by rw [ct _ (by omega)]; exact h2, by rw [ct _ (by omega)]; exact h3⟩
 ·have hx' := erase_mem hx
  exact two (h.srow.fl x hx') (fun e => ha.1 _ (List.mem_map.2 ⟨x, hx', rfl⟩) g rfl e) (h.nb.2 x hx')
 ·have hsl : (ys.eraseIdx k).Sublist ys := List.eraseIdx_sublist ys k
  unfold Apt
  rw [List.pairwise_cons]
  refine ⟨fun y hy => ?_, ha.2.sublist (hsl.map _)⟩
  obtain ⟨z, hz, rfl⟩ := List.mem_map.1 hy
  exact ha.1 _ (List.mem_map.2 ⟨z, erase_mem hz, rfl⟩)
 ·show svs (ys.eraseIdx k) = v.sb.eraseIdx k
  rw [svs_erase, h.sv]
/-- What unsubscribe leaves. -/
def UnsP (B b f d : Nat) (v : Rv) (id : Int) (k g s sc : Nat) (ys : List Sa) (w : World) (e : Ending) (w' : World) : Prop := e = .returned (.tuple #[]) ∧ ∃ A' P', RBody B b A' P' (f + d) { dropV v id k with it := v.it.drop d } (some ⟨g, 0, none⟩) (s - 1) sc (ys.eraseIdx k) w' ∧ Below B w w'
set_option maxRecDepth 100000 in
set_option maxHeartbeats 8000000 in
theorem unsubscribe_any (B b : Nat) (A : Na) (P : Nat → Tm) (f : Nat) (v : Rv) (g s sc : Nat) (ys : List Sa) (id : Int) (w : World) (hR : RBody B b A P f v (some ⟨g, 0, none⟩) s sc ys w) (hs : s ≤ 2097152) (k : Nat) (hat : atR v.sb id = (k : Int)) (hk : k < ys.length) (hsl : s = ys.length)
  (hn : A.n ≤ 2097152) (hn' : A.n' ≤ 2097152) (hw : wfL v.ln) (hw' : wfL v.gs) (hx : (Lit.int .i64 id).wf = true) (hl : v.ln.Nodup) (hl' : v.gs.Nodup) (hse : 0 ≤ v.se ∧ v.se ≤ 1000000000) (hcp : 1 ≤ v.cp ∧ v.cp ≤ 16) (d : Nat) (hd : d ≤ v.it.length) (ho : oldR (dropV v id k) = ((f + d : Nat) : Int)) :
  Calls Tryz.prog 108 #[.pointer (some ⟨b, 0, none⟩), .int .i64 id] w fun e w' => UnsP B b f d v id k g s sc ys w e w' := by
 have c57 := hR.c57
 have HPl := hidOf (placeOfSub_any (some ⟨g, 0, none⟩) s sc ys id w hR.srow.sub hs)
 rw [hR.sv, hat] at HPl
 obtain ⟨t, ht⟩ : ∃ t, s = t + 1 := ⟨s - 1, by omega⟩
 have hge := hR.wst.ge
 have hblt := hR.wst.lt
 have HR := hidOf hR
 have HSl := hidOf hsl
 have HT := hidOf ht
 have HSt := hidOf (And.intro hw (And.intro hw' (And.intro hx (And.intro hl hl'))))
 have HAn := hidOf (And.intro hn hn')
 have HO := hidOf ho
 have HD := hidOf hd
 have hgb : ¬ g = b := fun e => hR.nb.1 (by rw [e]; rfl)
 clear hR hat hsl ht hw hw' hx hl hl' hn hn' ho hd
 go_enter Tryz.func108, Tryz.ntmps108
 go_wp2_with fail
 refine (HPl.out).mono ?_
 rintro e w1 ⟨rfl, b1⟩
 have body1 := HR.out.keep b1
 have d57 := body1.c57
 have hst1 : (s : Int) - 1 = (t : Int) := by have := HT.out; omega
 have hwt : IntKind.i64.wrap (t : Int) = (t : Int) := by rw [IntKind.wrap_i64]; have := HT.out; omega
 obtain ⟨hBg, cur1, hW1⟩ := SubW.of body1.srow.sb
 have hsc := hW1.le
 have hks : k < s := by have := HSl.out; omega
 have hki : (k : Int) < (s : Int) := by omega
 have hksc : ¬ sc = k := by omega
 have hw1 : IntKind.i64.wrap ((k : Int) + 1) = (k : Int) + 1 := by rw [IntKind.wrap_i64]; omega
 have hk1 : (k : Int) + 1 ≤ (s : Int) := by omega
 have hscm : sc ≤ 9223372036854775807 := by have := hW1.max; unfold maxLen at this; omega
 obtain ⟨n1, hn1⟩ : ∃ n, s - k = n := ⟨_, rfl⟩
 obtain ⟨n2, hn2⟩ : ∃ n, s - (k + 1) = n := ⟨_, rfl⟩
 obtain ⟨a1, ha1⟩ : ∃ a : Addr, (if sc = k + 1 then (⟨g, 0, none⟩ : Addr) else ⟨g, (k + 1) * 7, none⟩) = a := ⟨_, rfl⟩
 obtain ⟨w2, cur2, hr2, gr2, hg2, hz2, ht2⟩ := copy_up hW1.drewW hks a1 (by
  by_cases hc : sc = k + 1
  ·left; omega
  ·right; rw [← ha1, if_neg hc]) n1 n2 hn1 hn2
 have hif : (if sc = k + 1 then some (⟨g, 0, none⟩ : Addr) else some ⟨g, (k + 1) * 7, none⟩) = some a1 := by
  rw [← ha1]; split <;> rfl
 have hS1 : w1.cell? ⟨b, 57, none⟩ = some (.slice (some ⟨g, 0, none⟩) s sc) ∧ True := ⟨d57, True.intro⟩
 have hb2 : w2.heap[b]? = w1.heap[b]? := gr2.block b body1.wst.lt (fun e => by injection e with e; exact hgb e.symm)
 have e57 : w2.cell? ⟨b, 57, none⟩ = some (.slice (some ⟨g, 0, none⟩) s sc) := by rw [← d57]; exact World.cell?_of_block hb2
 have hS2 : w2.cell? ⟨b, 57, none⟩ = some (.slice (some ⟨g, 0, none⟩) s sc) ∧ True := ⟨e57, True.intro⟩
 have HB1 := hidOf body1
 have HW2 := hidOf (And.intro gr2 (And.intro hg2 (And.intro hz2 ht2)))
 have hsn : s ≤ sc := hsc
 have hkle : k ≤ s := by omega
 have hk1le : k + 1 ≤ s := by omega
 have hk0 : (0 : Int) ≤ (k : Int) + 1 := by omega
 clear body1 gr2 hg2 hz2 ht2 ha1 hW1 hb2 HPl c57
 go_upto_region 2 with fail
 refine wp_region_noPanic ?_
 refine wp_region_held_drew (S := fun w' => w'.cell? ⟨b, 57, none⟩ = some (.slice (some ⟨g, 0, none⟩) s sc) ∧ True) (by kernel_rfl) hS1 (fun hHeld => ?_)
 refine tK 0 ?_ rfl (by kernel_rfl) (by rfl) ?_ (by assumption) (fun _ _ _ h => h) ?_
 case refine_2 => (intro w hSw; (try dsimp only at hSw); go_simp; try with_reducible rfl)
 simp only [Act.put, List.getElem_toArray, List.getElem_cons_zero, List.setIfInBounds_toArray, List.set_cons_zero, List.set_cons_succ]
 refine tK 1 ?_ rfl (by kernel_rfl) (by rfl) ?_ (by assumption) (fun _ _ _ h => h) ?_
 case refine_2 => (intro w hSw; (try dsimp only at hSw); go_simp; try with_reducible rfl)
 simp only [Act.put, zGA, zG0, zGC, zSA, zS0, zSC]
 refine tK 2 ?_ rfl (by kernel_rfl) (by rfl) ?_ (by assumption) (fun _ _ _ h => h) ?_
 case refine_2 => (intro w hSw; (try dsimp only at hSw); go_simp; try with_reducible rfl)
 simp only [Act.put, zGA, zG0, zGC, zSA, zS0, zSC]
 refine tK 3 ?_ rfl (by kernel_rfl) (by rfl) ?_ (by assumption) (fun _ _ _ h => h) ?_
 case refine_2 => (intro w hSw; (try dsimp only at hSw); go_simp; try with_reducible rfl)
 simp only [Act.put, zGA, zG0, zGC, zSA, zS0, zSC]
 refine tK 4 ?_ rfl (by kernel_rfl) (by rfl) ?_ (by assumption) (fun _ _ _ h => h) ?_
 case refine_2 => (intro w hSw; (try dsimp only at hSw); go_simp; try with_reducible rfl)
 simp only [Act.put, zGA, zG0, zGC, zSA, zS0, zSC]
 refine tK 5 ?_ rfl (by kernel_rfl) (by rfl) ?_ (by assumption) (fun _ _ _ h => h) ?_
 case refine_2 => (intro w hSw; (try dsimp only at hSw); go_simp; try with_reducible rfl)
 simp only [Act.put, zGA, zG0, zGC, zSA, zS0, zSC]
 refine tK 6 ?_ rfl (by kernel_rfl) (by rfl) ?_ (by assumption) (fun _ _ _ h => h) ?_
 case refine_2 => (intro w hSw; (try dsimp only at hSw); go_simp; try with_reducible rfl)
 simp only [Act.put, zGA, zG0, zGC, zSA, zS0, zSC]
 refine tK 7 ?_ rfl (by kernel_rfl) (by rfl) ?_ (by assumption) (fun _ _ _ h => h) ?_
 case refine_2 => (intro w hSw; (try dsimp only at hSw); go_simp; try with_reducible rfl)
 simp only [Act.put, zGA, zG0, zGC, zSA, zS0, zSC]
 refine tK 8 ?_ rfl (by kernel_rfl) (by rfl) ?_ (by assumption) (fun _ _ _ h => h) ?_
 case refine_2 => (intro w hSw; (try dsimp only at hSw); go_simp; try with_reducible rfl)
 simp only [Act.put, zGA, zG0, zGC, zSA, zS0, zSC]
 refine tK 9 ?_ rfl (by kernel_rfl) (by rfl) ?_ (by assumption) (fun _ _ _ h => h) ?_
 case refine_2 => (intro w hSw; (try dsimp only at hSw); go_simp; try with_reducible rfl)
 simp only [Act.put, zGA, zG0, zGC, zSA, zS0, zSC]
 refine tK 10 ?_ rfl (by kernel_rfl) (by rfl) ?_ (by assumption) (fun _ _ _ h => h) ?_
 case refine_2 => (intro w hSw; (try dsimp only at hSw); go_simp; try with_reducible rfl)
 simp only [Act.put, zGA, zG0, zGC, zSA, zS0, zSC]
 refine tK 11 ?_ rfl (by kernel_rfl) (by rfl) ?_ (by assumption) (fun _ _ _ h => h) ?_
 case refine_2 => (intro w hSw; (try dsimp only at hSw); go_simp; try with_reducible rfl)
 simp only [Act.put, zGA, zG0, zGC, zSA, zS0, zSC]
 refine tK 12 ?_ rfl (by kernel_rfl) (by rfl) ?_ (by assumption) (fun _ _ _ h => h) ?_
 case refine_2 => (intro w hSw; (try dsimp only at hSw); go_simp; try with_reducible rfl)
 simp only [Act.put, zGA, zG0, zGC, zSA, zS0, zSC]
 refine wpAnyH_ready (rs := [13]) (by kernel_rfl) (by simp) ?_
 refine AllReadyH.cons rfl (fun K hK => ?_) AllReadyH.nil
 go_simp
 refine hK.out _ _ hS2 (fun hHeld => ?_)
 clear hK K
 refine wpAnyH_done (by kernel_rfl) ?_ _
 refine NoPanic.normal ?_
 clear hr2 hif hS1 hS2 hHeld hn1 hn2
 obtain ⟨gr2, hg2, hz2, ht2⟩ := HW2.out
 obtain ⟨w3, cur3, hr3, gr3, hg3, hz3, ht3⟩ := clear_subs w2 g t sc cur2 hg2 hz2 (by have := HT.out; omega)
 have gr13 : w1.grownBy w3 (some g) := ((grown_of (Below.refl _ _).drew).trans gr2).trans gr3
 have htt : cur3.toList.take ((s - 1) * 7) = sflat (ys.eraseIdx k) := by
  rw [show s - 1 = t by have := HT.out; omega]
  rw [show s - 1 = t by have := HT.out; omega] at ht2
  rw [ht3, ht2]
 have hb3 : w3.heap[b]? = w1.heap[b]? := gr13.block b HB1.out.wst.lt (fun e => by injection e with e; exact hgb e.symm)
 have f57 : w3.cell? ⟨b, 57, none⟩ = some (.slice (some ⟨g, 0, none⟩) s sc) := by rw [← d57]; exact World.cell?_of_block hb3
 have fr57 : w3.frozen? ⟨b, 57, none⟩ = false := by rw [World.frozen?_of_block hb3]; exact HB1.out.wst.fr 57
 have body4 := HB1.out.erase hk HSl.out gr13 hg3 hz3 htt
 rw [show s - 1 = t by have := HT.out; omega] at body4
 obtain ⟨U4, hU4⟩ : ∃ U, w3.setCell ⟨b, 57, none⟩ (.slice (some ⟨g, 0, none⟩) t sc) = U := ⟨_, rfl⟩
 rw [hU4] at body4
 have bl4 : Below B w U4 := by
  rw [← hU4]
  have h1 : Below B w1 w3 := (Below.refl B w1).grown gr13 (by have := HB1.out.wst.lt; omega) (fun j hj => by injection hj with hj; rw [← hj]; exact hBg)
  exact ((b1.mono (by omega)).trans h1).setCell (p := ⟨b, 57, none⟩) hge _
 have htle : t ≤ s := by have := HT.out; omega
 have htsc : ¬ sc = t := by have := HT.out; omega
 have ht1 : s - t = 1 := by have := HT.out; omega
 have htlc : t ≤ sc := by omega
 have HB4 := hidOf body4
 have HBl4 := hidOf bl4
 clear gr2 hg2 hz2 ht2 gr3 hg3 hz3 ht3 gr13 htt hb3 body4 bl4 HW2 d57
 go_upto_region 5 with fail
 try rw [hU4]
 clear hU4 hr3 f57 fr57 e57 ht1 htle htsc htlc
 obtain ⟨hw, hw', hx, hl, hl'⟩ := HSt.out
 have HRm := hidOf (remove_tf B b A v.ln v.gs id U4 HB4.out.wst HAn.out.1 HAn.out.2 hw hw' hx hl hl')
 clear hw hw' hx hl hl'
 go_wp2_with fail
 refine (HRm.out).mono ?_
 rintro e w5 ⟨A5, rfl, hW5, hT5, tt5, hA5⟩
 have body5 := HB4.out.quit id hW5 hT5 tt5 (.inr hA5)
 have body5' : RBody B b A5 P f (dropV v id k) (some ⟨g, 0, none⟩) t sc (ys.eraseIdx k) w5 := body5
 have HDr := hidOf (dropOld_any B b A5 P f (dropV v id k) (some ⟨g, 0, none⟩) t sc (ys.eraseIdx k) w5 body5' (by have := HT.out; omega) hse hcp d HD.out HO.out)
 have bl5 : Below B w w5 := HBl4.out.trans hT5.below
 have HBl5 := hidOf bl5
 clear hW5 hT5 tt5 hA5 body5 body5' HRm bl5
 go_wp2_with fail
 refine (HDr.out).mono ?_
 rintro e w6 ⟨rfl, P', body6, gr6⟩
 go_wp2_with fail
 go_end0
 refine ⟨rfl, A5, P', ?_, HBl5.out.grown gr6 (by have h1 := HBl5.out.size; omega) (fun j hj => by injection hj with hj; rw [← hj]; exact hge)⟩
 rw [show s - 1 = t by have := HT.out; omega]
 exact body6
end Go.Proofs.YtihdglmiecifjaaGreat
