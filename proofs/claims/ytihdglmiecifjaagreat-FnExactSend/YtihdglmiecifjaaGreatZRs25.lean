/-
  The program's ring out of its body
-/
import Derived.Test.YtihdglmiecifjaaGreatZRs24
namespace Go.Proofs.YtihdglmiecifjaaGreat
open Go.RowKit Go.Maps Pl Il
abbrev RbS (b : Nat) (A : Na) (v : Rv) (sa : Option Addr) (s sc : Nat) (u : World) : Prop := u.cell? ⟨b, 0, none⟩ = some (.slice A.a A.n A.c) ∧ u.cell? ⟨b, 1, none⟩ = some (.slice A.a' A.n' A.c') ∧ u.cell? ⟨b, 2, none⟩ = some (.int .i64 v.cp) ∧ u.cell? ⟨b, 55, none⟩ = some (.int .i64 v.se) ∧ u.cell? ⟨b, 56, none⟩ = some (.int .i64 v.nx) ∧ u.cell? ⟨b, 57, none⟩ = some (.slice sa s sc) ∧ u.cell? ⟨b, 58, none⟩ = some (.bool v.cl)
theorem RbS.keep {b : Nat} {A : Na} {v : Rv} {sa : Option Addr} {s sc : Nat} {u u' : World} (h : RbS b A v sa s sc u) (hb : Below u.heap.size u u') : RbS b A v sa s sc u' := by
  obtain ⟨h0, h1, h2, h3, h4, h5, h6⟩ := h
  exact ⟨cellK h0 hb, cellK h1 hb, cellK h2 hb, cellK h3 hb, cellK h4 hb, cellK h5 hb, cellK h6 hb⟩
theorem RbS.drew {b : Nat} {A : Na} {v : Rv} {sa : Option Addr} {s sc : Nat} {u : World} (h : RbS b A v sa s sc u) : RbS b A v sa s sc u.drew := RbS.keep h (Below.refl _ _).drew
theorem RBody.keep {B b : Nat} {A : Na} {P : Nat → Tm} {f : Nat} {v : Rv} {sa : Option Addr} {s sc : Nat} {ys : List Sa} {w w' : World} (h : RBody B b A P f v sa s sc ys w) (hb : Below w.heap.size w w') : RBody B b A P f v sa s sc ys w' :=
  ⟨h.wst.keep hb, h.rnd.keep hb, cellK h.c2 hb, cellK h.fst hb, cellK h.nxt hb, cellK h.c56 hb, cellK h.c57 hb, cellK h.c58 hb, h.srow.keep hb, h.sv, h.its, h.sh, h.se, h.few, h.nb, h.ap⟩
theorem RBody.s {B b : Nat} {A : Na} {P : Nat → Tm} {f : Nat} {v : Rv} {sa : Option Addr} {s sc : Nat} {ys : List Sa} {w : World} (h : RBody B b A P f v sa s sc ys w) : RbS b A v sa s sc w := ⟨h.wst.c0, h.wst.c1, h.c2, by rw [h.se]; exact h.nxt, h.c56, h.c57, h.c58⟩
def RingQ (B : Nat) (A : Na) (v : Rv) (sa : Option Addr) (s sc : Nat) (ys : List Sa) (w : World) (e : Ending) (w' : World) : Prop := ∃ g : Nat, w.heap.size ≤ g ∧ e = .returned (.agg #[.int .i64 v.cp, .int .i64 v.se, .slice (some ⟨g, 0, none⟩) v.it.length v.it.length, .int .i64 v.nx, .slice sa s sc, .slice A.a A.n A.c, .slice A.a' A.n' A.c', .bool v.cl]) ∧ RRow B w' ⟨some ⟨g, 0, none⟩, v.it.length, v.it.length, sa, s, sc, ys, A.a, A.n, A.c, A.a', A.n', A.c'⟩ v ∧ Below w.heap.size w w'
set_option maxRecDepth 100000 in
set_option maxHeartbeats 8000000 in
theorem ring_anyQ (B b : Nat) (A : Na) (P : Nat → Tm) (f : Nat) (v : Rv) (sa : Option Addr) (s sc : Nat) (ys : List Sa) (w : World) (hR : RBody B b A P f v sa s sc ys w) :
  Calls Tryz.prog 82 #[.pointer (some ⟨b, 0, none⟩)] w fun e w' => RingQ B A v sa s sc ys w e w' := by
 obtain ⟨W0, hW0⟩ : ∃ W, W = w.alloc (.cells #[.int .i64 0, .int .i64 0, .slice none 0 0, .int .i64 0, .slice none 0 0, .slice none 0 0, .slice none 0 0, .bool false] 28) := ⟨_, rfl⟩
 have b0 : Below w.heap.size w W0 := by rw [hW0]; exact bl_alloc (Below.refl _ _) _
 have z0 : W0.heap.size = w.heap.size + 1 := by rw [hW0]; simp
 have X0 : BoxL w.heap.size [.int .i64 0, .int .i64 0, .slice none 0 0, .int .i64 0, .slice none 0 0, .slice none 0 0, .slice none 0 0, .bool false] W0 := by rw [hW0]; exact BoxL.new w _ _
 have R0 := hR.keep b0
 have hH := R0.s
 have Rd := R0.keep (Below.refl _ _).drew
 have HC := hidOf (items_any b 3 f v.it.length P W0.drew Rd.rnd Rd.fst Rd.nxt hR.few.1 hR.few.2 hR.sh)
 rw [hR.its] at HC
 have hbl := hR.wst.lt
 have HR := hidOf hR
 have HR0 := hidOf R0
 clear Rd R0 hR
 go_enter Tryz.func82, Tryz.ntmps82
 go_upto_region 1 with fail
 rw [← hW0]
 clear hW0
 refine wp_region_noPanic ?_
 refine wp_region_held_drew (S := fun w' => RbS b A v sa s sc w') (by kernel_rfl) hH.drew (fun hHeld => ?_)
 refine tK 0 ?_ rfl (by kernel_rfl) (by rfl) ?_ (by assumption) (fun _ _ _ h => h) ?_
 case refine_2 => (intro w hSw; (try dsimp only at hSw); go_simp; try with_reducible rfl)
 simp only [Act.put, List.getElem_toArray, List.getElem_cons_zero, List.setIfInBounds_toArray, List.set_cons_zero, List.set_cons_succ]
 refine tK 1 ?_ rfl (by kernel_rfl) (by rfl) ?_ (by assumption) (fun _ _ _ h => h) ?_
 case refine_2 => (intro w hSw; (try dsimp only at hSw); go_simp; try with_reducible rfl)
 simp only [Act.put, zGA, zG0, zGC, zSA, zS0, zSC]
 refine tK 2 ?_ rfl (by kernel_rfl) (by rfl) ?_ (by assumption) (fun _ _ _ h => h) ?_
 case refine_2 => (intro w hSw; (try dsimp only at hSw); go_simp; try with_reducible rfl)
 simp only [Act.put, zGA, zG0, zGC, zSA, zS0, zSC]
 refine tK 3 ?_ rfl (by kernel_rfl) (by rfl) ?_ (by assumption) (fun _ _ _ h => h) ?_
 case refine_2 => (intro w hSw; (try dsimp only at hSw); go_simp; try with_reducible rfl)
 simp only [Act.put, zGA, zG0, zGC, zSA, zS0, zSC]
 refine tK 4 ?_ rfl (by kernel_rfl) (by rfl) ?_ (by assumption) (fun _ _ _ h => h) ?_
 case refine_2 => (intro w hSw; (try dsimp only at hSw); go_simp; try with_reducible rfl)
 simp only [Act.put, zGA, zG0, zGC, zSA, zS0, zSC]
 refine tK 5 ?_ rfl (by kernel_rfl) (by rfl) ?_ (by assumption) (fun _ _ _ h => h) ?_
 case refine_2 => (intro w hSw; (try dsimp only at hSw); go_simp; try with_reducible rfl)
 simp only [Act.put, zGA, zG0, zGC, zSA, zS0, zSC]
 refine tK 6 ?_ rfl (by kernel_rfl) (by rfl) ?_ (by assumption) (fun _ _ _ h => h) ?_
 case refine_2 => (intro w hSw; (try dsimp only at hSw); go_simp; try with_reducible rfl)
 simp only [Act.put, zGA, zG0, zGC, zSA, zS0, zSC]
 refine tK 7 ?_ rfl (by kernel_rfl) (by rfl) ?_ (by assumption) (fun _ _ _ h => h) ?_
 case refine_2 => (intro w hSw; (try dsimp only at hSw); go_simp; try with_reducible rfl)
 simp only [Act.put, zGA, zG0, zGC, zSA, zS0, zSC]
 refine tK 8 ?_ rfl (by kernel_rfl) (by rfl) ?_ (by assumption) (fun _ _ _ h => h) ?_
 case refine_2 => (intro w hSw; (try dsimp only at hSw); go_simp; try with_reducible rfl)
 simp only [Act.put, zGA, zG0, zGC, zSA, zS0, zSC]
 refine tK 9 ?_ rfl (by kernel_rfl) (by rfl) ?_ (by assumption) (fun _ _ _ h => h) ?_
 case refine_2 => (intro w hSw; (try dsimp only at hSw); go_simp; try with_reducible rfl)
 simp only [Act.put, zGA, zG0, zGC, zSA, zS0, zSC]
 refine tK 10 ?_ rfl (by kernel_rfl) (by rfl) ?_ (by assumption) (fun _ _ _ h => h) ?_
 case refine_2 => (intro w hSw; (try dsimp only at hSw); go_simp; try with_reducible rfl)
 simp only [Act.put, zGA, zG0, zGC, zSA, zS0, zSC]
 refine tK 11 ?_ rfl (by kernel_rfl) (by rfl) ?_ (by assumption) (fun _ _ _ h => h) ?_
 case refine_2 => (intro w hSw; (try dsimp only at hSw); go_simp; try with_reducible rfl)
 simp only [Act.put, zGA, zG0, zGC, zSA, zS0, zSC]
 refine tK 13 ?_ rfl (by kernel_rfl) (by rfl) ?_ (by assumption) (fun _ _ _ h => h) ?_
 case refine_2 => (intro w hSw; (try dsimp only at hSw); go_simp; try with_reducible rfl)
 simp only [Act.put, zGA, zG0, zGC, zSA, zS0, zSC]
 refine tK 14 ?_ rfl (by kernel_rfl) (by rfl) ?_ (by assumption) (fun _ _ _ h => h) ?_
 case refine_2 => (intro w hSw; (try dsimp only at hSw); go_simp; try with_reducible rfl)
 simp only [Act.put, zGA, zG0, zGC, zSA, zS0, zSC]
 refine tK 15 ?_ rfl (by kernel_rfl) (by rfl) ?_ (by assumption) (fun _ _ _ h => h) ?_
 case refine_2 => (intro w hSw; (try dsimp only at hSw); go_simp; try with_reducible rfl)
 simp only [Act.put, zGA, zG0, zGC, zSA, zS0, zSC]
 refine tK 16 ?_ rfl (by kernel_rfl) (by rfl) ?_ (by assumption) (fun _ _ _ h => h) ?_
 case refine_2 => (intro w hSw; (try dsimp only at hSw); go_simp; try with_reducible rfl)
 simp only [Act.put, zGA, zG0, zGC, zSA, zS0, zSC]
 refine tK 17 ?_ rfl (by kernel_rfl) (by rfl) ?_ (by assumption) (fun _ _ _ h => h) ?_
 case refine_2 => (intro w hSw; (try dsimp only at hSw); go_simp; try with_reducible rfl)
 simp only [Act.put, zGA, zG0, zGC, zSA, zS0, zSC]
 refine tK 18 ?_ rfl (by kernel_rfl) (by rfl) ?_ (by assumption) (fun _ _ _ h => h) ?_
 case refine_2 => (intro w hSw; (try dsimp only at hSw); go_simp; try with_reducible rfl)
 simp only [Act.put, zGA, zG0, zGC, zSA, zS0, zSC]
 refine tK 19 ?_ rfl (by kernel_rfl) (by rfl) ?_ (by assumption) (fun _ _ _ h => h) ?_
 case refine_2 => (intro w hSw; (try dsimp only at hSw); go_simp; try with_reducible rfl)
 simp only [Act.put, zGA, zG0, zGC, zSA, zS0, zSC]
 refine tK 20 ?_ rfl (by kernel_rfl) (by rfl) ?_ (by assumption) (fun _ _ _ h => h) ?_
 case refine_2 => (intro w hSw; (try dsimp only at hSw); go_simp; try with_reducible rfl)
 simp only [Act.put, zGA, zG0, zGC, zSA, zS0, zSC]
 refine tK 21 ?_ rfl (by kernel_rfl) (by rfl) ?_ (by assumption) (fun _ _ _ h => h) ?_
 case refine_2 => (intro w hSw; (try dsimp only at hSw); go_simp; try with_reducible rfl)
 simp only [Act.put, zGA, zG0, zGC, zSA, zS0, zSC]
 refine tK 22 ?_ rfl (by kernel_rfl) (by rfl) ?_ (by assumption) (fun _ _ _ h => h) ?_
 case refine_2 => (intro w hSw; (try dsimp only at hSw); go_simp; try with_reducible rfl)
 simp only [Act.put, zGA, zG0, zGC, zSA, zS0, zSC]
 refine tK 23 ?_ rfl (by kernel_rfl) (by rfl) ?_ (by assumption) (fun _ _ _ h => h) ?_
 case refine_2 => (intro w hSw; (try dsimp only at hSw); go_simp; try with_reducible rfl)
 simp only [Act.put, zGA, zG0, zGC, zSA, zS0, zSC]
 refine tK 24 ?_ rfl (by kernel_rfl) (by rfl) ?_ (by assumption) (fun _ _ _ h => h) ?_
 case refine_2 => (intro w hSw; (try dsimp only at hSw); go_simp; try with_reducible rfl)
 simp only [Act.put, zGA, zG0, zGC, zSA, zS0, zSC]
 refine tK 25 ?_ rfl (by kernel_rfl) (by rfl) ?_ (by assumption) (fun _ _ _ h => h) ?_
 case refine_2 => (intro w hSw; (try dsimp only at hSw); go_simp; try with_reducible rfl)
 simp only [Act.put, zGA, zG0, zGC, zSA, zS0, zSC]
 refine tK 26 ?_ rfl (by kernel_rfl) (by rfl) ?_ (by assumption) (fun _ _ _ h => h) ?_
 case refine_2 => (intro w hSw; (try dsimp only at hSw); go_simp; try with_reducible rfl)
 simp only [Act.put, zGA, zG0, zGC, zSA, zS0, zSC]
 refine tK 27 ?_ rfl (by kernel_rfl) (by rfl) ?_ (by assumption) (fun _ _ _ h => h) ?_
 case refine_2 => (intro w hSw; (try dsimp only at hSw); go_simp; try with_reducible rfl)
 simp only [Act.put, zGA, zG0, zGC, zSA, zS0, zSC]
 refine tK 28 ?_ rfl (by kernel_rfl) (by rfl) ?_ (by assumption) (fun _ _ _ h => h) ?_
 case refine_2 => (intro w hSw; (try dsimp only at hSw); go_simp; try with_reducible rfl)
 simp only [Act.put, zGA, zG0, zGC, zSA, zS0, zSC]
 refine tK 29 ?_ rfl (by kernel_rfl) (by rfl) ?_ (by assumption) (fun _ _ _ h => h) ?_
 case refine_2 => (intro w hSw; (try dsimp only at hSw); go_simp; try with_reducible rfl)
 simp only [Act.put, zGA, zG0, zGC, zSA, zS0, zSC]
 refine tK 30 ?_ rfl (by kernel_rfl) (by rfl) ?_ (by assumption) (fun _ _ _ h => h) ?_
 case refine_2 => (intro w hSw; (try dsimp only at hSw); go_simp; try with_reducible rfl)
 simp only [Act.put, zGA, zG0, zGC, zSA, zS0, zSC]
 refine tK 31 ?_ rfl (by kernel_rfl) (by rfl) ?_ (by assumption) (fun _ _ _ h => h) ?_
 case refine_2 => (intro w hSw; (try dsimp only at hSw); go_simp; try with_reducible rfl)
 simp only [Act.put, zGA, zG0, zGC, zSA, zS0, zSC]
 refine tK 32 ?_ rfl (by kernel_rfl) (by rfl) ?_ (by assumption) (fun _ _ _ h => h) ?_
 case refine_2 => (intro w hSw; (try dsimp only at hSw); go_simp; try with_reducible rfl)
 simp only [Act.put, zGA, zG0, zGC, zSA, zS0, zSC]
 refine tK 33 ?_ rfl (by kernel_rfl) (by rfl) ?_ (by assumption) (fun _ _ _ h => h) ?_
 case refine_2 => (intro w hSw; (try dsimp only at hSw); go_simp; try with_reducible rfl)
 simp only [Act.put, zGA, zG0, zGC, zSA, zS0, zSC]
 refine tK 34 ?_ rfl (by kernel_rfl) (by rfl) ?_ (by assumption) (fun _ _ _ h => h) ?_
 case refine_2 => (intro w hSw; (try dsimp only at hSw); go_simp; try with_reducible rfl)
 simp only [Act.put, zGA, zG0, zGC, zSA, zS0, zSC]
 refine wpAnyH_ready (rs := [12]) (by kernel_rfl) (by simp) ?_
 refine AllReadyH.cons rfl (fun K hK => ?_) AllReadyH.nil
 go_simp
 refine (HC.out).mono ?_
 rintro e w5 ⟨g, rfl, row5, hb5⟩
 go_wp2_with fail
 have hS5 := RbS.keep hHeld hb5
 refine hK.out _ _ hS5 (fun hHeld => ?_)
 clear hK K
 refine tK 35 ?_ rfl (by kernel_rfl) (by rfl) ?_ (by assumption) (fun _ _ _ h => h) ?_
 case refine_2 => (intro w hSw; (try dsimp only at hSw); go_simp; try with_reducible rfl)
 simp only [Act.put, zGA, zG0, zGC, zSA, zS0, zSC]
 have bd : Below W0.heap.size W0 W0.drew := (Below.refl _ _).drew
 have b5 : Below W0.heap.size W0 w5 := bl_trans bd hb5
 have X5 := X0.keep b5
 have r0 := X5.cs 0 (by simp)
 have r1 := X5.cs 1 (by simp)
 have r2 := X5.cs 2 (by simp)
 have r3 := X5.cs 3 (by simp)
 have r4 := X5.cs 4 (by simp)
 have r5 := X5.cs 5 (by simp)
 have r6 := X5.cs 6 (by simp)
 have r7 := X5.cs 7 (by simp)
 have rf := X5.fr
 simp at r0 r1 r2 r3 r4 r5 r6 r7
 obtain ⟨Z, hZ⟩ : ∃ Z, ((((((((w5.setCell ⟨w.heap.size, 0, none⟩ (.int .i64 v.cp)).setCell ⟨w.heap.size, 1, none⟩ (.int .i64 v.se)).setCell ⟨w.heap.size, 2, none⟩ (.slice (some ⟨g, 0, none⟩) v.it.length v.it.length)).setCell ⟨w.heap.size, 3, none⟩ (.int .i64 v.nx)).setCell ⟨w.heap.size, 4, none⟩ (.slice sa s sc)).setCell ⟨w.heap.size, 5, none⟩ (.slice A.a A.n A.c)).setCell ⟨w.heap.size, 6, none⟩ (.slice A.a' A.n' A.c')).setCell ⟨w.heap.size, 7, none⟩ (.bool v.cl)) = Z := ⟨_, rfl⟩
 have hZ2 : Z = setL w5 w.heap.size 0 [.int .i64 v.cp, .int .i64 v.se, .slice (some ⟨g, 0, none⟩) v.it.length v.it.length, .int .i64 v.nx, .slice sa s sc, .slice A.a A.n A.c, .slice A.a' A.n' A.c', .bool v.cl] := by rw [← hZ]; rfl
 have XZ : BoxL w.heap.size [.int .i64 v.cp, .int .i64 v.se, .slice (some ⟨g, 0, none⟩) v.it.length v.it.length, .int .i64 v.nx, .slice sa s sc, .slice A.a A.n A.c, .slice A.a' A.n' A.c', .bool v.cl] Z := by
  rw [← hZ]
  exact ((((((((X5.set 0 (by simp) _).set 1 (by simp) _).set 2 (by simp) _).set 3 (by simp) _).set 4 (by simp) _).set 5 (by simp) _).set 6 (by simp) _).set 7 (by simp) _)
 have gZ : w5.grownBy Z (some w.heap.size) := by rw [hZ2]; exact setL_grown ⟨rfl, rfl, rfl, Nat.le_refl _, fun _ _ _ => rfl⟩
 have R5 := HR0.out.keep b5
 have hBw : B ≤ w.heap.size := Nat.le_trans HR.out.wst.ge (Nat.le_of_lt hbl)
 have rowZ : RRow B Z ⟨some ⟨g, 0, none⟩, v.it.length, v.it.length, sa, s, sc, ys, A.a, A.n, A.c, A.a', A.n', A.c'⟩ v := by
  have z1 : W0.drew.heap.size = W0.heap.size := rfl
  have gg : ∀ q, (Value.slice (some ⟨g, 0, none⟩) v.it.length v.it.length).ownBlock = some q → w.heap.size + 1 ≤ q := fun q e => by have := (row_lt row5 e).1; omega
  have lt1 : ∀ {t : TypeId} {sz : Nat} {x : Value} {n : Nat} {xs : List Value}, w.ownsRow B t sz x n xs → ∀ q, x.ownBlock = some q → q < w.heap.size := fun h q e => (row_lt h e).2
  have kp : ∀ {t : TypeId} {sz : Nat} {x : Value} {n : Nat} {xs : List Value}, w.ownsRow B t sz x n xs → Z.ownsRow B t sz x n xs := fun h => rowG (ownsRow_keep (ownsRow_keep h b0) b5) gZ (fun q e e' => by injection e with e; have := lt1 h q e'; omega)
  have hw := HR.out
  refine ⟨?_, fun p hp => ?_, kp hw.srow.sb, fun x hx => kp (hw.srow.fl x hx), hw.srow.fls, hw.sv, kp hw.wst.rows.one, kp hw.wst.rows.two, ?_⟩
  ·exact rowM (rowG row5 gZ (fun q e e' => by injection e with e; have := gg q e'; omega)) (by omega)
  ·rw [← hw.its] at hp
   simp only [itemsP, List.mem_map] at hp
   obtain ⟨i, _, rfl⟩ := hp
   exact hw.sh _
  ·have ha := hw.srow.apt
   unfold Apt at ha
   rw [List.pairwise_cons] at ha
   refine apt_iff.2 ⟨fun q e e' => ?_, fun q e e' => ?_, fun q e e' => ?_, fun x hx q e e' => ?_, fun q e e' => ?_, fun q e e' => ?_, ha.1, fun q e e' => ?_, fun x hx q e e' => ?_, fun x hx q e e' => ?_, ha.2⟩
   ·have := gg q e; have := lt1 hw.srow.sb q e'; omega
   ·have := gg q e; have := lt1 hw.wst.rows.one q e'; omega
   ·have := gg q e; have := lt1 hw.wst.rows.two q e'; omega
   ·obtain ⟨y, hy, rfl⟩ := List.mem_map.1 hx
    have := gg q e; have := lt1 (hw.srow.fl y hy) q e'; omega
   ·exact (hw.ap q (.inl e')).1 e
   ·exact (hw.ap q (.inr e')).1 e
   ·exact hw.wst.rows.ne q e e'
   ·obtain ⟨y, hy, rfl⟩ := List.mem_map.1 hx
    exact (hw.ap q (.inl e)).2 y hy e'
   ·obtain ⟨y, hy, rfl⟩ := List.mem_map.1 hx
    exact (hw.ap q (.inr e)).2 y hy e'
 have HRZ := hidOf rowZ
 have HGG := hidOf (show w.heap.size ≤ g by have h : W0.drew.heap.size ≤ g := (row_lt row5 (q := g) rfl).1; have h2 : W0.drew.heap.size = W0.heap.size := rfl; omega)
 have HBZ := hidOf (show Below w.heap.size w Z by rw [hZ2]; exact setL_below (Nat.le_refl _) (bl_trans b0 b5))
 have hSZ : RbS b A v sa s sc Z := by
  obtain ⟨h0, h1, h2, h3, h4, h5, h6⟩ := R5.s
  have cz : ∀ p, Z.cell? ⟨b, p, none⟩ = w5.cell? ⟨b, p, none⟩ := fun p => World.cell?_of_block (gZ.block b R5.wst.lt (fun e => by injection e with e; omega))
  exact ⟨by rw [cz]; exact h0, by rw [cz]; exact h1, by rw [cz]; exact h2, by rw [cz]; exact h3, by rw [cz]; exact h4, by rw [cz]; exact h5, by rw [cz]; exact h6⟩
 have t0 := XZ.cs 0 (by simp)
 have t1 := XZ.cs 1 (by simp)
 have t2 := XZ.cs 2 (by simp)
 have t3 := XZ.cs 3 (by simp)
 have t4 := XZ.cs 4 (by simp)
 have t5 := XZ.cs 5 (by simp)
 have t6 := XZ.cs 6 (by simp)
 have t7 := XZ.cs 7 (by simp)
 simp at t0 t1 t2 t3 t4 t5 t6 t7
 clear hZ2 XZ gZ R5 rowZ X5 X0 b5 bd row5
 refine wpAnyH_ready (rs := [36]) (by kernel_rfl) (by simp) ?_
 refine AllReadyH.cons rfl (fun K hK => ?_) AllReadyH.nil
 go_simp
 refine hK.out _ _ hSZ (fun hHeld => ?_)
 clear hK K hZ hSZ
 refine wpAnyH_done (by kernel_rfl) ?_ _
 refine NoPanic.normal ?_
 go_wp2_with fail
 exact bodyPost_ret (v := .agg #[.int .i64 v.cp, .int .i64 v.se, .slice (some ⟨g, 0, none⟩) v.it.length v.it.length, .int .i64 v.nx, .slice sa s sc, .slice A.a A.n A.c, .slice A.a' A.n' A.c', .bool v.cl]) (by simp [results, Tryz.results82, go_sem, t0, t1, t2, t3, t4, t5, t6, t7]) rfl ⟨g, HGG.out, rfl, HRZ.out, HBZ.out⟩
end Go.Proofs.YtihdglmiecifjaaGreat
