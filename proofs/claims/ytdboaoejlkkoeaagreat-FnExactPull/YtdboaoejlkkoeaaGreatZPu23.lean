/-
  The program's ring out of its body
  One number of a subscriber is another one: in a ring's rows, and in a 
  The program's stack of tests in memory; taking one off it, laying one 
-/
import Derived.Test.YtdboaoejlkkoeaaGreatZPu22
import Derived.Laws.EntriesVeiled
import Derived.WalkSmall
namespace Go.Proofs.YtdboaoejlkkoeaaGreat
open Go.RowKit Go.Maps Pl Il
abbrev RbS (b : Nat) (A : Na) (v : Rv) (sa : Option Addr) (s sc : Nat) (u : World) : Prop := u.cell? ⟨b, 0, none⟩ = some (.slice A.a A.n A.c) ∧ u.cell? ⟨b, 1, none⟩ = some (.slice A.a' A.n' A.c') ∧ u.cell? ⟨b, 2, none⟩ = some (.int .i64 v.cp) ∧ u.cell? ⟨b, 55, none⟩ = some (.int .i64 v.se) ∧ u.cell? ⟨b, 56, none⟩ = some (.int .i64 v.nx) ∧ u.cell? ⟨b, 57, none⟩ = some (.slice sa s sc) ∧ u.cell? ⟨b, 58, none⟩ = some (.bool v.cl)
theorem RbS.keep {b : Nat} {A : Na} {v : Rv} {sa : Option Addr} {s sc : Nat} {u u' : World} (h : RbS b A v sa s sc u) (hb : Below u.heap.size u u') : RbS b A v sa s sc u' := by
  obtain ⟨h0, h1, h2, h3, h4, h5, h6⟩ := h
  exact ⟨cellK h0 hb, cellK h1 hb, cellK h2 hb, cellK h3 hb, cellK h4 hb, cellK h5 hb, cellK h6 hb⟩
theorem RbS.drew {b : Nat} {A : Na} {v : Rv} {sa : Option Addr} {s sc : Nat} {u : World} (h : RbS b A v sa s sc u) : RbS b A v sa s sc u.drew := RbS.keep h (Below.refl _ _).drew
theorem RBody.keep {B b : Nat} {A : Na} {P : Nat → Tm} {f : Nat} {v : Rv} {sa : Option Addr} {s sc : Nat} {ys : List Sa} {w w' : World} (h : RBody B b A P f v sa s sc ys w) (hb : Below w.heap.size w w') : RBody B b A P f v sa s sc ys w' :=
  ⟨h.wst.keep hb, h.rnd.keep hb, cellK h.c2 hb, cellK h.fst hb, cellK h.nxt hb, cellK h.c56 hb, cellK h.c57 hb, cellK h.c58 hb, h.srow.keep hb, h.sv, h.its, h.sh, h.se, h.few, h.nb, h.ap⟩
theorem RBody.s {B b : Nat} {A : Na} {P : Nat → Tm} {f : Nat} {v : Rv} {sa : Option Addr} {s sc : Nat} {ys : List Sa} {w : World} (h : RBody B b A P f v sa s sc ys w) : RbS b A v sa s sc w := ⟨h.wst.c0, h.wst.c1, h.c2, by rw [h.se]; exact h.nxt, h.c56, h.c57, h.c58⟩
def RingQ (B : Nat) (A : Na) (v : Rv) (sa : Option Addr) (s sc : Nat) (ys : List Sa) (w : World) (e : Ending) (w' : World) : Prop := ∃ g : Nat, w.heap.size ≤ g ∧ e = .returned (.agg #[.int .i64 v.cp, .int .i64 v.se, .slice (some ⟨g, 0, none⟩) v.it.length v.it.length, .int .i64 v.nx, .slice sa s sc, .slice A.a A.n A.c, .slice A.a' A.n' A.c', .bool v.cl]) ∧ RRow B w' ⟨some ⟨g, 0, none⟩, v.it.length, v.it.length, sa, s, sc, ys, A.a, A.n, A.c, A.a', A.n', A.c'⟩ v ∧ Below w.heap.size w w'
set_option maxRecDepth 100000 in
set_option maxHeartbeats 8000000 in
theorem ring_anyQ (B b : Nat) (A : Na) (P : Nat → Tm) (f : Nat) (v : Rv) (sa : Option Addr) (s sc : Nat) (ys : List Sa) (w : World) (hR : RBody B b A P f v sa s sc ys w) :
  Calls Tryz.prog 82 #[.pointer (some ⟨b, 0, none⟩)] w fun e w' => RingQ B A v sa s sc ys w e w' := by
 obtain ⟨W0, hW0⟩ : ∃ W, W = w.alloc (.cells #[.int .i64 0, .int .i64 0, .slice none 0 0, .int .i64 0, .slice none 0 0, .slice none 0 0, .slice none 0 0, .bool false] 28) := ⟨_, rfl⟩
 have b0 : Below w.heap.size w W0 := by rw [hW0]; exact bl_alloc (Below.refl _ _) _
 have z0 : W0.heap.size = w.heap.size + 1 := by rw [hW0]; simp
 have X0 : BoxL w.heap.size [.int .i64 0, .int .i64 0, .slice none 0 0, .int .i64 0, .slice none 0 0, .slice none 0 0, .slice none 0 0, .bool false] W0 := by rw [hW0]; exact BoxL.new w _ _
 have R0 := hR.keep b0
 have hH := R0.s
 have Rd := R0.keep (Below.refl _ _).drew
 have HC := hidOf (items_any b 3 f v.it.length P W0.drew Rd.rnd Rd.fst Rd.nxt hR.few.1 hR.few.2 hR.sh)
 rw [hR.its] at HC
 have hbl := hR.wst.lt
 have HR := hidOf hR
 have HR0 := hidOf R0
 clear Rd R0 hR
 go_enter Tryz.func82, Tryz.ntmps82
 go_upto_region 1 with fail
 rw [← hW0]
 clear hW0
 refine wp_region_noPanic ?_
 refine wp_region_held_drew (S := fun w' => RbS b A v sa s sc w') (by kernel_rfl) hH.drew (fun hHeld => ?_)
 refine tK 0 ?_ rfl (by kernel_rfl) (by rfl) ?_ (by assumption) (fun _ _ _ h => h) ?_
 case refine_2 => (intro w hSw; (try dsimp only at hSw); go_simp; try with_reducible rfl)
 simp only [Act.put, List.getElem_toArray, List.getElem_cons_zero, List.setIfInBounds_toArray, List.set_cons_zero, List.set_cons_succ]
 refine tR 1 ?_
 refine tR 2 ?_
 refine tR 3 ?_
 refine tR 4 ?_
 refine tR 5 ?_
 refine tR 6 ?_
 refine tR 7 ?_
 refine tR 8 ?_
 refine tR 9 ?_
 refine tR 10 ?_
 refine tR 11 ?_
 refine tR 13 ?_
 refine tR 14 ?_
 refine tR 15 ?_
 refine tR 16 ?_
 refine tR 17 ?_
 refine tR 18 ?_
 refine tR 19 ?_
 refine tR 20 ?_
 refine tR 21 ?_
 refine tR 22 ?_
 refine tR 23 ?_
 refine tR 24 ?_
 refine tR 25 ?_
 refine tR 26 ?_
 refine tR 27 ?_
 refine tR 28 ?_
 refine tR 29 ?_
 refine tR 30 ?_
 refine tR 31 ?_
 refine tR 32 ?_
 refine tR 33 ?_
 refine tR 34 ?_
 refine tW 12 (fun K hK => ?_)
 go_simp
 refine (HC.out).mono ?_
 rintro e w5 ⟨g, rfl, row5, hb5⟩
 go_wp2_with fail
 have hS5 := RbS.keep hHeld hb5
 refine hK.out _ _ hS5 (fun hHeld => ?_)
 clear hK K
 refine tR 35 ?_
 have bd : Below W0.heap.size W0 W0.drew := (Below.refl _ _).drew
 have b5 : Below W0.heap.size W0 w5 := bl_trans bd hb5
 have X5 := X0.keep b5
 have r0 := X5.cs 0 (by simp)
 have r1 := X5.cs 1 (by simp)
 have r2 := X5.cs 2 (by simp)
 have r3 := X5.cs 3 (by simp)
 have r4 := X5.cs 4 (by simp)
 have r5 := X5.cs 5 (by simp)
 have r6 := X5.cs 6 (by simp)
 have r7 := X5.cs 7 (by simp)
 have rf := X5.fr
 simp at r0 r1 r2 r3 r4 r5 r6 r7
 obtain ⟨Z, hZ⟩ : ∃ Z, ((((((((w5.setCell ⟨w.heap.size, 0, none⟩ (.int .i64 v.cp)).setCell ⟨w.heap.size, 1, none⟩ (.int .i64 v.se)).setCell ⟨w.heap.size, 2, none⟩ (.slice (some ⟨g, 0, none⟩) v.it.length v.it.length)).setCell ⟨w.heap.size, 3, none⟩ (.int .i64 v.nx)).setCell ⟨w.heap.size, 4, none⟩ (.slice sa s sc)).setCell ⟨w.heap.size, 5, none⟩ (.slice A.a A.n A.c)).setCell ⟨w.heap.size, 6, none⟩ (.slice A.a' A.n' A.c')).setCell ⟨w.heap.size, 7, none⟩ (.bool v.cl)) = Z := ⟨_, rfl⟩
 have hZ2 : Z = setL w5 w.heap.size 0 [.int .i64 v.cp, .int .i64 v.se, .slice (some ⟨g, 0, none⟩) v.it.length v.it.length, .int .i64 v.nx, .slice sa s sc, .slice A.a A.n A.c, .slice A.a' A.n' A.c', .bool v.cl] := by rw [← hZ]; rfl
 have XZ : BoxL w.heap.size [.int .i64 v.cp, .int .i64 v.se, .slice (some ⟨g, 0, none⟩) v.it.length v.it.length, .int .i64 v.nx, .slice sa s sc, .slice A.a A.n A.c, .slice A.a' A.n' A.c', .bool v.cl] Z := by
  rw [← hZ]
  exact ((((((((X5.set 0 (by simp) _).set 1 (by simp) _).set 2 (by simp) _).set 3 (by simp) _).set 4 (by simp) _).set 5 (by simp) _).set 6 (by simp) _).set 7 (by simp) _)
 have gZ : w5.grownBy Z (some w.heap.size) := by rw [hZ2]; exact setL_grown ⟨rfl, rfl, rfl, Nat.le_refl _, fun _ _ _ => rfl⟩
 have R5 := HR0.out.keep b5
 have hBw : B ≤ w.heap.size := Nat.le_trans HR.out.wst.ge (Nat.le_of_lt hbl)
 have rowZ : RRow B Z ⟨some ⟨g, 0, none⟩, v.it.length, v.it.length, sa, s, sc, ys, A.a, A.n, A.c, A.a', A.n', A.c'⟩ v := by
  have z1 : W0.drew.heap.size = W0.heap.size := rfl
  have gg : ∀ q, (Value.slice (some ⟨g, 0, none⟩) v.it.length v.it.length).ownBlock = some q → w.heap.size + 1 ≤ q := fun q e => by have := (row_lt row5 e).1; omega
  have lt1 : ∀ {t : TypeId} {sz : Nat} {x : Value} {n : Nat} {xs : List Value}, w.ownsRow B t sz x n xs → ∀ q, x.ownBlock = some q → q < w.heap.size := fun h q e => (row_lt h e).2
  have kp : ∀ {t : TypeId} {sz : Nat} {x : Value} {n : Nat} {xs : List Value}, w.ownsRow B t sz x n xs → Z.ownsRow B t sz x n xs := fun h => rowG (ownsRow_keep (ownsRow_keep h b0) b5) gZ (fun q e e' => by injection e with e; have := lt1 h q e'; omega)
  have hw := HR.out
  refine ⟨?_, fun p hp => ?_, kp hw.srow.sb, fun x hx => kp (hw.srow.fl x hx), hw.srow.fls, hw.sv, kp hw.wst.rows.one, kp hw.wst.rows.two, ?_⟩
  ·exact rowM (rowG row5 gZ (fun q e e' => by injection e with e; have := gg q e'; omega)) (by omega)
  ·rw [← hw.its] at hp
   simp only [itemsP, List.mem_map] at hp
   obtain ⟨i, _, rfl⟩ := hp
   exact hw.sh _
  ·have ha := hw.srow.apt
   unfold Apt at ha
   rw [List.pairwise_cons] at ha
   refine apt_iff.2 ⟨fun q e e' => ?_, fun q e e' => ?_, fun q e e' => ?_, fun x hx q e e' => ?_, fun q e e' => ?_, fun q e e' => ?_, ha.1, fun q e e' => ?_, fun x hx q e e' => ?_, fun x hx q e e' => ?_, ha.2⟩
   ·have := gg q e; have := lt1 hw.srow.sb q e'; omega
   ·have := gg q e; have := lt1 hw.wst.rows.one q e'; omega
   ·have := gg q e; have := lt1 hw.wst.rows.two q e'; omega
   ·obtain ⟨y, hy, rfl⟩ := List.mem_map.1 hx
    have := gg q e; have := lt1 (hw.srow.fl y hy) q e'; omega
   ·exact (hw.ap q (.inl e')).1 e
   ·exact (hw.ap q (.inr e')).1 e
   ·exact hw.wst.rows.ne q e e'
   ·obtain ⟨y, hy, rfl⟩ := List.mem_map.1 hx
    exact (hw.ap q (.inl e)).2 y hy e'
   ·obtain ⟨y, hy, rfl⟩ := List.mem_map.1 hx
    exact (hw.ap q (.inr e)).2 y hy e'
 have HRZ := hidOf rowZ
 have HGG := hidOf (show w.heap.size ≤ g by have h : W0.drew.heap.size ≤ g := (row_lt row5 (q := g) rfl).1; have h2 : W0.drew.heap.size = W0.heap.size := rfl; omega)
 have HBZ := hidOf (show Below w.heap.size w Z by rw [hZ2]; exact setL_below (Nat.le_refl _) (bl_trans b0 b5))
 have hSZ : RbS b A v sa s sc Z := by
  obtain ⟨h0, h1, h2, h3, h4, h5, h6⟩ := R5.s
  have cz : ∀ p, Z.cell? ⟨b, p, none⟩ = w5.cell? ⟨b, p, none⟩ := fun p => World.cell?_of_block (gZ.block b R5.wst.lt (fun e => by injection e with e; omega))
  exact ⟨by rw [cz]; exact h0, by rw [cz]; exact h1, by rw [cz]; exact h2, by rw [cz]; exact h3, by rw [cz]; exact h4, by rw [cz]; exact h5, by rw [cz]; exact h6⟩
 have t0 := XZ.cs 0 (by simp)
 have t1 := XZ.cs 1 (by simp)
 have t2 := XZ.cs 2 (by simp)
 have t3 := XZ.cs 3 (by simp)
 have t4 := XZ.cs 4 (by simp)
 have t5 := XZ.cs 5 (by simp)
 have t6 := XZ.cs 6 (by simp)
 have t7 := XZ.cs 7 (by simp)
 simp at t0 t1 t2 t3 t4 t5 t6 t7
 clear hZ2 XZ gZ R5 rowZ X5 X0 b5 bd row5
 refine tW 36 (fun K hK => ?_)
 go_simp
 refine hK.out _ _ hSZ (fun hHeld => ?_)
 clear hK K hZ hSZ
 refine wpAnyH_done (by kernel_rfl) ?_ _
 refine NoPanic.normal ?_
 go_wp2_with fail
 exact bodyPost_ret (v := .agg #[.int .i64 v.cp, .int .i64 v.se, .slice (some ⟨g, 0, none⟩) v.it.length v.it.length, .int .i64 v.nx, .slice sa s sc, .slice A.a A.n A.c, .slice A.a' A.n' A.c', .bool v.cl]) (by simp [results, Tryz.results82, go_sem, t0, t1, t2, t3, t4, t5, t6, t7]) rfl ⟨g, HGG.out, rfl, HRZ.out, HBZ.out⟩
open Go.RowKit Go.Maps Pl Il
def subPut (s : Sb) (r : Nat) (z : Int) : Sb := if r = 2 then { s with cu := z } else if r = 3 then { s with gt := z } else if r = 4 then { s with lo := z } else { s with pa := z }
def putA (x : Sa) (r : Nat) (z : Int) : Sa := { x with s := subPut x.s r z }
def putS (xs : List Sa) (k r : Nat) (z : Int) : List Sa := xs.set k (putA (sg xs k) r z)
def putV (sb : List Sb) (k r : Nat) (z : Int) : List Sb := sb.set k (subPut (sb.getD k ⟨0, 0, 0, 0, 0, 0, []⟩) r z)
theorem putA_cells (x : Sa) (r : Nat) (z : Int) (h2 : 2 ≤ r) (h5 : r ≤ 5) : sC (putA x r z) = (sC x).set r (.int .i64 z) := by
  have : r = 2 ∨ r = 3 ∨ r = 4 ∨ r = 5 := by omega
  rcases this with rfl | rfl | rfl | rfl <;> rfl
theorem putS_len (xs : List Sa) (k r : Nat) (z : Int) : (putS xs k r z).length = xs.length := by simp [putS]
theorem putS_get {xs : List Sa} {k r j : Nat} {z : Int} (hj : j < xs.length) : sg (putS xs k r z) j = if k = j then putA (sg xs k) r z else sg xs j := by
  rw [sg_eq (by rw [putS_len]; exact hj)]
  simp only [putS, List.getElem_set]
  split
  · rfl
  · rw [sg_eq hj]
theorem sg_svs2 {xs : List Sa} {k : Nat} (hk : k < xs.length) : (svs xs).getD k ⟨0, 0, 0, 0, 0, 0, []⟩ = (sg xs k).s := by
  rw [List.getD, List.getElem?_eq_getElem (by simpa [svs] using hk), Option.getD_some]
  exact sg_svs hk
theorem putS_svs {xs : List Sa} {k r : Nat} {z : Int} (hk : k < xs.length) : svs (putS xs k r z) = putV (svs xs) k r z := by
  unfold putV
  rw [sg_svs2 hk]
  simp only [svs, putS, List.map_set, putA]
theorem putS_mem {xs : List Sa} {k r : Nat} {z : Int} (hk : k < xs.length) : ∀ x, x ∈ putS xs k r z → ∃ y, y ∈ xs ∧ x.a = y.a ∧ x.n = y.n ∧ x.c = y.c ∧ x.s.fl = y.s.fl := by
  intro x hx
  rcases List.mem_or_eq_of_mem_set hx with h | h
  · exact ⟨x, h, rfl, rfl, rfl, rfl⟩
  · refine ⟨sg xs k, by rw [sg_eq hk]; exact List.getElem_mem _, ?_⟩
    subst h
    refine ⟨rfl, rfl, rfl, ?_⟩
    unfold putA subPut
    split
    · rfl
    · split
      · rfl
      · split <;> rfl
theorem putS_map {α : Type} {xs : List Sa} {k r : Nat} {z : Int} (hk : k < xs.length) (f : Option Addr → Nat → Nat → α) : (putS xs k r z).map (fun x => f x.a x.n x.c) = xs.map fun x => f x.a x.n x.c := by
  refine List.ext_getElem (by simp [putS]) fun i h1 h2 => ?_
  simp only [List.getElem_map, putS, List.getElem_set]
  split
  · rename_i h
    subst h
    simp only [putA, sg_eq hk]
  · rfl
theorem sflat_put {xs : List Sa} {k r : Nat} {z : Int} (hk : k < xs.length) (h2 : 2 ≤ r) (h5 : r ≤ 5) : sflat (putS xs k r z) = (sflat xs).set (k * 7 + r) (.int .i64 z) := by
  have hl : (sflat xs).length = xs.length * 7 := length_sflat xs
  have hl2 : (sflat (putS xs k r z)).length = xs.length * 7 := by rw [length_sflat, putS_len]
  refine List.ext_getElem? fun i => ?_
  rw [List.getElem?_set]
  by_cases hi : i < xs.length * 7
  · have e1 := sflat_at (putS xs k r z) (i / 7) (i % 7) (by rw [putS_len]; omega) (by omega)
    have e2 := sflat_at xs (i / 7) (i % 7) (by omega) (by omega)
    rw [show i / 7 * 7 + i % 7 = i by omega] at e1 e2
    rw [e1, putS_get (by omega)]
    by_cases hik : k = i / 7
    · rw [if_pos hik, putA_cells _ _ _ h2 h5, List.getElem?_set, hik]
      by_cases hr : r = i % 7
      · rw [if_pos hr, if_pos (by show r < 7; omega), if_pos (by omega), if_pos (by rw [hl]; omega)]
      · rw [if_neg hr, if_neg (by omega), e2]
    · rw [if_neg hik, if_neg (by omega), e2]
  · rw [List.getElem?_eq_none (by omega), if_neg (by omega), List.getElem?_eq_none (by omega)]
theorem row_put {B g n c : Nat} {w : World} {xs : List Sa} (h : w.ownsRow B 41 7 (.slice (some ⟨g, 0, none⟩) n c) n (sflat xs)) {k r : Nat} (hk : k < xs.length) (h2 : 2 ≤ r) (h5 : r ≤ 5) (z : Int) :
    (w.setCell ⟨g, k * 7 + r, none⟩ (.int .i64 z)).ownsRow B 41 7 (.slice (some ⟨g, 0, none⟩) n c) n (sflat (putS xs k r z)) ∧ w.grownBy (w.setCell ⟨g, k * 7 + r, none⟩ (.int .i64 z)) (some g) := by
  rw [sflat_put hk h2 h5]
  exact h.stored _ _
theorem row_cell {B g n c : Nat} {w : World} {xs : List Sa} (h : w.ownsRow B 41 7 (.slice (some ⟨g, 0, none⟩) n c) n (sflat xs)) {k r : Nat} (hk : k < xs.length) (hr : r < 7) : w.cell? ⟨g, k * 7 + r, none⟩ = (sC (sg xs k))[r]? := by
  obtain ⟨hl, ⟨e, _⟩ | ⟨g', c', cur, e, hB, hg, hc, hm, hs, ht⟩⟩ := h
  · cases e
  · cases e
    have e2 := sflat_at xs k r hk hr
    have hn : xs.length = n := by rw [length_sflat] at hl; omega
    rw [cell_of_row w g (k * 7 + r) cur _ (0, 0) hg, ← e2, ← ht, List.getElem?_take_of_lt (by omega), Array.getElem?_toList]
theorem RRow.put {B : Nat} {w : World} {M : Rm} {v : Rv} {g k r : Nat} (h : RRow B w M v) (hg : M.sa = some ⟨g, 0, none⟩) (hk : k < M.xs.length) (h2 : 2 ≤ r) (h5 : r ≤ 5) (z : Int) :
    RRow B (w.setCell ⟨g, k * 7 + r, none⟩ (.int .i64 z)) { M with xs := putS M.xs k r z } { v with sb := putV v.sb k r z } := by
  have hA : AptP _ _ _ _ _ := apt_iff.1 h.apt
  have hsb := h.sb
  rw [hg] at hsb
  obtain ⟨r1, gr⟩ := row_put hsb hk h2 h5 z
  have hb : (Value.slice M.sa M.s M.sc).ownBlock = some g := by rw [hg]; rfl
  refine ⟨rowG h.it gr (fun q e e' => ?_), h.its, by rw [hg]; exact r1, fun x hx => ?_, fun x hx p hp => ?_, ?_, rowG h.ln gr (fun q e e' => ?_), rowG h.gs gr (fun q e e' => ?_), ?_⟩
  · injection e with e; subst e; exact hA.is _ e' hb
  · obtain ⟨y, hy, e1, e2, e3, e4⟩ := putS_mem hk x hx
    rw [e1, e2, e3, e4]
    exact rowG (h.fl y hy) gr (fun q e e' => by injection e with e; subst e; exact hA.sx _ (List.mem_map.2 ⟨y, hy, rfl⟩) _ hb e')
  · obtain ⟨y, hy, _, _, _, e4⟩ := putS_mem hk x hx
    rw [e4] at hp
    exact h.fls y hy p hp
  · show svs (putS M.xs k r z) = putV v.sb k r z
    rw [putS_svs hk, h.sv]
  · injection e with e; subst e; exact hA.sl _ hb e'
  · injection e with e; subst e; exact hA.sg _ hb e'
  · have e : blkR { M with xs := putS M.xs k r z } = blkR M := by
      unfold blkR
      simp only
      rw [putS_map hk (fun a n c => (Value.slice a n c).ownBlock)]
    rw [e]; exact h.apt
theorem RBody.put {B b : Nat} {A : Na} {P : Nat → Tm} {f : Nat} {v : Rv} {g s sc : Nat} {ys : List Sa} {w : World} (h : RBody B b A P f v (some ⟨g, 0, none⟩) s sc ys w) {k r : Nat} (hk : k < ys.length) (h2 : 2 ≤ r) (h5 : r ≤ 5) (z : Int) :
    RBody B b A P f { v with sb := putV v.sb k r z } (some ⟨g, 0, none⟩) s sc (putS ys k r z) (w.setCell ⟨g, k * 7 + r, none⟩ (.int .i64 z)) := by
  obtain ⟨r1, gr⟩ := row_put h.srow.sb hk h2 h5 z
  have hgb : g ≠ b := fun e => h.nb.1 (by rw [e]; rfl)
  have ct : ∀ j, (w.setCell ⟨g, k * 7 + r, none⟩ (.int .i64 z)).cell? ⟨b, j, none⟩ = w.cell? ⟨b, j, none⟩ := fun j => World.cell?_setCell_other _ _ _ _ (by intro e; injection e with e1; exact hgb e1)
  have ha := h.srow.apt
  unfold Apt at ha
  rw [List.pairwise_cons] at ha
  refine ⟨⟨by simpa using h.wst.lt, h.wst.ge, by rw [ct]; exact h.wst.c0, by rw [ct]; exact h.wst.c1, fun o => by simpa using h.wst.fr o, ⟨rowG h.wst.rows.one gr (fun q e e' => ?_), rowG h.wst.rows.two gr (fun q e e' => ?_), h.wst.rows.ne⟩, h.wst.ne1, h.wst.ne2⟩, ⟨?_, fun j hj => ?_⟩, by rw [ct]; exact h.c2, by rw [ct]; exact h.fst, by rw [ct]; exact h.nxt, by rw [ct]; exact h.c56, by rw [ct]; exact h.c57, by rw [ct]; exact h.c58, ⟨r1, fun x hx => ?_, fun x hx p hp => ?_, ?_⟩, ?_, h.its, h.sh, h.se, h.few, ⟨h.nb.1, fun x hx => ?_⟩, fun q hq => ⟨(h.ap q hq).1, fun x hx => ?_⟩⟩
  · injection e with e; subst e; exact (h.ap _ (.inl e')).1 rfl
  · injection e with e; subst e; exact (h.ap _ (.inr e')).1 rfl
  · obtain ⟨cur, t, hc, hs1⟩ := h.rnd.blk
    exact ⟨cur, t, by rw [gr.block b h.wst.lt (fun e => by injection e with e; exact hgb e.symm)]; exact hc, hs1⟩
  · obtain ⟨h1, h2, h3⟩ := h.rnd.pl j hj
    exact ⟨by rw [ct]; exact h1, by rw [ct]; exact h2, by rw [ct]; exact h3⟩
  · obtain ⟨y, hy, e1, e2, e3, e4⟩ := putS_mem hk x hx
    rw [e1, e2, e3, e4]
    exact rowG (h.srow.fl y hy) gr (fun q e e' => by injection e with e; subst e; exact ha.1 _ (List.mem_map.2 ⟨y, hy, rfl⟩) _ rfl e')
  · obtain ⟨y, hy, _, _, _, e4⟩ := putS_mem hk x hx
    rw [e4] at hp
    exact h.srow.fls y hy p hp
  · rw [putS_map hk (fun a n c => (Value.slice a n c).ownBlock)]; exact h.srow.apt
  · show svs (putS ys k r z) = putV v.sb k r z
    rw [putS_svs hk, h.sv]
  · obtain ⟨y, hy, e1, e2, e3, _⟩ := putS_mem hk x hx
    rw [e1, e2, e3]; exact h.nb.2 y hy
  · obtain ⟨y, hy, e1, e2, e3, _⟩ := putS_mem hk x hx
    rw [e1, e2, e3]; exact (h.ap q hq).2 y hy
end Go.Proofs.YtdboaoejlkkoeaaGreat
namespace Go.Proofs.YtdboaoejlkkoeaaGreat
open Go.RowKit Pl Il
def IsFn (v : Value) : Prop := ∃ k caps, v = .func (.func k) #[] caps
structure Sys (R : List Nat → World → Value → Pd → Prop) : Prop where
  isfn : ∀ {F u v p}, R F u v p → IsFn v
  frame : ∀ {F u W v p}, R F u v p → u.heap.size ≤ W.heap.size → (∀ j, j ∈ F → W.heap[j]? = u.heap[j]?) → R F W v p
  lt : ∀ {F u v p}, R F u v p → ∀ j, j ∈ F → j < u.heap.size
  all : ∀ u, R [] u (.func (.func 183) #[] #[]) (fun _ => true)
  leaf : ∀ (t : Tm) (u : World), okTm t = true → cntM t.1 = 0 → t.2.2.size ≤ maxLen → Calls Tryz.prog 196 #[.agg #[.int .i64 t.1, .int .i64 t.2.1, .string t.2.2]] u fun e u' => ∃ v F, e = .returned v ∧ R F u' v (leafP t) ∧ (∀ j, j ∈ F → u.heap.size ≤ j) ∧ Below u.heap.size u u'
  nott : ∀ {F u v p} (c : Nat), R F u v p → u.heap[c]? = some (.cells #[v] 185 (0, 0)) → R (c :: F) u (.func (.func 193) #[] #[.pointer (some ⟨c, 0, none⟩)]) (fun b => !(p b))
  andd : ∀ {F F' u v v' p p'} (c c' : Nat), R F u v p → R F' u v' p' → u.heap[c]? = some (.cells #[v] 185 (0, 0)) → u.heap[c']? = some (.cells #[v'] 185 (0, 0)) → R (c :: c' :: (F ++ F')) u (.func (.func 194) #[] #[.pointer (some ⟨c, 0, none⟩), .pointer (some ⟨c', 0, none⟩)]) (fun b => p b && p' b)
  orr : ∀ {F F' u v v' p p'} (c c' : Nat), R F u v p → R F' u v' p' → u.heap[c]? = some (.cells #[v] 185 (0, 0)) → u.heap[c']? = some (.cells #[v'] 185 (0, 0)) → R (c :: c' :: (F ++ F')) u (.func (.func 195) #[] #[.pointer (some ⟨c, 0, none⟩), .pointer (some ⟨c', 0, none⟩)]) (fun b => p b || p' b)
structure Stk (R : List Nat → World → Value → Pd → Prop) (w0 : World) (L : Nat) (v : Value) (vs : List Value) (ps : List Pd) (u : World) : Prop where
  below : Below w0.heap.size w0 u
  hL : w0.heap.size ≤ L
  blk : u.heap[L]? = some (.cells #[v] 207 (0, 0))
  row : u.ownsRow (L + 1) 185 1 v vs.length vs
  len : ps.length = vs.length
  rep : ∀ i, i < vs.length → ∃ F, R F u (vs.getD i .nilFunc) (pg ps i) ∧ ∀ j, j ∈ F → j ≠ L ∧ v.ownBlock ≠ some j
theorem blk_cell {u : World} {L : Nat} {v : Value} {t : TypeId} (h : u.heap[L]? = some (.cells #[v] t (0, 0))) : u.cell? ⟨L, 0, none⟩ = some v ∧ L < u.heap.size ∧ ∀ o, u.frozen? ⟨L, o, none⟩ = false := by
  refine ⟨by simp [World.cell?, h], ?_, fun o => by simp [World.frozen?, h]⟩
  rcases Nat.lt_or_ge L u.heap.size with k | k
  · exact k
  · rw [Array.getElem?_eq_none k] at h; cases h
theorem blk_set {u : World} {L : Nat} {v : Value} {t : TypeId} (h : u.heap[L]? = some (.cells #[v] t (0, 0))) (y : Value) : (u.setCell ⟨L, 0, none⟩ y).heap[L]? = some (.cells #[y] t (0, 0)) := by
  simp [World.setCell, Array.getElem?_modify, h]
theorem infoFn : (Tryz.prog.info? 185).map (fun i => (i.zero, i.size, i.bytes)) = some (some .nilFunc, 1, 8) := by kernel_rfl
theorem append_fn (B m : Nat) (v : Value) (vs : List Value) (f : Value) (w : World) (hf : IsFn f) (ho : w.ownsRow B 185 1 v m vs) (hB : B ≤ w.heap.size) (hs : m + 1 ≤ 4194304) :
    ∃ (g cap : Nat) (w' : World), (Builtin.append_ #[205, 205] 205 #[v, .slice (some ⟨w.heap.size, 0, none⟩) 1 1]).run Tryz.prog (w.alloc (.cells #[f] 185)) = .ok (.slice (some ⟨g, 0, none⟩) (m + 1) cap) w' ∧
      w'.ownsRow B 185 1 (.slice (some ⟨g, 0, none⟩) (m + 1) cap) (m + 1) (vs ++ [f]) ∧ w.grownBy w' v.ownBlock ∧ (v.ownBlock = some g ∨ w.heap.size < g) := by
  obtain ⟨i, hi, hz0, hz1, hz2⟩ := info_parts infoFn
  have hb0 : Below w.heap.size w (w.alloc (.cells #[f] 185)) := bl_alloc (Below.refl _ _) _
  have ho' : (w.alloc (.cells #[f] 185)).ownsRow B 185 1 v m vs := ho.alloc _
  obtain ⟨g, c, w', hr, hown, hg, hgo, _⟩ := run_append_lies (P := Tryz.prog) (w.alloc (.cells #[f] 185)) 205 205 B 185 i _ 1 8 Tryz.underlying205 hi hz0 hz1 hz2 rfl (by omega) v m _ ho' ⟨w.heap.size, 0, none⟩ 1 1 [f] (by simp)
    (fun j u h => by
      have hj : j = 0 := by
        have := (List.getElem?_eq_some_iff.1 h).1
        simp at this; omega
      subst hj
      simp at h
      subst h
      rw [Addr.add_lit]; simp)
    (fun u hu => by
      simp at hu
      subst hu
      obtain ⟨k, caps, rfl⟩ := hf
      rfl) (by omega) (by unfold maxLen; omega) (by omega) (by simp; omega) _ rfl
  refine ⟨g, c, w', hr, hown, ?_, ?_⟩
  · exact ⟨hg.os.trans hb0.os, hg.tape.trans hb0.tape, hg.output.trans hb0.output, Nat.le_trans hb0.size hg.size, fun k hk hne => (hg.block k (Nat.lt_of_lt_of_le hk hb0.size) hne).trans (hb0.block k hk)⟩
  · rcases hgo with h | h
    · exact .inl h
    · right; rw [h]; simp
theorem row_ge {B : Nat} {w : World} {t : TypeId} {v : Value} {n : Nat} {xs : List Value} (h : w.ownsRow B t 1 v n xs) {j : Nat} (hj : v.ownBlock = some j) : B ≤ j ∧ j < w.heap.size := h.lt j hj
theorem getD_snoc_lt {vs : List Value} {x : Value} {i : Nat} (h : i < vs.length) : (vs ++ [x]).getD i .nilFunc = vs.getD i .nilFunc := by
  simp [List.getD, List.getElem?_append_left h]
theorem getD_snoc_eq {vs : List Value} {x : Value} : (vs ++ [x]).getD vs.length .nilFunc = x := by simp [List.getD]
theorem pg_snoc_lt {ps : List Pd} {p : Pd} {i : Nat} (h : i < ps.length) : pg (ps ++ [p]) i = pg ps i := by
  simp [pg, List.getD, List.getElem?_append_left h]
theorem pg_snoc_eq {ps : List Pd} {p : Pd} : pg (ps ++ [p]) ps.length = p := by simp [pg, List.getD]
theorem pg_take {ps : List Pd} {i n : Nat} (h : i < n) : pg (ps.take n) i = pg ps i := by simp [pg, List.getD, List.getElem?_take_of_lt h]
set_option maxHeartbeats 1000000 in
theorem take_any {R : List Nat → World → Value → Pd → Prop} (S : Sys R) (w0 : World) (L : Nat) (v : Value) (vs : List Value) (x : Value) (ps : List Pd) (u : World) (hS : Stk R w0 L v (vs ++ [x]) ps u) (hn : vs.length ≤ 4194304) :
    Calls Tryz.prog 191 #[.pointer (some ⟨L, 0, none⟩)] u fun e u' => e = .returned x ∧ ∃ v', Stk R w0 L v' vs (ps.take vs.length) u' ∧ v'.ownBlock = v.ownBlock ∧ (∃ F, R F u' x (pg ps vs.length) ∧ ∀ j, j ∈ F → j ≠ L ∧ v'.ownBlock ≠ some j) ∧ u'.heap.size = u.heap.size ∧ ∀ k, k ≠ L → u'.heap[k]? = u.heap[k]? := by
  obtain ⟨hbl, hL, hblk, hrow, hlen, hrep⟩ := hS
  simp only [List.length_append, List.length_singleton] at hrow hlen hrep
  obtain ⟨hc, hlt, hfr⟩ := blk_cell hblk
  obtain ⟨g, cap, rfl, _, _⟩ := hrow.form (by omega)
  have hcap : vs.length + 1 ≤ cap := by
    obtain ⟨_, ⟨h0, _⟩ | ⟨g', cap', cur, hv, _, _, hc', _⟩⟩ := id hrow
    · cases h0
    · cases hv; exact hc'
  obtain ⟨F, hR, hF⟩ := hrep vs.length (by omega)
  rw [getD_snoc_eq] at hR
  have hgL : L + 1 ≤ g := (row_ge hrow (j := g) rfl).1
  have hx : u.cell? ⟨g, vs.length, none⟩ = some x := by
    rw [hrow.cellAt vs.length (by omega)]; simp
  obtain ⟨kx, cx, hfx⟩ := S.isfn hR
  obtain ⟨W, hW⟩ : ∃ W, W = u.setCell ⟨L, 0, none⟩ (.slice (some ⟨g, 0, none⟩) vs.length cap) := ⟨_, rfl⟩
  have hWk : ∀ k, k ≠ L → W.heap[k]? = u.heap[k]? := fun k hk => by rw [hW]; exact Below.heap_setCell _ _ _ _ (fun e => hk e)
  have hWs : W.heap.size = u.heap.size := by rw [hW]; simp
  have hWL : W.heap[L]? = some (.cells #[.slice (some ⟨g, 0, none⟩) vs.length cap] 207 (0, 0)) := by rw [hW]; exact blk_set hblk _
  have hrow' : W.ownsRow (L + 1) 185 1 (.slice (some ⟨g, 0, none⟩) vs.length cap) vs.length vs := by
    have h1 := ownsRow_pop (xs := vs) (last := [x]) (by omega) hrow
    rw [hW]
    exact h1.kept (row := some L) ⟨rfl, rfl, rfl, by simp, fun k _ hk => Below.heap_setCell _ _ _ _ (by rintro rfl; exact hk rfl)⟩ (.inr (by simp [Value.ownBlock]; omega))
  have hfin : Stk R w0 L (.slice (some ⟨g, 0, none⟩) vs.length cap) vs (ps.take vs.length) W :=
    ⟨by rw [hW]; exact hbl.setCell (p := ⟨L, 0, none⟩) hL _, hL, hWL, hrow', by rw [List.length_take]; omega, fun i hi => by
      obtain ⟨F', hR', hF'⟩ := hrep i (by omega)
      rw [getD_snoc_lt hi] at hR'
      exact ⟨F', by rw [pg_take hi]; exact S.frame hR' (by omega) (fun j hj => hWk j (hF' j hj).1), fun j hj => ⟨(hF' j hj).1, (hF' j hj).2⟩⟩⟩
  have HF := hidOf (And.intro hfin (And.intro (S.frame hR (W := W) (by omega) (fun j hj => hWk j (hF j hj).1)) (And.intro hWs hWk)))
  have hFF := hidOf hF
  clear hfin hrow' hWL hWs hWk hR hF hrep hrow hblk hbl hlen
  subst hfx
  have e1 : ((vs.length + 1 : Nat) : Int) - 1 = (vs.length : Int) := by omega
  go_enter Tryz.func191, Tryz.ntmps191
  go_wp2
  rw [← hW]
  go_ret
  exact ⟨rfl, _, HF.out.1, rfl, ⟨F, HF.out.2.1, fun j hj => hFF.out j hj⟩, HF.out.2.2.1, HF.out.2.2.2⟩
end Go.Proofs.YtdboaoejlkkoeaaGreat
