/-
  The program's ring: a message more in its round
-/
import Derived.Test.YtihdglmiecifjaaGreatZRn22
namespace Go.Proofs.YtihdglmiecifjaaGreat
open Go.RowKit Go.Maps Pl Il
def updP (P : Nat → Tm) (s : Nat) (m : Tm) : Nat → Tm := fun j => if j = s then m else P j
def setM (w : World) (b o : Nat) (m : Tm) : World := ((w.setCell ⟨b, o, none⟩ (.int .i64 m.1)).setCell ⟨b, o + 1, none⟩ (.int .i64 m.2.1)).setCell ⟨b, o + 2, none⟩ (.string m.2.2)
theorem setM_other (w : World) (b o : Nat) (m : Tm) (p : Nat) (h : p < o ∨ o + 3 ≤ p) : (setM w b o m).cell? ⟨b, p, none⟩ = w.cell? ⟨b, p, none⟩ := by
  unfold setM
  rw [World.cell?_setCell_other _ _ _ _ (by intro e; injection e with _ e2; omega), World.cell?_setCell_other _ _ _ _ (by intro e; injection e with _ e2; omega), World.cell?_setCell_other _ _ _ _ (by intro e; injection e with _ e2; omega)]
theorem setM_grown (w : World) (b o : Nat) (m : Tm) : w.grownBy (setM w b o m) (some b) := ((grown_setC _ _ _ _).trans (grown_setC _ _ _ _)).trans (grown_setC _ _ _ _)
theorem RndB.put {b o s : Nat} {P : Nat → Tm} {w : World} (h : RndB b o P w) (hs : s < 17) (m : Tm) : RndB b o (updP P s m) (setM w b (o + s * 3) m) := by
  obtain ⟨c0, c1, c2⟩ := h.pl s hs
  refine ⟨?_, fun j hj => ?_⟩
  · obtain ⟨cur, t, hg, hz⟩ := h.blk
    have g1 := heap_setCell_same w b (o + s * 3) cur t (.int .i64 m.1) hg
    have g2 := heap_setCell_same _ b (o + s * 3 + 1) _ t (.int .i64 m.2.1) g1
    have g3 := heap_setCell_same _ b (o + s * 3 + 2) _ t (.string m.2.2) g2
    exact ⟨_, t, g3, by simpa using hz⟩
  · by_cases hj2 : j = s
    · subst hj2
      unfold updP
      rw [if_pos rfl]
      unfold setM
      refine ⟨?_, ?_, ?_⟩
      · rw [World.cell?_setCell_other _ _ _ _ (by intro e; injection e with _ e2; omega), World.cell?_setCell_other _ _ _ _ (by intro e; injection e with _ e2; omega)]
        exact World.cell?_setCell_same _ _ _ c0
      · rw [World.cell?_setCell_other _ _ _ _ (by intro e; injection e with _ e2; omega)]
        exact World.cell?_setCell_same _ _ _ (show World.cell? _ _ = some (Value.int .i64 (P j).2.1) by rw [World.cell?_setCell_other _ _ _ _ (by intro e; injection e with _ e2; omega)]; exact c1)
      · exact World.cell?_setCell_same _ _ _ (show World.cell? _ _ = some (Value.string (P j).2.2) by rw [World.cell?_setCell_other _ _ _ _ (by intro e; injection e with _ e2; omega), World.cell?_setCell_other _ _ _ _ (by intro e; injection e with _ e2; omega)]; exact c2)
    · unfold updP
      rw [if_neg hj2, setM_other _ _ _ _ _ (by omega), setM_other _ _ _ _ _ (by omega), setM_other _ _ _ _ _ (by omega)]
      exact h.pl j hj
theorem itemsP_add {P : Nat → Tm} {f n : Nat} {m : Tm} (hn : n ≤ 16) : itemsP (updP P ((f + n) % 17) m) f (n + 1) = itemsP P f n ++ [m] := by
  unfold itemsP
  rw [List.range_succ, List.map_append]
  congr 1
  · refine List.map_congr_left fun i hi => ?_
    have := List.mem_range.1 hi
    unfold updP
    rw [if_neg (by omega)]
  · simp [updP]
theorem RBody.add {B b : Nat} {A : Na} {P : Nat → Tm} {f : Nat} {v : Rv} {sa : Option Addr} {s sc : Nat} {ys : List Sa} {w : World} (m : Tm) (h : RBody B b A P f v sa s sc ys w) (hi : v.it.length ≤ 16) (hf : f + v.it.length ≤ 1000000000) (hm : m.2.2.size ≤ maxLen) :
    RBody B b A (updP P ((f + v.it.length) % 17) m) f { v with it := v.it ++ [m], se := v.se + 1 } sa s sc ys ((setM w b (3 + (f + v.it.length) % 17 * 3) m).setCell ⟨b, 55, none⟩ (.int .i64 ((f + v.it.length + 1 : Nat) : Int))) := by
  have hs : (f + v.it.length) % 17 < 17 := Nat.mod_lt _ (by omega)
  obtain ⟨s0, hs0⟩ : ∃ s0, (f + v.it.length) % 17 = s0 := ⟨_, rfl⟩
  rw [hs0] at hs ⊢
  have hg : w.grownBy ((setM w b (3 + s0 * 3) m).setCell ⟨b, 55, none⟩ (.int .i64 ((f + v.it.length + 1 : Nat) : Int))) (some b) := (setM_grown _ _ _ _).trans (grown_setC _ _ _ _)
  have ct : ∀ j, (j < 3 ∨ 54 ≤ j) → j ≠ 55 → ((setM w b (3 + s0 * 3) m).setCell ⟨b, 55, none⟩ (.int .i64 ((f + v.it.length + 1 : Nat) : Int))).cell? ⟨b, j, none⟩ = w.cell? ⟨b, j, none⟩ := fun j hj hj2 => by
    rw [World.cell?_setCell_other _ _ _ _ (by intro e; injection e with _ e2; omega), setM_other _ _ _ _ _ (by omega)]
  have hw := (((h.wst.setc (3 + s0 * 3) (by omega) (.int .i64 m.1)).setc (3 + s0 * 3 + 1) (by omega) (.int .i64 m.2.1)).setc (3 + s0 * 3 + 2) (by omega) (.string m.2.2)).setc 55 (by omega) (.int .i64 ((f + v.it.length + 1 : Nat) : Int))
  refine ⟨hw, (h.rnd.put hs m).set 55 (by omega) _, by rw [ct 2 (by omega) (by omega)]; exact h.c2, by rw [ct (3 + 51) (by omega) (by omega)]; exact h.fst, ?_, by rw [ct 56 (by omega) (by omega)]; exact h.c56, by rw [ct 57 (by omega) (by omega)]; exact h.c57, by rw [ct 58 (by omega) (by omega)]; exact h.c58, ⟨rowG h.srow.sb hg (fun q e => by injection e with e; rw [← e]; exact h.nb.1), fun x hx => rowG (h.srow.fl x hx) hg (fun q e => by injection e with e; rw [← e]; exact h.nb.2 x hx), h.srow.fls, h.srow.apt⟩, h.sv, ?_, fun j => ?_, ?_, ?_, h.nb, h.ap⟩
  · have e : (v.it ++ [m]).length = v.it.length + 1 := by simp
    show _ = some (Value.int .i64 ((f + (v.it ++ [m]).length : Nat) : Int))
    rw [e]
    exact World.cell?_setCell_same _ _ _ (by rw [setM_other _ _ _ _ _ (by omega)]; exact h.nxt)
  · show itemsP _ f (v.it ++ [m]).length = v.it ++ [m]
    have e : (v.it ++ [m]).length = v.it.length + 1 := by simp
    rw [e, ← hs0, itemsP_add hi, h.its]
  · unfold updP
    split
    · exact hm
    · exact h.sh j
  · show v.se + 1 = ((f + (v.it ++ [m]).length : Nat) : Int)
    have := h.se
    simp
    omega
  · show (v.it ++ [m]).length ≤ 17 ∧ f + (v.it ++ [m]).length ≤ 2000000000
    simp
    omega
set_option maxRecDepth 100000 in
set_option maxHeartbeats 4000000 in
theorem addM_any (B b : Nat) (A : Na) (P : Nat → Tm) (f : Nat) (v : Rv) (sa : Option Addr) (s sc : Nat) (ys : List Sa) (m1 m2 : Int) (m3 : ByteArray) (w : World) (hR : RBody B b A P f v sa s sc ys w) (hi : v.it.length ≤ 16) (hf : f + v.it.length ≤ 1000000000) (hm : m3.size ≤ maxLen) :
  Calls Tryz.prog 144 #[.pointer (some ⟨b, 3, none⟩), .agg #[.int .i64 m1, .int .i64 m2, .string m3]] w fun e w' => e = .returned (.tuple #[]) ∧ RBody B b A (updP P ((f + v.it.length) % 17) (m1, m2, m3)) f { v with it := v.it ++ [(m1, m2, m3)], se := v.se + 1 } sa s sc ys w' ∧ w.grownBy w' (some b) := by
 obtain ⟨W0, hW0⟩ : ∃ W, W = w.alloc (.cells #[.int .i64 m1, .int .i64 m2, .string m3] 30) := ⟨_, rfl⟩
 have B0 : Below w.heap.size w W0 := by rw [hW0]; exact bl_alloc (Below.refl _ _) _
 have X0 : BoxL w.heap.size [.int .i64 m1, .int .i64 m2, .string m3] W0 := by rw [hW0]; exact BoxL.new w [.int .i64 m1, .int .i64 m2, .string m3] _
 have R0 := hR.keep B0
 have hlt := hR.wst.lt
 obtain ⟨n, hn⟩ : ∃ n, f + v.it.length = n := ⟨_, rfl⟩
 have HN := hidOf hn
 have hs : n % 17 < 17 := Nat.mod_lt _ (by omega)
 have hr : (n : Int) % 17 = ((n % 17 : Nat) : Int) := by omega
 obtain ⟨s0, hS⟩ : ∃ s0, n % 17 = s0 := ⟨_, rfl⟩
 rw [hS] at hs hr
 have HS := hidOf hS
 obtain ⟨c0, c1, c2⟩ := R0.rnd.pl s0 hs
 have c55 : W0.cell? ⟨b, 55, none⟩ = some (.int .i64 (n : Int)) := by have h := R0.nxt; rw [hn] at h; exact h
 have fr := fun p => R0.rnd.fr p
 have x0 : W0.cell? ⟨w.heap.size, 0, none⟩ = some (.int .i64 m1) := X0.cs 0 (by simp)
 have x1 : W0.cell? ⟨w.heap.size, 1, none⟩ = some (.int .i64 m2) := X0.cs 1 (by simp)
 have x2 : W0.cell? ⟨w.heap.size, 2, none⟩ = some (.string m3) := X0.cs 2 (by simp)
 have hsi : (s0 : Int) < 17 := by omega
 have hne : ¬ b = w.heap.size := by omega
 have hne2 : ¬ w.heap.size = b := by omega
 obtain ⟨Y, hY⟩ : ∃ Y, ((W0.setCell ⟨b, 3 + s0 * 3, none⟩ (.int .i64 m1)).setCell ⟨b, 3 + s0 * 3 + 1, none⟩ (.int .i64 m2)).setCell ⟨b, 3 + s0 * 3 + 2, none⟩ (.string m3) = Y := ⟨_, rfl⟩
 have hY2 : Y = setM W0 b (3 + s0 * 3) (m1, m2, m3) := by rw [← hY]; rfl
 have y55 : Y.cell? ⟨b, 55, none⟩ = some (.int .i64 (n : Int)) := by rw [hY2, setM_other _ _ _ _ _ (by omega)]; exact c55
 have yf : ∀ p, Y.frozen? ⟨b, p, none⟩ = false := fun p => by rw [← hY]; simpa using fr p
 have HAd := hidOf (R0.add (m1, m2, m3) hi hf hm)
 have HGr := hidOf (show w.grownBy Y (some b) by rw [hY2]; exact (grown_of B0).trans (setM_grown _ _ _ _))
 have hnb : n ≤ 1000000000 := by omega
 have hw1 : IntKind.i64.wrap ((n : Int) + 1) = (n : Int) + 1 := by rw [IntKind.wrap_i64]; omega
 have HY2 := hidOf hY2
 clear hn hS R0 hR hi hf hm B0 X0 hY2 hlt
 go_enter Tryz.func144, Tryz.ntmps144
 go_upto_region 1 with fail
 rw [← hW0]
 clear hW0
 go_region
 try rw [hY]
 clear hY c0 c1 c2 c55 fr x0 x1 x2
 obtain ⟨Yd, hYd⟩ : ∃ W, Y.drew = W := ⟨_, rfl⟩
 have z55 : Yd.cell? ⟨b, 55, none⟩ = some (.int .i64 (n : Int)) := by rw [← hYd]; exact y55
 have zf : ∀ p, Yd.frozen? ⟨b, p, none⟩ = false := fun p => by rw [← hYd]; exact yf p
 have HF := hidOf (show RBody B b A (updP P ((f + v.it.length) % 17) (m1, m2, m3)) f { v with it := v.it ++ [(m1, m2, m3)], se := v.se + 1 } sa s sc ys (Yd.setCell ⟨b, 55, none⟩ (.int .i64 ((n : Int) + 1))) ∧ w.grownBy (Yd.setCell ⟨b, 55, none⟩ (.int .i64 ((n : Int) + 1))) (some b) by
  refine ⟨?_, by rw [← hYd]; exact (HGr.out.trans (grown_of (Below.refl _ _).drew)).trans (grown_setC _ _ _ _)⟩
  have h := HAd.out.keep (Below.refl _ _).drew
  rw [HN.out, HS.out, ← HY2.out, show ((n + 1 : Nat) : Int) = (n : Int) + 1 by omega] at h
  rw [HN.out, HS.out, ← hYd]
  exact h)
 try rw [hYd]
 clear hYd y55 yf HY2 HAd HGr
 go_wp2_with fail
 go_end0
 exact ⟨rfl, HF.out.1, HF.out.2⟩
end Go.Proofs.YtihdglmiecifjaaGreat
