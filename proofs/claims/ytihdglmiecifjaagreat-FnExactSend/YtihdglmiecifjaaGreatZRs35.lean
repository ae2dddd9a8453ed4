/-
  The program's ring: a message more in its round
  Walks of the specification's filters: what a term that takes nothing s
  Walks of the specification's filters: what a filter leaves of a messag
  The specification's ring: a subscriber reads once
-/
import Derived.Test.YtihdglmiecifjaaGreatZRs33
namespace Go.Proofs.YtihdglmiecifjaaGreat
open Go.RowKit Go.Maps Pl Il
/-- The places with m in place s. -/
def updP (P : Nat → Tm) (s : Nat) (m : Tm) : Nat → Tm := fun j => if j = s then m else P j
/-- Three cells are written over. -/
def setM (w : World) (b o : Nat) (m : Tm) : World := ((w.setCell ⟨b, o, none⟩ (.int .i64 m.1)).setCell ⟨b, o + 1, none⟩ (.int .i64 m.2.1)).setCell ⟨b, o + 2, none⟩ (.string m.2.2)
theorem setM_other (w : World) (b o : Nat) (m : Tm) (p : Nat) (h : p < o ∨ o + 3 ≤ p) : (setM w b o m).cell? ⟨b, p, none⟩ = w.cell? ⟨b, p, none⟩ := by
  unfold setM
  rw [World.cell?_setCell_other _ _ _ _ (by intro e; injection e with _ e2; omega), World.cell?_setCell_other _ _ _ _ (by intro e; injection e with _ e2; omega), World.cell?_setCell_other _ _ _ _ (by intro e; injection e with _ e2; omega)]
theorem setM_grown (w : World) (b o : Nat) (m : Tm) : w.grownBy (setM w b o m) (some b) := ((grown_setC _ _ _ _).trans (grown_setC _ _ _ _)).trans (grown_setC _ _ _ _)
theorem RndB.put {b o s : Nat} {P : Nat → Tm} {w : World} (h : RndB b o P w) (hs : s < 17) (m : Tm) : RndB b o (updP P s m) (setM w b (o + s * 3) m) := by
  obtain ⟨c0, c1, c2⟩ := h.pl s hs
  refine ⟨?_, fun j hj => ?_⟩
  · obtain ⟨cur, t, hg, hz⟩ := h.blk
    have g1 := heap_setCell_same w b (o + s * 3) cur t (.int .i64 m.1) hg
    have g2 := heap_setCell_same _ b (o + s * 3 + 1) _ t (.int .i64 m.2.1) g1
    have g3 := heap_setCell_same _ b (o + s * 3 + 2) _ t (.string m.2.2) g2
    exact ⟨_, t, g3, by simpa using hz⟩
  · by_cases hj2 : j = s
    · subst hj2
      unfold updP
      rw [if_pos rfl]
      unfold setM
      refine ⟨?_, ?_, ?_⟩
      · rw [World.cell?_setCell_other _ _ _ _ (by intro e; injection e with _ e2; omega), World.cell?_setCell_other _ _ _ _ (by intro e; injection e with _ e2; omega)]
        exact World.cell?_setCell_same _ _ _ c0
      · rw [World.cell?_setCell_other _ _ _ _ (by intro e; injection e with _ e2; omega)]
        exact World.cell?_setCell_same _ _ _ (show World.cell? _ _ = some (Value.int .i64 (P j).2.1) by rw [World.cell?_setCell_other _ _ _ _ (by intro e; injection e with _ e2; omega)]; exact c1)
      · exact World.cell?_setCell_same _ _ _ (show World.cell? _ _ = some (Value.string (P j).2.2) by rw [World.cell?_setCell_other _ _ _ _ (by intro e; injection e with _ e2; omega), World.cell?_setCell_other _ _ _ _ (by intro e; injection e with _ e2; omega)]; exact c2)
    · unfold updP
      rw [if_neg hj2, setM_other _ _ _ _ _ (by omega), setM_other _ _ _ _ _ (by omega), setM_other _ _ _ _ _ (by omega)]
      exact h.pl j hj
theorem itemsP_add {P : Nat → Tm} {f n : Nat} {m : Tm} (hn : n ≤ 16) : itemsP (updP P ((f + n) % 17) m) f (n + 1) = itemsP P f n ++ [m] := by
  unfold itemsP
  rw [List.range_succ, List.map_append]
  congr 1
  · refine List.map_congr_left fun i hi => ?_
    have := List.mem_range.1 hi
    unfold updP
    rw [if_neg (by omega)]
  · simp [updP]
/-- A message more in a body. -/
theorem RBody.add {B b : Nat} {A : Na} {P : Nat → Tm} {f : Nat} {v : Rv} {sa : Option Addr} {s sc : Nat} {ys : List Sa} {w : World} (m : Tm) (h : RBody B b A P f v sa s sc ys w) (hi : v.it.length ≤ 16) (hf : f + v.it.length ≤ 1000000000) (hm : m.2.2.size ≤ maxLen) :
    RBody B b A (updP P ((f + v.it.length) % 17) m) f { v with it := v.it ++ [m], se := v.se + 1 } sa s sc ys ((setM w b (3 + (f + v.it.length) % 17 * 3) m).setCell ⟨b, 55, none⟩ (.int .i64 ((f + v.it.length + 1 : Nat) : Int))) := by
  have hs : (f + v.it.length) % 17 < 17 := Nat.mod_lt _ (by omega)
  obtain ⟨s0, hs0⟩ : ∃ s0, (f + v.it.length) % 17 = s0 := ⟨_, rfl⟩
  rw [hs0] at hs ⊢
  have hg : w.grownBy ((setM w b (3 + s0 * 3) m).setCell ⟨b, 55, none⟩ (.int .i64 ((f + v.it.length + 1 : Nat) : Int))) (some b) := (setM_grown _ _ _ _).trans (grown_setC _ _ _ _)
  have ct : ∀ j, (j < 3 ∨ 54 ≤ j) → j ≠ 55 → ((setM w b (3 + s0 * 3) m).setCell ⟨b, 55, none⟩ (.int .i64 ((f + v.it.length + 1 : Nat) : Int))).cell? ⟨b, j, none⟩ = w.cell? ⟨b, j, none⟩ := fun j hj hj2 => by
    rw [World.cell?_setCell_other _ _ _ _ (by intro e; injection e with _ e2; omega), setM_other _ _ _ _ _ (by omega)]
  have hw := (((h.wst.setc (3 + s0 * 3) (by omega) (.int .i64 m.1)).setc (3 + s0 * 3 + 1) (by omega) (.int .i64 m.2.1)).setc (3 + s0 * 3 + 2) (by omega) (.string m.2.2)).setc 55 (by omega) (.int .i64 ((f + v.it.length + 1 : Nat) : Int))
  refine ⟨hw, (h.rnd.put hs m).set 55 (by omega) _, by rw [ct 2 (by omega) (by omega)]; exact h.c2, by rw [ct (3 + 51) (by omega) (by omega)]; exact h.fst, ?_, by rw [ct 56 (by omega) (by omega)]; exact h.c56, by rw [ct 57 (by omega) (by omega)]; exact h.c57, by rw [ct 58 (by omega) (by omega)]; exact h.c58, ⟨rowG h.srow.sb hg (fun q e => by injection e with e; rw [← e]; exact h.nb.1), fun x hx => rowG (h.srow.fl x hx) hg (fun q e => by injection e with e; rw [← e]; exact h.nb.2 x hx), h.srow.fls, h.srow.apt⟩, h.sv, ?_, fun j => ?_, ?_, ?_, h.nb, h.ap⟩
  · have e : (v.it ++ [m]).length = v.it.length + 1 := by simp
    show _ = some (Value.int .i64 ((f + (v.it ++ [m]).length : Nat) : Int))
    rw [e]
    exact World.cell?_setCell_same _ _ _ (by rw [setM_other _ _ _ _ _ (by omega)]; exact h.nxt)
  · show itemsP _ f (v.it ++ [m]).length = v.it ++ [m]
    have e : (v.it ++ [m]).length = v.it.length + 1 := by simp
    rw [e, ← hs0, itemsP_add hi, h.its]
  · unfold updP
    split
    · exact hm
    · exact h.sh j
  · show v.se + 1 = ((f + (v.it ++ [m]).length : Nat) : Int)
    have := h.se
    simp
    omega
  · show (v.it ++ [m]).length ≤ 17 ∧ f + (v.it ++ [m]).length ≤ 2000000000
    simp
    omega
set_option maxRecDepth 100000 in
set_option maxHeartbeats 4000000 in
theorem addM_any (B b : Nat) (A : Na) (P : Nat → Tm) (f : Nat) (v : Rv) (sa : Option Addr) (s sc : Nat) (ys : List Sa) (m1 m2 : Int) (m3 : ByteArray) (w : World) (hR : RBody B b A P f v sa s sc ys w) (hi : v.it.length ≤ 16) (hf : f + v.it.length ≤ 1000000000) (hm : m3.size ≤ maxLen) :
  Calls Tryz.prog 144 #[.pointer (some ⟨b, 3, none⟩), .agg #[.int .i64 m1, .int .i64 m2, .string m3]] w fun e w' => e = .returned (.tuple #[]) ∧ RBody B b A (updP P ((f + v.it.length) % 17) (m1, m2, m3)) f { v with it := v.it ++ [(m1, m2, m3)], se := v.se + 1 } sa s sc ys w' ∧ w.grownBy w' (some b) := by
 obtain ⟨W0, hW0⟩ : ∃ W, W = w.alloc (.cells #[.int .i64 m1, .int .i64 m2, .string m3] 30) := ⟨_, rfl⟩
 have B0 : Below w.heap.size w W0 := by rw [hW0]; exact bl_alloc (Below.refl _ _) _
 have X0 : BoxL w.heap.size [.int .i64 m1, .int .i64 m2, .string m3] W0 := by rw [hW0]; exact BoxL.new w [.int .i64 m1, .int .i64 m2, .string m3] _
 have R0 := hR.keep B0
 have hlt := hR.wst.lt
 obtain ⟨n, hn⟩ : ∃ n, f + v.it.length = n := ⟨_, rfl⟩
 have HN := hidOf hn
 have hs : n % 17 < 17 := Nat.mod_lt _ (by omega)
 have hr : (n : Int) % 17 = ((n % 17 : Nat) : Int) := by omega
 obtain ⟨s0, hS⟩ : ∃ s0, n % 17 = s0 := ⟨_, rfl⟩
 rw [hS] at hs hr
 have HS := hidOf hS
 obtain ⟨c0, c1, c2⟩ := R0.rnd.pl s0 hs
 have c55 : W0.cell? ⟨b, 55, none⟩ = some (.int .i64 (n : Int)) := by have h := R0.nxt; rw [hn] at h; exact h
 have fr := fun p => R0.rnd.fr p
 have x0 : W0.cell? ⟨w.heap.size, 0, none⟩ = some (.int .i64 m1) := X0.cs 0 (by simp)
 have x1 : W0.cell? ⟨w.heap.size, 1, none⟩ = some (.int .i64 m2) := X0.cs 1 (by simp)
 have x2 : W0.cell? ⟨w.heap.size, 2, none⟩ = some (.string m3) := X0.cs 2 (by simp)
 have hsi : (s0 : Int) < 17 := by omega
 have hne : ¬ b = w.heap.size := by omega
 have hne2 : ¬ w.heap.size = b := by omega
 obtain ⟨Y, hY⟩ : ∃ Y, ((W0.setCell ⟨b, 3 + s0 * 3, none⟩ (.int .i64 m1)).setCell ⟨b, 3 + s0 * 3 + 1, none⟩ (.int .i64 m2)).setCell ⟨b, 3 + s0 * 3 + 2, none⟩ (.string m3) = Y := ⟨_, rfl⟩
 have hY2 : Y = setM W0 b (3 + s0 * 3) (m1, m2, m3) := by rw [← hY]; rfl
 have y55 : Y.cell? ⟨b, 55, none⟩ = some (.int .i64 (n : Int)) := by rw [hY2, setM_other _ _ _ _ _ (by omega)]; exact c55
 have yf : ∀ p, Y.frozen? ⟨b, p, none⟩ = false := fun p => by rw [← hY]; simpa using fr p
 have HAd := hidOf (R0.add (m1, m2, m3) hi hf hm)
 have HGr := hidOf (show w.grownBy Y (some b) by rw [hY2]; exact (grown_of B0).trans (setM_grown _ _ _ _))
 have hnb : n ≤ 1000000000 := by omega
 have hw1 : IntKind.i64.wrap ((n : Int) + 1) = (n : Int) + 1 := by rw [IntKind.wrap_i64]; omega
 have HY2 := hidOf hY2
 clear hn hS R0 hR hi hf hm B0 X0 hY2 hlt
 go_enter Tryz.func144, Tryz.ntmps144
 go_upto_region 1 with fail
 rw [← hW0]
 clear hW0
 go_region
 try rw [hY]
 clear hY c0 c1 c2 c55 fr x0 x1 x2
 obtain ⟨Yd, hYd⟩ : ∃ W, Y.drew = W := ⟨_, rfl⟩
 have z55 : Yd.cell? ⟨b, 55, none⟩ = some (.int .i64 (n : Int)) := by rw [← hYd]; exact y55
 have zf : ∀ p, Yd.frozen? ⟨b, p, none⟩ = false := fun p => by rw [← hYd]; exact yf p
 have HF := hidOf (show RBody B b A (updP P ((f + v.it.length) % 17) (m1, m2, m3)) f { v with it := v.it ++ [(m1, m2, m3)], se := v.se + 1 } sa s sc ys (Yd.setCell ⟨b, 55, none⟩ (.int .i64 ((n : Int) + 1))) ∧ w.grownBy (Yd.setCell ⟨b, 55, none⟩ (.int .i64 ((n : Int) + 1))) (some b) by
  refine ⟨?_, by rw [← hYd]; exact (HGr.out.trans (grown_of (Below.refl _ _).drew)).trans (grown_setC _ _ _ _)⟩
  have h := HAd.out.keep (Below.refl _ _).drew
  rw [HN.out, HS.out, ← HY2.out, show ((n + 1 : Nat) : Int) = (n : Int) + 1 by omega] at h
  rw [HN.out, HS.out, ← hYd]
  exact h)
 try rw [hYd]
 clear hYd y55 yf HY2 HAd HGr
 go_wp2_with fail
 go_end0
 exact ⟨rfl, HF.out.1, HF.out.2⟩
end Go.Proofs.YtihdglmiecifjaaGreat
namespace Go.Proofs.YtihdglmiecifjaaGreat
open Go.RowKit Pl Il
theorem inL_short : ∀ (l sub : List UInt8), l.length < sub.length → inL sub l = false
  | [], sub, h => by
    cases sub with
    | nil => simp at h
    | cons _ _ => rfl
  | x :: l, sub, h => by
    unfold inL
    rw [inL_short l sub (by simp at h; omega), Bool.or_false, Bool.eq_false_iff]
    intro e
    have := (List.isPrefixOf_iff_prefix.1 e).length_le
    omega
theorem inL_step {l sub : List UInt8} {i : Nat} (h : ¬ sub.isPrefixOf (l.drop i) = true) : inL sub (l.drop i) = inL sub (l.drop (i + 1)) := by
  rcases Nat.lt_or_ge i l.length with hi | hi
  · have e : inL sub (l.drop i) = (sub.isPrefixOf (l[i] :: l.drop (i + 1)) || inL sub (l.drop (i + 1))) := by
      conv => lhs; rw [List.drop_eq_getElem_cons hi]
      rfl
    rw [List.drop_eq_getElem_cons hi] at h
    rw [e, Bool.eq_false_iff.2 h, Bool.false_or]
  · rw [List.drop_of_length_le hi, List.drop_of_length_le (by omega)]
theorem inL_hit {l sub : List UInt8} (h : sub.isPrefixOf l = true) : inL sub l = true := by
  cases l with
  | nil =>
    cases sub with
    | nil => rfl
    | cons _ _ => simp at h
  | cons x l => unfold inL; simp [h]
theorem ext_drop (s : ByteArray) (i k : Nat) : (s.extract i (i + k)).toList = (s.toList.drop i).take k := by
  rw [ByteArray.toList_eq, ByteArray.toList_eq, ByteArray.data_extract, Array.toList_extract]
  simp [List.extract]
theorem pre_eq {s t : ByteArray} {i : Nat} : ((s.extract i (i + t.size)).toList == t.toList) = t.toList.isPrefixOf (s.toList.drop i) := by
  have hl : t.toList.length = t.size := by rw [ByteArray.toList_eq]; rfl
  rw [ext_drop, Bool.eq_iff_iff, List.isPrefixOf_iff_prefix, List.prefix_iff_eq_take, hl]
  simp only [beq_iff_eq]
  exact eq_comm
set_option maxHeartbeats 1000000 in
theorem l8Holds_any (s t : ByteArray) (w : World) (hs : s.size ≤ 40) (ht : t.size ≤ 10) :
    Calls Tryz.prog 176 #[.string s, .string t] w fun e w' => e = .returned (.bool (inL t.toList s.toList)) ∧ w' = w := by
  go_enter Tryz.func176, Tryz.ntmps176
  go_wp2
  go_loop [5] (fun x => ∃ i : Nat, i ≤ s.size + 1 ∧ x = .int .i64 i ∧ inL t.toList (s.toList.drop i) = inL t.toList s.toList ∧ (0 < i → 0 < t.size)) (fun x => s.size + 1 - (intOf x).toNat)
  case atStart => exact ⟨0, Nat.zero_le _, rfl, rfl, fun h => by omega⟩
  case round =>
    obtain ⟨i, hi, rfl, hp, hpos⟩ := hrel
    have hl : s.toList.length = s.size := by rw [ByteArray.toList_eq]; rfl
    have hl' : t.toList.length = t.size := by rw [ByteArray.toList_eq]; rfl
    have HP := hidOf hp
    have HL := hidOf (And.intro hl hl')
    clear hp hl hl'
    by_cases hle : i + t.size ≤ s.size
    · have h1 : (i : Int) + (t.size : Int) ≤ (s.size : Int) := by omega
      have hpe := @pre_eq s t i
      cases hq : t.toList.isPrefixOf (s.toList.drop i)
      · rw [hq] at hpe
        have HQ := hidOf (inL_step (l := s.toList) (sub := t.toList) (i := i) (by rw [hq]; simp))
        have HN : 0 < t.size := by
          rcases Nat.eq_zero_or_pos t.size with h0 | h0
          · have : t.toList = [] := List.length_eq_zero_iff.1 (by rw [HL.out.2, h0])
            rw [this] at hq
            simp at hq
          · exact h0
        clear hq
        go_wp2
        go_round
        case rel => exact ⟨i + 1, by omega, by go_num, by rw [← HP.out, HQ.out], fun _ => HN⟩
        case measure => simp [intOf]; omega
      · rw [hq] at hpe
        have HQ := hidOf (inL_hit hq)
        clear hq
        go_wp2
        go_ret
        exact ⟨rbool (by rw [← HP.out, HQ.out]), rfl⟩
    · have h1 : ¬ (i : Int) + (t.size : Int) ≤ (s.size : Int) := by omega
      have HQ := hidOf (inL_short (s.toList.drop i) t.toList (by rw [List.length_drop, HL.out.1, HL.out.2]; omega))
      go_wp2
      go_ret
      exact ⟨rbool (by rw [← HP.out, HQ.out]), rfl⟩
theorem okB_two {k n : Int} {s : ByteArray} (h : okB k n s = true) : k = 1 ∨ k = 2 ∧ s.size ≤ 40 := by
  by_cases h1 : k = 1
  · exact .inl h1
  · by_cases h2 : k = 2
    · subst h2
      simp [okB, plainB] at h
      exact .inr ⟨rfl, h.2.1⟩
    · simp [okB, h1, h2] at h
theorem ok_67 {op n : Int} {t : ByteArray} (h : okTm (op, n, t) = true) (ho : op = 6 ∨ op = 7) : t.size ≤ 10 := by
  rcases ho with rfl | rfl
  · simp [okTm, partB] at h; omega
  · simp [okTm, partB] at h; omega
set_option maxHeartbeats 4000000 in
theorem l8Says_any (t : Tm) (k n : Int) (s : ByteArray) (w : World) (hok : okTm t = true) (hc : cntM t.1 = 0) (hm : okB k n s = true) :
    Calls Tryz.prog 148 #[.agg #[.int .i64 t.1, .int .i64 t.2.1, .string t.2.2], .agg #[.int .i64 k, .int .i64 n, .string s]] w fun e w' => e = .returned (.bool (leafP t (bdOf k n s))) ∧ Below w.heap.size w w' := by
  obtain ⟨op, num, t⟩ := t
  have h := leaf_ops hok hc
  simp only at h ⊢
  have hb : ∀ op : Int, Below w.heap.size w ((w.alloc (.cells #[.int .i64 op, .int .i64 num, .string t] 132)).alloc (.cells #[.int .i64 k, .int .i64 n, .string s] 30)) := fun _ => bl_alloc (bl_alloc (Below.refl _ _) _) _
  rcases okB_two hm with rfl | ⟨rfl, hs⟩
  · have HB := fun op => hidOf (hb op)
    have h5 : op = 5 → ¬ num = 0 ∧ ¬ num = -1 := fun e => by subst e; have := ok_5 hok; omega
    clear hb hm hok hc
    rcases h with rfl | rfl | rfl | rfl | rfl | rfl | rfl
    all_goals (try (obtain ⟨n0, n1⟩ := h5 rfl))
    all_goals clear h5
    all_goals go_enter Tryz.func148, Tryz.ntmps148
    all_goals go_wp2_with fail
    all_goals (try go_quiet (fail))
    all_goals (try go_wp2)
    all_goals (try go_ret)
    all_goals first | (refine ⟨rbool ?_, (HB _).out⟩; simp [leafP, bdOf]; done) | (refine ⟨rbool ?_, bl_drewN (HB _).out _⟩; simp [leafP, bdOf]; done) | (refine ⟨rbool ?_, (HB _).out⟩; simp [leafP, bdOf]; rw [Bool.eq_iff_iff]; simp)
  · have HB := fun op => hidOf (hb op)
    have ht : op = 6 ∨ op = 7 → t.size ≤ 10 := fun e => ok_67 hok e
    clear hb hm hok hc
    rcases h with rfl | rfl | rfl | rfl | rfl | rfl | rfl
    iterate 5
      · clear ht
        go_enter Tryz.func148, Tryz.ntmps148
        go_wp2_with fail
        (try go_ret)
        exact ⟨rbool (by simp [leafP, bdOf]), (HB _).out⟩
    · have ht' := ht (.inl rfl)
      clear ht
      by_cases hle : t.size ≤ s.size
      · have hd : decide ((t.size : Int) ≤ (s.size : Int)) = true := by simp; omega
        have hbe := beg_eq s t
        go_enter Tryz.func148, Tryz.ntmps148
        go_wp2_with fail
        go_quiet (fail)
        (try go_wp2)
        (try go_ret)
        exact ⟨rbool (by simp [leafP, bdOf]), bl_drewN (HB _).out _⟩
      · have hd : decide ((t.size : Int) ≤ (s.size : Int)) = false := by simp; omega
        have hbe := beg_no hle
        go_enter Tryz.func148, Tryz.ntmps148
        go_wp2_with fail
        go_quiet (fail)
        (try go_wp2)
        (try go_ret)
        exact ⟨rbool (by simp [leafP, bdOf, hbe]), bl_drewN (HB _).out _⟩
    · have ht' := ht (.inr rfl)
      have HH := fun u => hidOf (l8Holds_any s t u hs ht')
      clear ht
      go_enter Tryz.func148, Tryz.ntmps148
      go_wp2_with (first | (go_at_call 176; refine ((HH _).out).mono ?_; rintro e w1 ⟨rfl, rfl⟩))
      go_ret
      exact ⟨rbool (by simp [leafP, bdOf]), (HB _).out⟩
end Go.Proofs.YtihdglmiecifjaaGreat
namespace Go.Proofs.YtihdglmiecifjaaGreat
open Go.RowKit Pl Il
theorem fstep_append_ex {P : Program} {ops : Array Oper} {o : Oper} {a : Act} {w : World} {K : Act → World → Prop} {Q : Exit → Act → World → Prop} {E : Prop} {R : Value → World → Prop} (hgd : o.guard = none) (s x : Operand) (t : TypeId)
    (ho : o.op = .call { callee := .builtin .append, args := #[s, x], argTypes := #[t, t] }) (v u : Value) (hs : a.eval s = v) (hx : a.eval x = u)
    (hr : ∃ v' w', (Builtin.append_ #[t, t] o.type #[v, u]).run P w = .ok v' w' ∧ R v' w') (h : ∀ v' w', R v' w' → K (a.put o.dst v') w') :
    if Region.wanted o (yielded ops a.tmps) = true then Oper.wp P o a w K Q else E := by
  have hw : Region.wanted o (yielded ops a.tmps) = true := by simp [Region.wanted, hgd]
  rw [if_pos hw]
  obtain ⟨v', w', hrun, hR⟩ := hr
  unfold Oper.wp execOp
  simp only [ho, resolve, invoke, builtin, Sem.run_bind, Sem.run_pure, Result.andThen_ok, List.map_toArray, List.map_cons, List.map_nil, hs, hx, hrun]
  exact h v' w' hR
theorem fstep_append_run {P : Program} {ops : Array Oper} {o : Oper} {a : Act} {w w' : World} {K : Act → World → Prop} {Q : Exit → Act → World → Prop} {E : Prop} (hgd : o.guard = none) (s x : Operand) (t : TypeId)
    (ho : o.op = .call { callee := .builtin .append, args := #[s, x], argTypes := #[t, t] }) (v u v' : Value) (hs : a.eval s = v) (hx : a.eval x = u)
    (hr : (Builtin.append_ #[t, t] o.type #[v, u]).run P w = .ok v' w') (h : K (a.put o.dst v') w') :
    if Region.wanted o (yielded ops a.tmps) = true then Oper.wp P o a w K Q else E :=
  fstep_append_ex (R := fun v1 w1 => v1 = v' ∧ w1 = w') hgd s x t ho v u hs hx ⟨v', w', hr, rfl, rfl⟩ (fun _ _ h1 => by obtain ⟨rfl, rfl⟩ := h1; exact h)
theorem okF_at {f : List Tm} (h : okF f = true) {k : Nat} (hk : k < f.length) {m : Nat} (hm : goN (f.take k) 0 = some m) : okTm (qg f k) = true ∧ ¬ m < cntM (qg f k).1 := by
  constructor
  · cases e : okTm (qg f k) with
    | true => rfl
    | false => have := okF_stop hk hm (.inl e); rw [h] at this; cases this
  · intro e
    have := okF_stop hk hm (.inr e)
    rw [h] at this; cases this
def bitsV (ps : List Pd) (b : Bd) : List Value := ps.map fun p => .bool (p b)
theorem bits_len (ps : List Pd) (b : Bd) : (bitsV ps b).length = ps.length := by simp [bitsV]
theorem bits_snoc (ps : List Pd) (p : Pd) (b : Bd) : bitsV (ps ++ [p]) b = bitsV ps b ++ [.bool (p b)] := by simp [bitsV]
theorem infoBo : (Tryz.prog.info? 4).map (fun i => (i.zero, i.size, i.bytes)) = some (some (.bool false), 1, 1) := by kernel_rfl
/-- One truth value is appended to an own row. -/
theorem append_bit (B m : Nat) (v : Value) (vs : List Value) (x : Bool) (w : World) (ho : w.ownsRow B 4 1 v m vs) (hB : B ≤ w.heap.size) (hs : m + 1 ≤ 4194304) :
    ∃ (g cap : Nat) (w' : World), (Builtin.append_ #[162, 162] 162 #[v, .slice (some ⟨w.heap.size, 0, none⟩) 1 1]).run Tryz.prog (w.alloc (.cells #[.bool x] 4)) = .ok (.slice (some ⟨g, 0, none⟩) (m + 1) cap) w' ∧
      w'.ownsRow B 4 1 (.slice (some ⟨g, 0, none⟩) (m + 1) cap) (m + 1) (vs ++ [.bool x]) ∧ w.grownBy w' v.ownBlock := by
  obtain ⟨i, hi, hz0, hz1, hz2⟩ := info_parts infoBo
  have hb0 : Below w.heap.size w (w.alloc (.cells #[.bool x] 4)) := bl_alloc (Below.refl _ _) _
  have ho' : (w.alloc (.cells #[.bool x] 4)).ownsRow B 4 1 v m vs := ho.alloc _
  obtain ⟨g, c, w', hr, hown, hg, _, _⟩ := run_append_lies (P := Tryz.prog) (w.alloc (.cells #[.bool x] 4)) 162 162 B 4 i _ 1 1 Tryz.underlying162 hi hz0 hz1 hz2 rfl (by omega) v m _ ho' ⟨w.heap.size, 0, none⟩ 1 1 [.bool x] (by simp)
    (fun j u h => by
      have hj : j = 0 := by
        have := (List.getElem?_eq_some_iff.1 h).1
        simp at this; omega
      subst hj
      simp at h
      subst h
      rw [Addr.add_lit]; simp)
    (fun u hu => by
      simp at hu
      subst hu
      rfl) (by omega) (by unfold maxLen; omega) (by omega) (by simp; omega) _ rfl
  refine ⟨g, c, w', hr, hown, ?_⟩
  exact ⟨hg.os.trans hb0.os, hg.tape.trans hb0.tape, hg.output.trans hb0.output, Nat.le_trans hb0.size hg.size, fun k hk hne => (hg.block k (Nat.lt_of_lt_of_le hk hb0.size) hne).trans (hb0.block k hk)⟩
/-- What a round reads. -/
abbrev LeftS (b o M : Nat) (z : Tm) (k n : Int) (s : ByteArray) (u0 w : World) : Prop :=
  w.cell? ⟨b, o, none⟩ = some (.int .i64 z.1) ∧ w.cell? ⟨b, o + 1, none⟩ = some (.int .i64 z.2.1) ∧ w.cell? ⟨b, o + 2, none⟩ = some (.string z.2.2) ∧ w.cell? ⟨M, 0, none⟩ = some (.int .i64 k) ∧ w.cell? ⟨M, 1, none⟩ = some (.int .i64 n) ∧ w.cell? ⟨M, 2, none⟩ = some (.string s) ∧ Below u0.heap.size u0 w
theorem LeftS.keep {b o M : Nat} {z : Tm} {k n : Int} {s : ByteArray} {u0 w w' : World} (h : LeftS b o M z k n s u0 w) (hb : Below u0.heap.size w w') (hl : b < u0.heap.size) (hl' : M < u0.heap.size) : LeftS b o M z k n s u0 w' := by
  obtain ⟨h0, h1, h2, h3, h4, h5, h6⟩ := h
  exact ⟨by rw [hb.cell (p := ⟨b, o, none⟩) hl]; exact h0, by rw [hb.cell (p := ⟨b, o + 1, none⟩) hl]; exact h1, by rw [hb.cell (p := ⟨b, o + 2, none⟩) hl]; exact h2, by rw [hb.cell (p := ⟨M, 0, none⟩) hl']; exact h3, by rw [hb.cell (p := ⟨M, 1, none⟩) hl']; exact h4, by rw [hb.cell (p := ⟨M, 2, none⟩) hl']; exact h5, h6.trans hb⟩
theorem rowB_keep {B : Nat} {w w' : World} {v : Value} {n : Nat} {t : TypeId} {xs : List Value} (h : w.ownsRow B t 1 v n xs) (hb : Below w.heap.size w w') : w'.ownsRow B t 1 v n xs := by
  refine h.kept (row := none) ⟨hb.os, hb.tape, hb.output, hb.size, fun k hk _ => hb.block k hk⟩ ?_
  cases v.ownBlock with
  | none => exact .inl rfl
  | some _ => exact .inr (by simp)
theorem pd_snoc {ps : List Pd} (h : 0 < ps.length) : ∃ qs p, ps = qs ++ [p] := by
  have hne : ps ≠ [] := by rintro rfl; simp at h
  exact ⟨ps.dropLast, ps.getLast hne, (List.dropLast_concat_getLast hne).symm⟩
theorem step8 {z : Tm} (qs : List Pd) (p : Pd) (b : Bd) (h : z.1 = 8) : bitsV (stepP z (qs ++ [p])) b = bitsV qs b ++ [.bool (!(p b))] := by
  rw [stepP_8 h]
  have e : (qs ++ [p]).length - 1 = qs.length := by simp
  rw [e, List.take_left, pg_snoc_eq, bits_snoc]
theorem step9 {z : Tm} (qs : List Pd) (p q : Pd) (b : Bd) (h : z.1 = 9) : bitsV (stepP z (qs ++ [p] ++ [q])) b = bitsV qs b ++ [.bool (p b && q b)] := by
  rw [stepP_9 h]
  have e : (qs ++ [p] ++ [q]).length - 1 = (qs ++ [p]).length := by simp
  have e2 : (qs ++ [p] ++ [q]).length - 2 = qs.length := by simp
  rw [e, e2, List.append_assoc, List.take_left, ← List.append_assoc, pg_snoc_eq, bits_snoc, pg_snoc_lt (by simp), pg_snoc_eq, Bool.and_comm]
theorem step10 {z : Tm} (qs : List Pd) (p q : Pd) (b : Bd) (h : z.1 = 10) : bitsV (stepP z (qs ++ [p] ++ [q])) b = bitsV qs b ++ [.bool (p b || q b)] := by
  rw [stepP_10 h]
  have e : (qs ++ [p] ++ [q]).length - 1 = (qs ++ [p]).length := by simp
  have e2 : (qs ++ [p] ++ [q]).length - 2 = qs.length := by simp
  rw [e, e2, List.append_assoc, List.take_left, ← List.append_assoc, pg_snoc_eq, bits_snoc, pg_snoc_lt (by simp), pg_snoc_eq, Bool.or_comm]
theorem set_snoc {l : List Value} {x y : Value} : (l ++ [x]).set l.length y = l ++ [y] := by simp
theorem set_snoc2 {l : List Value} {x z y : Value} : (l ++ [x] ++ [z]).set l.length y = l ++ [y] ++ [z] := by
  rw [List.append_assoc, List.append_assoc, List.set_append_right _ _ (Nat.le_refl _)]
  simp
end Go.Proofs.YtihdglmiecifjaaGreat
namespace Go.Proofs.YtihdglmiecifjaaGreat
open Go.RowKit Go.Maps Pl Il
theorem boxT2 (w : World) (o o' : Obj) (vs : List Value) (t : TypeId) : BoxL (w.heap.size + 1 + 1) vs (((w.alloc o).alloc o').alloc (.cells vs.toArray t)) := by
  have h := BoxL.new ((w.alloc o).alloc o') vs t
  simpa using h
theorem boxT1 (w : World) (o : Obj) (vs : List Value) (t : TypeId) : BoxL (w.heap.size + 1) vs ((w.alloc o).alloc (.cells vs.toArray t)) := by
  have h := BoxL.new (w.alloc o) vs t
  simpa using h
end Go.Proofs.YtihdglmiecifjaaGreat
