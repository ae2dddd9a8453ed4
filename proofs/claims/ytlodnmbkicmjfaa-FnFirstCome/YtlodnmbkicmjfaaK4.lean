/-
  Walk of the law on who comes first.
-/
import Derived.Test.YtlodnmbkicmjfaaK3
namespace Go.Proofs.Ytlodnmbkicmjfaa
open Go.RowKit Pl Dr Il

theorem wpList_append_guard {P : Program} {ops : Array Oper} {rest : List Oper} {o : Oper} {a : Act} {Q : Exit → Act → World → Prop} {w w' : World} (hgd : Region.wanted o (yielded ops a.tmps) = true) (s x : Operand) (t : TypeId)
    (ho : o.op = .call { callee := .builtin .append, args := #[s, x], argTypes := #[t, t] }) (v u v' : Value) (hs : a.eval s = v) (hx : a.eval x = u)
    (hr : (Builtin.append_ #[t, t] o.type #[v, u]).run P w = .ok v' w') (h : wpList P ops Q rest (a.put o.dst v') w') : wpList P ops Q (o :: rest) a w :=
  wpList_step fun _ hK => by
    simp only [hgd, if_true]
    unfold Oper.wp execOp
    simp only [ho, resolve, invoke, builtin, Sem.run_bind, Sem.run_pure, Result.andThen_ok, List.map_toArray, List.map_cons, List.map_nil, hs, hx, hr]
    exact hK _ _ h

theorem eqL_of {xs ys : List Int} (h : xs = ys) : eqL xs ys = true := by simp [eqL, h]

set_option maxHeartbeats 1000000 in
theorem firstCome_any (a : Option Addr) (len cap : Nat) (w : World) (hB0 : len ≤ 1048576 → Bytes w.heap.size w a len cap) :
    Calls Try.prog 3 #[.slice a len cap] w fun e w' => e = .returned (.bool true) ∧ Below w.heap.size w w' := by
  go_enter Try.func3, Try.ntmps3
  go_wp2_with fail
  refine (big_any a len cap _).mono ?_
  rintro e w0 ⟨rfl, rfl⟩
  by_cases hl : len ≤ 1048576
  · have hd0 : decide (1048576 < len) = false := by simp; omega
    rw [hd0]
    have hB := hB0 hl
    clear hB0 hd0
    go_wp2_with fail
    refine (drawJoin_any a len cap _ hB).mono ?_
    rintro e w1 ⟨g, m, cp, x, rfl, hx, hm, hb1, xs, ho, hw⟩
    obtain ⟨hlen, _, _, hmc, _, hO⟩ := owns_parts ho
    have HL := hO.ints
    have HB := hidOf hB
    clear ho hO hB
    go_wp2_with fail
    refine (implJoin_any2 _ m cp xs x _ HL (by omega) hw hx).mono ?_
    rintro e w2 ⟨a', m', c', rfl, hX, hcp⟩
    have hb2 := hX.below
    have HX := hX.own.ints
    clear hX
    go_wp2_with fail
    refine (specJoin_any _ m cp xs x _ (HL.keep hb2) (by omega) hmc).mono ?_
    rintro e w3 ⟨g3, m3, c3, rfl, _, hb3⟩
    have hbB := bl_trans hb2 hb3
    have HX3 := HX.keep hb3
    clear hb2 hb3 HX
    by_cases hz : (joinL xs x).2 = 0
    · obtain ⟨h1, h2, h3, h4, e1⟩ := join_zero hz
      rw [e1] at HX3
      have hl' := HX3.len
      rw [List.length_append, List.length_singleton] at hl'
      obtain rfl : m' = m + 1 := by omega
      have hlv := line_snoc h1 h2 h3 h4
      have hwv : wfL (xs ++ [x]) := wf_snoc hw hx
      go_wp2_with fail
      refine (implLeave_any _ (m + 1) c' (xs ++ [x]) x _ HX3 (by omega) hwv hx).mono ?_
      rintro e w4 ⟨a4, m4, c4, rfl, hY⟩
      rw [leave_back h1 h2 h3 h4] at hY ⊢
      have hb4 := hY.below
      have HY := hY.own.ints
      have hly : xs.length = m4 := HY.len
      obtain rfl : m4 = m := by omega
      have hbC := bl_trans hbB hb4
      have HX4 := HX3.keep hb4
      clear hY hbB HX3
      go_wp2_with fail
      refine (at0_any _ a len cap _ (HB.out.keep (Ex.of (bl_trans hb1 hbC)))).mono ?_
      rintro e w5 ⟨y, rfl, y0, y1, rfl⟩
      go_wp2_with fail
      obtain ⟨k, hk⟩ : ∃ k : Nat, y % ((m4 : Int) + 1 + 1) = (k : Int) := Int.eq_ofNat_of_zero_le (Int.emod_nonneg _ (by omega))
      have hkm : k ≤ m4 + 1 := by
        have := Int.emod_lt_of_pos y (show (0 : Int) < (m4 : Int) + 1 + 1 by omega)
        omega
      rw [hk]
      have hly2 : (xs ++ [x]).length = m4 + 1 := by rw [List.length_append, hly]; rfl
      obtain ⟨r1, r2⟩ := wake_nat (k := k) hlv (by omega)
      obtain ⟨r3, r4⟩ : wakeRest (xs ++ [x]) ((m4 : Int) + 1) = [] ∧ wakeOut (xs ++ [x]) ((m4 : Int) + 1) = xs ++ [x] := by
        have := wake_nat (k := m4 + 1) hlv (by omega)
        have e : (((m4 + 1 : Nat)) : Int) = (m4 : Int) + 1 := by omega
        rw [e, ← hly2, List.drop_length, List.take_length] at this
        exact this
      clear hk y0 y1
      refine (implWake_any _ (m4 + 1) c' (xs ++ [x]) (k : Int) _ HX4 (by omega) hwv).mono ?_
      rintro e w6 ⟨a1, p1, c1, a2, p2, c2, rfl, hW⟩
      rw [r1, r2] at hW
      have HR := hW.one.ints
      have HT := hW.two.ints
      have hlR := HR.len
      have hlT := HT.len
      rw [List.length_drop] at hlR
      rw [List.length_take] at hlT
      obtain rfl : p2 = k := by omega
      have hb6 := hW.below
      have HX6 := HX4.keep hb6
      have HY6 := HY.keep hb6
      have hbD := bl_trans hbC hb6
      clear hW hb6 HX4 HY hbC r1 r2
      go_wp2_with fail
      refine (implWake_any _ (m4 + 1) c' (xs ++ [x]) ((m4 : Int) + 1) _ HX6 (by omega) hwv).mono ?_
      rintro e w7 ⟨a3, p3, c3', a4', p4, c4', rfl, hW⟩
      rw [r3, r4] at hW
      have HE := hW.one.ints.len
      have HA := hW.two.ints
      have hlA := HA.len
      obtain rfl : p3 = 0 := by simpa using HE.symm
      obtain rfl : p4 = m4 + 1 := by omega
      have hb7 := hW.below
      have HX7 := HX6.keep hb7
      have HY7 := HY6.keep hb7
      have HR7 := HR.keep hb7
      have HT7 := HT.keep hb7
      have hbE := bl_trans hbD hb7
      clear hW hb7 HX6 HY6 HR HT hbD r3 r4 HE
      go_wp2_with fail
      refine (sameInts_any _ _ m4 m4 c4 cp xs xs _ HY7 (HL.keep hbE) (by omega) (by omega)).mono ?_
      rintro e w8 ⟨rfl, hb8⟩
      rw [eqL_of rfl]
      have HX8 := HX7.keep hb8
      have HR8 := HR7.keep hb8
      have HT8 := HT7.keep hb8
      have HA8 := HA.keep hb8
      have hbF := bl_trans hbE hb8
      clear hb8 HX7 HR7 HT7 HA HY7 hbE
      have hbn : Below w8.heap.size w8 (w8.alloc (.cells #[] 3)) := bl_alloc (Below.refl _ _) _
      obtain ⟨g9, c9, w9, hr9, ho9, hg9⟩ := append_ints w8.heap.size w8.heap.size 0 0 [] a2 p2 c2 _ (w8.alloc (.cells #[] 3)) (owns_empty w8) (by simp) (HT8.keep hbn) (by omega)
      rw [Nat.zero_add] at hr9 ho9
      rw [List.nil_append] at ho9
      have hb9 : Below w8.heap.size w8 w9 := hbn.grown hg9 (by simp) (fun j hj => by cases hj; exact Nat.le_refl _)
      obtain ⟨g10, c10, w10, hr10, ho10, hg10⟩ := append_ints w8.heap.size g9 p2 c9 _ a1 p1 c1 _ w9 ho9 hb9.size (HR8.keep hb9) (by omega)
      rw [List.take_append_drop] at ho10
      have hb10 : Below w8.heap.size w8 w10 := hb9.grown hg10 hb9.size (fun j hj => by cases hj; exact (owns_parts ho9).2.1)
      have hpp : p2 + p1 = m4 + 1 := by omega
      rw [hpp] at hr10 ho10
      have HS10 := (owns_parts ho10).2.2.2.2.2.ints
      have HX10 := HX8.keep hb10
      have HA10 := HA8.keep hb10
      have hbG := bl_trans hbF hb10
      have Hr9 := hidOf hr9
      have Hr10 := hidOf hr10
      clear hr9 hr10 ho9 ho10 hg9 hg10 hbn hb9 hb10 HX8 HA8 HR8 HT8 hbF
      go_wp2_with (first
        | (at_builtin; refine wpList_append_guard (by rfl) _ _ 24 rfl (.slice (some ⟨w8.heap.size, 0, none⟩) 0 0) (.slice a2 p2 c2) _ rfl rfl Hr9.out ?_)
        | (at_builtin; refine wpList_append_guard (by rfl) _ _ 24 rfl (.slice (some ⟨g9, 0, none⟩) p2 c9) (.slice a1 p1 c1) _ rfl rfl Hr10.out ?_)
        | fail)
      refine (sameInts_any _ _ (m4 + 1) (m4 + 1) c10 c' (xs ++ [x]) (xs ++ [x]) _ HS10 HX10 (by omega) (by omega)).mono ?_
      rintro e w11 ⟨rfl, hb11⟩
      rw [eqL_of rfl]
      have HX11 := HX10.keep hb11
      have hbH := bl_trans hbG hb11
      obtain ⟨_, h0 | ⟨b, off, rfl, hbl, hcell⟩⟩ := HA10.keep hb11
      · omega
      · have hc := hcell m4 (by omega)
        have e2 : (xs ++ [x]).getD m4 0 = x := by simp [List.getD, ← hly]
        rw [e2] at hc
        have hi0 : (0 : Int) ≤ (m4 : Int) := by omega
        have hi1 : (m4 : Int) < (m4 : Int) + 1 := by omega
        clear hcell HS10 HX10 HA10 hb11 hbG Hr9 Hr10 e2
        go_wp2_with fail
        refine (implPlaceOf_any _ (m4 + 1) c' (xs ++ [x]) x _ HX11 (by omega) hwv hx).mono ?_
        rintro e w12 ⟨rfl, hb12⟩
        rw [place_last h3, hly]
        have HX12 := HX11.keep hb12
        have hbI := bl_trans hbH hb12
        clear HX11 hbH hb12
        go_wp2_with fail
        refine (specLineOk_any _ (m4 + 1) c' (xs ++ [x]) _ HX12 (by omega) hcp).mono ?_
        rintro e w13 ⟨rfl, hb13⟩
        rw [hlv]
        have hE := bl_trans hb1 (bl_trans hbI hb13)
        clear HX12 hbI hb13
        go_wp2
        go_ret
        exact ⟨rfl, hE⟩
    · rw [join_same hz] at HX3
      have hl' := HX3.len
      obtain rfl : m' = m := by omega
      go_wp2_with fail
      refine (sameInts_any _ _ m' m' c' cp _ _ _ HX3 (HL.keep hbB) (by omega) (by omega)).mono ?_
      rintro e w4 ⟨rfl, hb4⟩
      rw [eqL_of rfl]
      have hbC := bl_trans hb1 (bl_trans hbB hb4)
      clear hbB hb4 HX3 HL
      go_wp2
      go_ret
      exact ⟨rfl, hbC⟩
  · have hd0 : decide (1048576 < len) = true := by simp; omega
    rw [hd0]
    clear hB0
    go_wp2
    go_ret
    exact ⟨rfl, Below.refl _ _⟩
end Go.Proofs.Ytlodnmbkicmjfaa
