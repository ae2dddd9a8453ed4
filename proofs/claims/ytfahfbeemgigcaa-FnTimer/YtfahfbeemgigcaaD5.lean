/-
  Walk of the law on a clock that goes on in two parts.
-/
import Derived.Test.YtfahfbeemgigcaaD3
import Derived.Test.YtfahfbeemgigcaaD4
import Derived.Test.YtfahfbeemgigcaaDM
import Derived.Test.YtfahfbeemgigcaaKB
import Derived.Test.YtfahfbeemgigcaaSC6
namespace Go.Proofs.Ytfahfbeemgigcaa
open Go.RowKit Pl Dr Il Th

theorem wpList_append_guard {P : Program} {ops : Array Oper} {rest : List Oper} {o : Oper} {a : Act} {Q : Exit → Act → World → Prop} {w w' : World} (hgd : Region.wanted o (yielded ops a.tmps) = true) (s x : Operand) (t : TypeId)
    (ho : o.op = .call { callee := .builtin .append, args := #[s, x], argTypes := #[t, t] }) (v u v' : Value) (hs : a.eval s = v) (hx : a.eval x = u)
    (hr : (Builtin.append_ #[t, t] o.type #[v, u]).run P w = .ok v' w') (h : wpList P ops Q rest (a.put o.dst v') w') : wpList P ops Q (o :: rest) a w :=
  wpList_step fun _ hK => by
    simp only [hgd, if_true]
    unfold Oper.wp execOp
    simp only [ho, resolve, invoke, builtin, Sem.run_bind, Sem.run_pure, Result.andThen_ok, List.map_toArray, List.map_cons, List.map_nil, hs, hx, hr]
    exact hK _ _ h
theorem eqIL_s (xs : List Int) : eqL xs xs = true := by simp [eqL]
/-- What the law holds on to: the drawn clock, what the program and what the specification answered. -/
structure TP (K X V : Nat) (nw : Int) (ra : Option Addr) (n rc : Nat) (ts : List (Int × Int)) (t : Int) (T : List (Int × Int)) (G : List Int) (xa : Option Addr) (xn xc : Nat) (va : Option Addr) (vc : Nat) (la : Option Addr) (ln : Nat) (ma : Option Addr) (u : World) : Prop where
  bk : Box2 K (.int .i64 nw) (.slice ra n rc) u
  bx : Box2 X (.int .i64 t) (.slice xa xn xc) u
  bv : Box2 V (.int .i64 t) (.slice va xn vc) u
  tk : TimAt u ra n ts
  tx : TimAt u xa xn T
  tv : TimAt u va xn T
  li : IntsAt u la ln G
  lv : IntsAt u ma ln G
theorem TP.keep {K X V : Nat} {nw : Int} {ra : Option Addr} {n rc : Nat} {ts : List (Int × Int)} {t : Int} {T : List (Int × Int)} {G : List Int} {xa : Option Addr} {xn xc : Nat} {va : Option Addr} {vc : Nat} {la : Option Addr} {ln : Nat} {ma : Option Addr} {u u' : World}
    (h : TP K X V nw ra n rc ts t T G xa xn xc va vc la ln ma u) (hb : Below u.heap.size u u') : TP K X V nw ra n rc ts t T G xa xn xc va vc la ln ma u' :=
  ⟨h.bk.keep hb, h.bx.keep hb, h.bv.keep hb, h.tk.keep hb, h.tx.keep hb, h.tv.keep hb, h.li.keep hb, h.lv.keep hb⟩
theorem advT_lens (now : Int) (ts : List (Int × Int)) (d : Int) : (advT now ts d).2.1.length ≤ ts.length ∧ (advT now ts d).2.2.1.length ≤ ts.length := by
  unfold advT
  split
  · refine ⟨List.length_filter_le _ _, ?_⟩
    simp only [List.length_map]
    exact List.length_filter_le _ _
  · exact ⟨Nat.le_refl _, Nat.zero_le _⟩
theorem bytes_below {w w' : World} {a : Option Addr} {len cap : Nat} (h : Bytes w.heap.size w a len cap) (hb : Below w.heap.size w w') : Bytes w'.heap.size w' a len cap := by
  obtain ⟨hl, hm, k | ⟨b, off, rfl, hlt, hn, hc⟩⟩ := h
  · exact ⟨hl, hm, .inl k⟩
  · have hs := hb.size
    refine ⟨hl, hm, .inr ⟨b, off, rfl, by omega, by omega, fun i hi => ?_⟩⟩
    rw [hb.cell (p := ⟨b, off + i, none⟩) hlt]; exact hc i hi
theorem adv_code (now : Int) (ts : List (Int × Int)) (d : Int) : (advT now ts d).2.2.2 = 0 ∨ advT now ts d = (now, ts, [], 1) := by
  unfold advT
  split
  · exact .inl rfl
  · exact .inr rfl
theorem adv_done {now d : Int} {ts : List (Int × Int)} (h : (advT now ts d).2.2.2 = 0) : 0 ≤ d ∧ d ≤ 1000000000 ∧ (∀ x ∈ (advT now ts d).2.1, ¬ x.1 ≤ (advT now ts d).1) ∧ (advT now ts d).2.1.length + (advT now ts d).2.2.1.length = ts.length := by
  unfold advT at h ⊢
  split at h
  · next hc =>
    rw [if_pos hc]
    have := (ok_parts hc.1).1
    exact ⟨hc.2.1, by omega, fun x hx => later_gt hx, both_len _ _⟩
  · simp at h

set_option maxRecDepth 100000 in
set_option maxHeartbeats 4000000 in
theorem parts_any (a : Option Addr) (len cap : Nat) (w : World) (hB0 : len ≤ 1048576 → Bytes w.heap.size w a len cap) :
    Calls Try.prog 3 #[.slice a len cap] w fun e w' => e = .returned (.bool true) ∧ Below w.heap.size w w' := by
  go_enter Try.func3, Try.ntmps3
  go_wp2_with fail
  refine (big_any a len cap _).mono ?_
  rintro e w0 ⟨rfl, rfl⟩
  by_cases hl : len ≤ 1048576
  · have hd0 : decide (1048576 < len) = false := by simp; omega
    rw [hd0]
    have HD := hidOf (drawAdv_any a len cap w0 (hB0 hl))
    have HBy := hidOf (hB0 hl)
    clear hB0 hd0
    go_wp2_with fail
    refine HD.out.mono ?_
    rintro e w1 ⟨nw, ra, n, rc, ts, d, rfl, hT, hn40, hb1⟩
    generalize hW2 : w1.alloc (.cells #[.int .i64 nw, .slice ra n rc] 26) = W2
    have b2 : Below w1.heap.size w1 W2 := by subst hW2; exact bl_alloc (Below.refl _ _) _
    have t2 : Box2 w1.heap.size (.int .i64 nw) (.slice ra n rc) W2 := by subst hW2; exact Box2.new w1 _ _ _
    have hT2 := hT.keep b2
    have hB2 := bl_trans hb1 b2
    have HC := hidOf (implAdv_any nw d ra n rc ts W2 hT2 (by omega))
    have HT2 := hidOf hT2
    have HB2 := hidOf hB2
    have Ht2 := hidOf t2
    obtain ⟨_, z0, z1, _⟩ := t2
    clear hT hb1 b2 hT2 hB2 HD
    go_wp2_with fail
    refine HC.out.mono ?_
    rintro e w3 ⟨xa, xn, xc, la, ln, lc, rfl, hX, hL, _, hb3⟩
    obtain ⟨r, hr⟩ : ∃ r, advT nw ts d = r := ⟨_, rfl⟩
    rw [hr] at hX hL ⊢
    have hrl := advT_lens nw ts d
    rw [hr] at hrl
    have hlen := HT2.out.len
    have hxn := hX.tim.len
    have hln := hL.ints.len
    generalize hW4 : w3.alloc (.cells #[.int .i64 r.1, .slice xa xn xc] 26) = W4
    have b4 : Below w3.heap.size w3 W4 := by subst hW4; exact bl_alloc (Below.refl _ _) _
    have t4 : Box2 w3.heap.size (.int .i64 r.1) (.slice xa xn xc) W4 := by subst hW4; exact Box2.new w3 _ _ _
    have hb34 := bl_trans hb3 b4
    have hT4 := HT2.out.keep hb34
    have HC2 := hidOf (specAdv_any nw d ra n rc ts W4 hT4 (by omega))
    have HX4 := hidOf (hX.tim.keep b4)
    have HL4 := hidOf (hL.ints.keep b4)
    have HT4 := hidOf hT4
    have HB4 := hidOf (bl_trans HB2.out hb34)
    have Hk4 := hidOf (Ht2.out.keep hb34)
    have Hx4 := hidOf t4
    obtain ⟨_, z0, z1, _⟩ := Ht2.out.keep hb34
    have HRr := hidOf hr
    clear hX hL hb3 b4 t4 hb34 hT4 HC HT2 HB2 Ht2 hW2 hr
    go_wp2_with fail
    refine HC2.out.mono ?_
    rintro e w5 ⟨va, vn, vc, ma, mn, mc, rfl, hV, hM, _, hb5⟩
    rw [HRr.out] at hV hM ⊢
    have hvn := hV.tim.len
    have hmn := hM.ints.len
    obtain rfl : vn = xn := by omega
    obtain rfl : mn = ln := by omega
    have hvb : vn ≤ 40 := by omega
    have hmb : mn ≤ 40 := by omega
    generalize hW6 : w5.alloc (.cells #[.int .i64 r.1, .slice va vn vc] 26) = W6
    have b6 : Below w5.heap.size w5 W6 := by subst hW6; exact bl_alloc (Below.refl _ _) _
    have t6 : Box2 w5.heap.size (.int .i64 r.1) (.slice va vn vc) W6 := by subst hW6; exact Box2.new w5 _ _ _
    have hb56 := bl_trans hb5 b6
    have hP : TP w1.heap.size w3.heap.size w5.heap.size nw ra n rc ts r.1 r.2.1 r.2.2.1 xa vn xc va vc la mn ma W6 := ⟨Hk4.out.keep hb56, Hx4.out.keep hb56, t6, HT4.out.keep hb56, HX4.out.keep hb56, hV.tim.keep b6, HL4.out.keep hb56, hM.ints.keep b6⟩
    have HP := hidOf hP
    have HB6 := hidOf (bl_trans HB4.out hb56)
    have HSm := hidOf (sameInts_any la ma mn mn lc mc r.2.2.1 r.2.2.1 W6 hP.li hP.lv (by omega) (by omega))
    clear hV hM hb5 b6 t6 hb56 hP HX4 HL4 HT4 HB4 Hk4 Hx4 HC2 hW4 hvn hmn hxn hln z0 z1
    go_wp2_with fail
    refine HSm.out.mono ?_
    rintro e w7 ⟨rfl, hb7⟩
    rw [eqIL_s]
    have hP7 := HP.out.keep hb7
    have HB7 := hidOf (bl_trans HB6.out hb7)
    have HCs := hidOf (clockSame_any r.1 r.1 xa va vn vn xc vc r.2.1 r.2.1 w7 hP7.tx hP7.tv (by omega) (by omega))
    have HP7 := hidOf hP7
    obtain ⟨_, x0, x1, _⟩ := id hP7.bx
    obtain ⟨_, v0, v1, _⟩ := id hP7.bv
    clear HP HB6 HSm hb7 hP7 hW6
    go_wp2_with fail
    refine HCs.out.mono ?_
    rintro e w8 ⟨rfl, hb8⟩
    rw [eqTL_self]
    simp only [decide_true, Bool.and_self]
    have hP8 := HP7.out.keep hb8
    have HB8 := hidOf (bl_trans HB7.out hb8)
    have HP8 := hidOf hP8
    obtain ⟨_, k0, k1, _⟩ := id hP8.bk
    obtain ⟨_, x0, x1, _⟩ := id hP8.bx
    clear HP7 HB7 HCs hb8 hP8
    rcases adv_code nw ts d with hdone | hbad
    · rw [HRr.out] at hdone
      have hdn : (advT nw ts d).2.2.2 = 0 := by rw [HRr.out]; exact hdone
      obtain ⟨hd0, hdb, hgt, hsum⟩ := adv_done hdn
      rw [HRr.out] at hgt hsum
      have hr2 : (r.2.2.2 != 0) = false := by rw [hdone]; rfl
      clear hdone
      by_cases hd1 : 0 < d
      · have HAt := hidOf (at_any a len cap w8 (bytes_below HBy.out HB8.out))
        have hnz : ¬ d % 1000 + 1 = 0 := by omega
        go_wp2_with fail
        refine HAt.out.mono ?_
        rintro e w8x ⟨⟨x, rfl, x0', x1'⟩, rfl⟩
        have s0 : 0 ≤ x % (d % 1000 + 1) := Int.emod_nonneg _ hnz
        have s1 : x % (d % 1000 + 1) ≤ d := by
          have := Int.emod_lt_of_pos x (b := d % 1000 + 1) (by omega)
          omega
        have HA := hidOf (implAdv_any nw (x % (d % 1000 + 1)) ra n rc ts w8x HP8.out.tk (by omega))
        go_wp2_with fail
        refine HA.out.mono ?_
        rintro e w9 ⟨aa, an, ac, fa, fn, fc, rfl, hAo, hFo, _, hb9⟩
        obtain ⟨hc1, hc2, hc3⟩ := adv_parts hdn s0 s1
        skip
        obtain ⟨p, hp⟩ : ∃ p, advT nw ts (x % (d % 1000 + 1)) = p := ⟨_, rfl⟩
        rw [hp] at hAo hFo hc1 hc2 hc3 ⊢
        obtain ⟨q, hq⟩ : ∃ q, advT p.1 p.2.1 (d - (x % (d % 1000 + 1))) = q := ⟨_, rfl⟩
        rw [hq] at hc2 hc3
        rw [HRr.out] at hc2 hc3
        have hpl := advT_lens nw ts (x % (d % 1000 + 1))
        rw [hp] at hpl
        have han := hAo.tim.len
        have hfn := hFo.ints.len
        have hanb : an ≤ 40 := by omega
        have hfnb : fn ≤ 40 := by omega
        generalize hW10 : w9.alloc (.cells #[.int .i64 p.1, .slice aa an ac] 26) = W10
        have b10 : Below w9.heap.size w9 W10 := by subst hW10; exact bl_alloc (Below.refl _ _) _
        have t10 : Box2 w9.heap.size (.int .i64 p.1) (.slice aa an ac) W10 := by subst hW10; exact Box2.new w9 _ _ _
        have hb910 := bl_trans hb9 b10
        have hP10 := HP8.out.keep hb910
        have HP10 := hidOf hP10
        have HB10 := hidOf (bl_trans HB8.out hb910)
        have HF10 := hidOf (hFo.ints.keep b10)
        have HC3 := hidOf (implAdv_any p.1 (d - (x % (d % 1000 + 1))) aa an ac p.2.1 W10 (hAo.tim.keep b10) (by omega))
        have HQ := hidOf hq
        have HC2 := hidOf hc2
        have HC3' := hidOf hc3
        obtain ⟨_, a0, a1, _⟩ := id t10
        clear HA hAo hFo hb9 b10 t10 hb910 hP10 HP8 HB8 hc1 hc2 hc3 hp hq hpl han k0 k1 x0 x1
        go_wp2_with fail
        refine HC3.out.mono ?_
        rintro e w11 ⟨ba, bn, bc, sa, sn, sc, rfl, hBo, hSo, _, hb11⟩
        rw [HQ.out] at hBo hSo ⊢
        rw [HC2.out] at hBo hSo ⊢
        simp only at hBo hSo ⊢
        have hbn := hBo.tim.len
        have hsn := hSo.ints.len
        have hql : q.2.2.1.length ≤ r.2.2.1.length := by rw [← HC3'.out, List.length_append]; omega
        have hsum2 : fn + sn = mn := by have := HP10.out.li.len; rw [← HC3'.out, List.length_append, hfn, hsn] at this; exact this
        obtain rfl : bn = vn := by have := HP10.out.tx.len; omega
        generalize hW12 : w11.alloc (.cells #[.int .i64 r.1, .slice ba bn bc] 26) = W12
        have b12 : Below w11.heap.size w11 W12 := by subst hW12; exact bl_alloc (Below.refl _ _) _
        have t12 : Box2 w11.heap.size (.int .i64 r.1) (.slice ba bn bc) W12 := by subst hW12; exact Box2.new w11 _ _ _
        have hb1112 := bl_trans hb11 b12
        have hP12 := HP10.out.keep hb1112
        have HB12 := hidOf (bl_trans HB10.out hb1112)
        have hF12 := HF10.out.keep hb1112
        have hS12 := hSo.ints.keep b12
        have hB12 := hBo.tim.keep b12
        have hbn' : Below W12.heap.size W12 (W12.alloc (.cells #[] 3)) := bl_alloc (Below.refl _ _) _
        obtain ⟨g13, c13, w13, hr13, ho13, hg13⟩ := append_ints W12.heap.size W12.heap.size 0 0 [] fa fn fc _ (W12.alloc (.cells #[] 3)) (owns_empty W12) (by simp) (hF12.keep hbn') (by omega)
        rw [Nat.zero_add] at hr13 ho13
        rw [List.nil_append] at ho13
        have hb13 : Below W12.heap.size W12 w13 := hbn'.grown hg13 (by simp) (fun j hj => by cases hj; exact Nat.le_refl _)
        obtain ⟨g14, c14, w14, hr14, ho14, hg14⟩ := append_ints W12.heap.size g13 fn c13 _ sa sn sc _ w13 ho13 hb13.size (hS12.keep hb13) (by omega)
        have hb14 : Below W12.heap.size W12 w14 := hb13.grown hg14 hb13.size (fun j hj => by cases hj; exact (owns_parts ho13).2.1)
        rw [hsum2, HC3'.out] at ho14
        rw [hsum2] at hr14
        have HS14 := hidOf (owns_parts ho14).2.2.2.2.2.ints
        have hP14 := hP12.keep hb14
        have HP14 := hidOf hP14
        have HB14 := hidOf (bl_trans HB12.out hb14)
        have Ht14 := hidOf (t12.keep hb14)
        have HBt14 := hidOf (hB12.keep hb14)
        have Hr13 := hidOf hr13
        have Hr14 := hidOf hr14
        have HSm := hidOf (sameInts_any (some ⟨g14, 0, none⟩) ma mn mn c14 mc r.2.2.1 r.2.2.1 w14 HS14.out hP14.lv (by omega) (by omega))
        clear hr13 hr14 ho13 ho14 hg13 hg14 hbn' hb13 hb14 hP14 hP12 HB12 hF12 hS12 hB12 t12 hb1112 b12 hBo hSo hb11 HP10 HB10 HF10 HC3 HQ HC2 HC3' hql hsum2 hbn hsn hfn HS14 hW10 a0 a1
        go_wp2_with (first
          | (at_builtin; refine wpList_append_guard (by rfl) _ _ 29 rfl (.slice (some ⟨W12.heap.size, 0, none⟩) 0 0) (.slice fa fn fc) _ rfl rfl Hr13.out ?_)
          | (at_builtin; refine wpList_append_guard (by rfl) _ _ 29 rfl (.slice (some ⟨g13, 0, none⟩) fn c13) (.slice sa sn sc) _ rfl rfl Hr14.out ?_)
          | fail)
        refine HSm.out.mono ?_
        rintro e w15 ⟨rfl, hb15⟩
        rw [eqIL_s]
        have hP15 := HP14.out.keep hb15
        have HP15 := hidOf hP15
        have HB15 := hidOf (bl_trans HB14.out hb15)
        have HCs := hidOf (clockSame_any r.1 r.1 ba va bn bn bc vc r.2.1 r.2.1 w15 (HBt14.out.keep hb15) hP15.tv (by omega) (by omega))
        obtain ⟨_, b0, b1, _⟩ := Ht14.out.keep hb15
        obtain ⟨_, v0, v1, _⟩ := id hP15.bv
        clear HSm hb15 hP15 HP14 HB14 Ht14 HBt14 Hr13 Hr14
        go_wp2_with fail
        refine HCs.out.mono ?_
        rintro e w16 ⟨rfl, hb16⟩
        rw [eqTL_self]
        simp only [decide_true, Bool.and_self]
        have HP16 := hidOf (HP15.out.keep hb16)
        have HB16 := hidOf (bl_trans HB15.out hb16)
        clear HCs hb16 HP15 HB15 b0 b1 v0 v1
        go_wp2_with fail
        go_loopw [18] (fun iv wr => ∃ (k qn : Nat), k ≤ bn ∧ iv = .int .i64 k ∧ wr = w16.drewN qn) (fun iv _ => bn - (intOf iv).toNat)
        case atStart => exact ⟨0, 0, Nat.zero_le _, rfl, rfl⟩
        case round =>
          obtain ⟨k, qn, hk, rfl, rfl⟩ := hrel
          obtain ⟨_, x0, x1, _⟩ := id HP16.out.bx
          by_cases hlt : k < bn
          · obtain ⟨hxl, h' | ⟨b, off, e, hb, hcell⟩⟩ := HP16.out.tx
            · omega
            subst e
            obtain ⟨c1, c2⟩ := hcell k hlt
            have hki : (0 : Int) ≤ (k : Int) ∧ (k : Int) < (bn : Int) := by omega
            have hg1 := hgt (tg r.2.1 k) (by rw [tg_eq (by omega)]; exact List.getElem_mem _)
            obtain ⟨y, hy⟩ : ∃ y, tg r.2.1 k = y := ⟨_, rfl⟩
            rw [hy] at c1 c2 hg1
            have HG1 := hidOf hg1
            clear hcell hy hg1 hxl
            go_wp2_with fail
            have hg1 : ¬ y.1 ≤ r.1 := (by have := HG1.out; omega)
            go_quiet (fail)
            go_wp2
            go_roundw
            case rel => exact ⟨k + 1, _, by omega, by go_num, rfl⟩
            case measure => simp [intOf]; omega
          · have hki : ¬ (k : Int) < (bn : Int) := by omega
            obtain ⟨_, k0, k1, _⟩ := id HP16.out.bk
            have hfin : ((bn : Int) + (mn : Int) == (n : Int)) = true := by
              have e1 := HP16.out.tx.len
              have e2 := HP16.out.li.len
              have e3 := HP16.out.tk.len
              rw [e1, e2, e3] at hsum
              simp
              omega
            go_wp2
            go_ret
            exact ⟨rfl, bl_drewN HB16.out _⟩
      · have hd1' : ¬ 0 < d := hd1
        have s0 : (0 : Int) ≤ 0 := by omega
        have s1 : (0 : Int) ≤ d := hd0
        have HA := hidOf (implAdv_any nw 0 ra n rc ts w8 HP8.out.tk (by omega))
        go_wp2_with fail
        refine HA.out.mono ?_
        rintro e w9 ⟨aa, an, ac, fa, fn, fc, rfl, hAo, hFo, _, hb9⟩
        obtain ⟨hc1, hc2, hc3⟩ := adv_parts hdn s0 s1
        simp only [Int.sub_zero] at hc2 hc3
        obtain ⟨p, hp⟩ : ∃ p, advT nw ts 0 = p := ⟨_, rfl⟩
        rw [hp] at hAo hFo hc1 hc2 hc3 ⊢
        obtain ⟨q, hq⟩ : ∃ q, advT p.1 p.2.1 d = q := ⟨_, rfl⟩
        rw [hq] at hc2 hc3
        rw [HRr.out] at hc2 hc3
        have hpl := advT_lens nw ts 0
        rw [hp] at hpl
        have han := hAo.tim.len
        have hfn := hFo.ints.len
        have hanb : an ≤ 40 := by omega
        have hfnb : fn ≤ 40 := by omega
        generalize hW10 : w9.alloc (.cells #[.int .i64 p.1, .slice aa an ac] 26) = W10
        have b10 : Below w9.heap.size w9 W10 := by subst hW10; exact bl_alloc (Below.refl _ _) _
        have t10 : Box2 w9.heap.size (.int .i64 p.1) (.slice aa an ac) W10 := by subst hW10; exact Box2.new w9 _ _ _
        have hb910 := bl_trans hb9 b10
        have hP10 := HP8.out.keep hb910
        have HP10 := hidOf hP10
        have HB10 := hidOf (bl_trans HB8.out hb910)
        have HF10 := hidOf (hFo.ints.keep b10)
        have HC3 := hidOf (implAdv_any p.1 d aa an ac p.2.1 W10 (hAo.tim.keep b10) (by omega))
        have HQ := hidOf hq
        have HC2 := hidOf hc2
        have HC3' := hidOf hc3
        obtain ⟨_, a0, a1, _⟩ := id t10
        clear HA hAo hFo hb9 b10 t10 hb910 hP10 HP8 HB8 hc1 hc2 hc3 hp hq hpl han k0 k1 x0 x1
        go_wp2_with fail
        refine HC3.out.mono ?_
        rintro e w11 ⟨ba, bn, bc, sa, sn, sc, rfl, hBo, hSo, _, hb11⟩
        rw [HQ.out] at hBo hSo ⊢
        rw [HC2.out] at hBo hSo ⊢
        simp only at hBo hSo ⊢
        have hbn := hBo.tim.len
        have hsn := hSo.ints.len
        have hql : q.2.2.1.length ≤ r.2.2.1.length := by rw [← HC3'.out, List.length_append]; omega
        have hsum2 : fn + sn = mn := by have := HP10.out.li.len; rw [← HC3'.out, List.length_append, hfn, hsn] at this; exact this
        obtain rfl : bn = vn := by have := HP10.out.tx.len; omega
        generalize hW12 : w11.alloc (.cells #[.int .i64 r.1, .slice ba bn bc] 26) = W12
        have b12 : Below w11.heap.size w11 W12 := by subst hW12; exact bl_alloc (Below.refl _ _) _
        have t12 : Box2 w11.heap.size (.int .i64 r.1) (.slice ba bn bc) W12 := by subst hW12; exact Box2.new w11 _ _ _
        have hb1112 := bl_trans hb11 b12
        have hP12 := HP10.out.keep hb1112
        have HB12 := hidOf (bl_trans HB10.out hb1112)
        have hF12 := HF10.out.keep hb1112
        have hS12 := hSo.ints.keep b12
        have hB12 := hBo.tim.keep b12
        have hbn' : Below W12.heap.size W12 (W12.alloc (.cells #[] 3)) := bl_alloc (Below.refl _ _) _
        obtain ⟨g13, c13, w13, hr13, ho13, hg13⟩ := append_ints W12.heap.size W12.heap.size 0 0 [] fa fn fc _ (W12.alloc (.cells #[] 3)) (owns_empty W12) (by simp) (hF12.keep hbn') (by omega)
        rw [Nat.zero_add] at hr13 ho13
        rw [List.nil_append] at ho13
        have hb13 : Below W12.heap.size W12 w13 := hbn'.grown hg13 (by simp) (fun j hj => by cases hj; exact Nat.le_refl _)
        obtain ⟨g14, c14, w14, hr14, ho14, hg14⟩ := append_ints W12.heap.size g13 fn c13 _ sa sn sc _ w13 ho13 hb13.size (hS12.keep hb13) (by omega)
        have hb14 : Below W12.heap.size W12 w14 := hb13.grown hg14 hb13.size (fun j hj => by cases hj; exact (owns_parts ho13).2.1)
        rw [hsum2, HC3'.out] at ho14
        rw [hsum2] at hr14
        have HS14 := hidOf (owns_parts ho14).2.2.2.2.2.ints
        have hP14 := hP12.keep hb14
        have HP14 := hidOf hP14
        have HB14 := hidOf (bl_trans HB12.out hb14)
        have Ht14 := hidOf (t12.keep hb14)
        have HBt14 := hidOf (hB12.keep hb14)
        have Hr13 := hidOf hr13
        have Hr14 := hidOf hr14
        have HSm := hidOf (sameInts_any (some ⟨g14, 0, none⟩) ma mn mn c14 mc r.2.2.1 r.2.2.1 w14 HS14.out hP14.lv (by omega) (by omega))
        clear hr13 hr14 ho13 ho14 hg13 hg14 hbn' hb13 hb14 hP14 hP12 HB12 hF12 hS12 hB12 t12 hb1112 b12 hBo hSo hb11 HP10 HB10 HF10 HC3 HQ HC2 HC3' hql hsum2 hbn hsn hfn HS14 hW10 a0 a1
        go_wp2_with (first
          | (at_builtin; refine wpList_append_guard (by rfl) _ _ 29 rfl (.slice (some ⟨W12.heap.size, 0, none⟩) 0 0) (.slice fa fn fc) _ rfl rfl Hr13.out ?_)
          | (at_builtin; refine wpList_append_guard (by rfl) _ _ 29 rfl (.slice (some ⟨g13, 0, none⟩) fn c13) (.slice sa sn sc) _ rfl rfl Hr14.out ?_)
          | fail)
        refine HSm.out.mono ?_
        rintro e w15 ⟨rfl, hb15⟩
        rw [eqIL_s]
        have hP15 := HP14.out.keep hb15
        have HP15 := hidOf hP15
        have HB15 := hidOf (bl_trans HB14.out hb15)
        have HCs := hidOf (clockSame_any r.1 r.1 ba va bn bn bc vc r.2.1 r.2.1 w15 (HBt14.out.keep hb15) hP15.tv (by omega) (by omega))
        obtain ⟨_, b0, b1, _⟩ := Ht14.out.keep hb15
        obtain ⟨_, v0, v1, _⟩ := id hP15.bv
        clear HSm hb15 hP15 HP14 HB14 Ht14 HBt14 Hr13 Hr14
        go_wp2_with fail
        refine HCs.out.mono ?_
        rintro e w16 ⟨rfl, hb16⟩
        rw [eqTL_self]
        simp only [decide_true, Bool.and_self]
        have HP16 := hidOf (HP15.out.keep hb16)
        have HB16 := hidOf (bl_trans HB15.out hb16)
        clear HCs hb16 HP15 HB15 b0 b1 v0 v1
        go_wp2_with fail
        go_loopw [18] (fun iv wr => ∃ (k qn : Nat), k ≤ bn ∧ iv = .int .i64 k ∧ wr = w16.drewN qn) (fun iv _ => bn - (intOf iv).toNat)
        case atStart => exact ⟨0, 0, Nat.zero_le _, rfl, rfl⟩
        case round =>
          obtain ⟨k, qn, hk, rfl, rfl⟩ := hrel
          obtain ⟨_, x0, x1, _⟩ := id HP16.out.bx
          by_cases hlt : k < bn
          · obtain ⟨hxl, h' | ⟨b, off, e, hb, hcell⟩⟩ := HP16.out.tx
            · omega
            subst e
            obtain ⟨c1, c2⟩ := hcell k hlt
            have hki : (0 : Int) ≤ (k : Int) ∧ (k : Int) < (bn : Int) := by omega
            have hg1 := hgt (tg r.2.1 k) (by rw [tg_eq (by omega)]; exact List.getElem_mem _)
            obtain ⟨y, hy⟩ : ∃ y, tg r.2.1 k = y := ⟨_, rfl⟩
            rw [hy] at c1 c2 hg1
            have HG1 := hidOf hg1
            clear hcell hy hg1 hxl
            go_wp2_with fail
            have hg1 : ¬ y.1 ≤ r.1 := (by have := HG1.out; omega)
            go_quiet (fail)
            go_wp2
            go_roundw
            case rel => exact ⟨k + 1, _, by omega, by go_num, rfl⟩
            case measure => simp [intOf]; omega
          · have hki : ¬ (k : Int) < (bn : Int) := by omega
            obtain ⟨_, k0, k1, _⟩ := id HP16.out.bk
            have hfin : ((bn : Int) + (mn : Int) == (n : Int)) = true := by
              have e1 := HP16.out.tx.len
              have e2 := HP16.out.li.len
              have e3 := HP16.out.tk.len
              rw [e1, e2, e3] at hsum
              simp
              omega
            go_wp2
            go_ret
            exact ⟨rfl, bl_drewN HB16.out _⟩
    · rw [HRr.out] at hbad
      have hr1 : r.2.2.2 = 1 := by rw [hbad]
      have hr2 : (r.2.2.2 != 0) = true := by rw [hr1]; rfl
      have HCs := hidOf (clockSame_any r.1 nw xa ra vn n xc rc r.2.1 ts w8 HP8.out.tx HP8.out.tk (by omega) (by omega))
      have he : (decide (r.1 = nw) && eqTL r.2.1 ts) = true := by rw [hbad]; simp [eqTL]
      have HE := hidOf he
      clear hbad hr1 he
      go_wp2_with fail
      refine HCs.out.mono ?_
      rintro e w9 ⟨rfl, hb9⟩
      rw [HE.out]
      have hB9 := bl_trans HB8.out hb9
      clear HCs hb9 HP8
      go_wp2
      go_ret
      exact ⟨rfl, hB9⟩
  · have hd0 : decide (1048576 < len) = true := by simp; omega
    rw [hd0]
    clear hB0
    go_wp2
    go_ret
    exact ⟨rfl, Below.refl _ _⟩
end Go.Proofs.Ytfahfbeemgigcaa
