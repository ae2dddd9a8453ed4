/-
  Walk of the law on tokens that are cancelled.
-/
import Derived.Test.YtgklnpkeffobnaaO5
import Derived.Test.YtgklnpkeffobnaaO6
import Derived.Test.YtgklnpkeffobnaaOM
import Derived.Test.YtgklnpkeffobnaaN10
namespace Go.Proofs.Ytgklnpkeffobnaa
open Go.RowKit Pl Dr Il

/-- What the law holds on to: the drawn tokens, those that Cancel answered, who was told, who lies beneath. -/
structure OffM (A X : Nat) (a1 : Option Addr) (c1 : Nat) (a2 : Option Addr) (c2 n n2 : Nat) (ps : List Int) (qs : List Bool) (a3 : Option Addr) (c3 : Nat) (a4 : Option Addr) (c4 : Nat) (qs' : List Bool) (a5 : Option Addr) (m5 : Nat) (told : List Int) (a7 : Option Addr) (m7 : Nat) (und : List Int) (u : World) : Prop where
  bt : Box2 A (.slice a1 n c1) (.slice a2 n2 c2) u
  bx : Box2 X (.slice a3 n c3) (.slice a4 n2 c4) u
  tin : TokIn u a1 n ps a2 n2 qs
  xin : TokIn u a3 n ps a4 n2 qs'
  li : IntsAt u a5 m5 told
  un : IntsAt u a7 m7 und
theorem OffM.keep {A X : Nat} {a1 : Option Addr} {c1 : Nat} {a2 : Option Addr} {c2 n n2 : Nat} {ps : List Int} {qs : List Bool} {a3 : Option Addr} {c3 : Nat} {a4 : Option Addr} {c4 : Nat} {qs' : List Bool} {a5 : Option Addr} {m5 : Nat} {told : List Int} {a7 : Option Addr} {m7 : Nat} {und : List Int} {u u' : World}
    (h : OffM A X a1 c1 a2 c2 n n2 ps qs a3 c3 a4 c4 qs' a5 m5 told a7 m7 und u) (hb : Below u.heap.size u u') : OffM A X a1 c1 a2 c2 n n2 ps qs a3 c3 a4 c4 qs' a5 m5 told a7 m7 und u' :=
  ⟨h.bt.keep hb, h.bx.keep hb, h.tin.keep hb, h.xin.keep hb, h.li.keep hb, h.un.keep hb⟩

set_option maxRecDepth 100000 in
set_option maxHeartbeats 1000000 in
theorem off_any (a : Option Addr) (len cap : Nat) (w : World) (hB0 : len ≤ 1048576 → Bytes w.heap.size w a len cap) :
    Calls Try.prog 3 #[.slice a len cap] w fun e w' => e = .returned (.bool true) ∧ Below w.heap.size w w' := by
  go_enter Try.func3, Try.ntmps3
  go_wp2_with fail
  refine (big_any a len cap _).mono ?_
  rintro e w0 ⟨rfl, rfl⟩
  by_cases hl : len ≤ 1048576
  · have hd0 : decide (1048576 < len) = false := by simp; omega
    rw [hd0]
    have HD := hidOf (drawCancel_any a len cap w0 (hB0 hl))
    clear hB0 hd0
    go_wp2_with fail
    refine HD.out.mono ?_
    rintro e w1 ⟨a1, n, c1, a2, n2, c2, ps, qs, x, rfl, hT, hw, hn1, hn2, hx, hb1⟩
    generalize hW2 : w1.alloc (.cells #[.slice a1 n c1, .slice a2 n2 c2] 27) = W2
    have b2 : Below w1.heap.size w1 W2 := by subst hW2; exact bl_alloc (Below.refl _ _) _
    have t2 : Box2 w1.heap.size (.slice a1 n c1) (.slice a2 n2 c2) W2 := by subst hW2; exact Box2.new w1 _ _ _
    have hT2 := hT.keep b2
    have hB2 := bl_trans hb1 b2
    have HC := hidOf (implCancel_any a1 n c1 ps a2 n2 c2 qs x W2 hT2 (by omega) (by omega))
    have HT2 := hidOf hT2
    have HB2 := hidOf hB2
    have Ht2 := hidOf t2
    obtain ⟨_, z0, z1, _⟩ := t2
    clear hT hb1 b2 hT2 hB2 HD
    go_wp2_with fail
    refine HC.out.mono ?_
    rintro e w3 ⟨a3, m3, c3, a4, m4, c4, a5, m5, c5, rfl, hX, hL, _, hb3⟩
    have hm3 : ps.length = m3 := hX.one.ints.len
    have hm4 : (cancelL ps qs x).1.length = m4 := hX.two.ints.len
    have hpn : ps.length = n := HT2.out.ints.len
    have hqn : qs.length = n2 := HT2.out.bools.len
    rw [cancel_lens] at hm4
    obtain rfl : m3 = n := by omega
    obtain rfl : m4 = n2 := by omega
    generalize hW4 : w3.alloc (.cells #[.slice a3 m3 c3, .slice a4 m4 c4] 27) = W4
    have b4 : Below w3.heap.size w3 W4 := by subst hW4; exact bl_alloc (Below.refl _ _) _
    have x4 : Box2 w3.heap.size (.slice a3 m3 c3) (.slice a4 m4 c4) W4 := by subst hW4; exact Box2.new w3 _ _ _
    have b24 := bl_trans hb3 b4
    have HT4 := hidOf (HT2.out.keep b24)
    have HX4 := hidOf (hX.tin.keep b4)
    have HL4 := hidOf (hL.ints.keep b4)
    have HB4 := hidOf (bl_trans HB2.out b24)
    have t4 := Ht2.out.keep b24
    have Ht4 := hidOf t4
    have Hx4 := hidOf x4
    have HS := hidOf (specCancel_any a1 m3 c1 ps a2 m4 c2 qs x W4 HT4.out (by omega) (by omega))
    obtain ⟨_, y0, y1, _⟩ := t4
    have HPN := hidOf hpn
    have HQN := hidOf hqn
    clear hX hL hb3 b4 x4 b24 z0 z1 HC hm3 hm4 hpn hqn HT2 Ht2 HB2
    go_wp2_with fail
    refine HS.out.mono ?_
    rintro e w5 ⟨g5, cp5, g5', cp5', a6, m6, c6, rfl, _, hWl, _, hb5⟩
    generalize hW6 : w5.alloc (.cells #[.slice (some ⟨g5, 0, none⟩) m3 cp5, .slice (some ⟨g5', 0, none⟩) m4 cp5'] 27) = W6
    have b6 : Below w5.heap.size w5 W6 := by subst hW6; exact bl_alloc (Below.refl _ _) _
    have b46 := bl_trans hb5 b6
    have HT6 := hidOf (HT4.out.keep b46)
    have HX6 := hidOf (HX4.out.keep b46)
    have HL6 := hidOf (HL4.out.keep b46)
    have HW6 := hidOf (hWl.ints.keep b6)
    have HB6 := hidOf (bl_trans HB4.out b46)
    have t6 := Ht4.out.keep b46
    have x6 := Hx4.out.keep b46
    have Ht6 := hidOf t6
    have Hx6 := hidOf x6
    obtain ⟨_, p0, p1, _⟩ := t6
    obtain ⟨_, q0, q1, _⟩ := x6
    clear hWl hb5 b6 b46 y0 y1 HS HT4 HX4 HL4 HB4 Ht4 Hx4
    by_cases hgood : tokL ps qs = true ∧ tokIs ps x = true
    · obtain ⟨hok, hti⟩ := hgood
      obtain ⟨hx0, hxl⟩ := tokIs_lt hti
      obtain ⟨k, rfl⟩ := Int.eq_ofNat_of_zero_le hx0
      rw [Int.toNat_natCast] at hxl
      obtain ⟨hCan, hcode⟩ := cancel_can hok hti
      have htl : (cancelL ps qs (k : Int)).2.1.length ≤ 24 := by rw [cancel_done hok hti]; exact Nat.le_trans (cancelTo_len _ _ _).2 (under_len24 ps qs (k : Int))
      have hagain := cancel_again hok hti hCan
      generalize hQ : (cancelL ps qs (k : Int)).1 = Q at *
      generalize htold : (cancelL ps qs (k : Int)).2.1 = told at *
      rw [hcode]
      have hm5 := HL6.out.len
      have hm6 := HW6.out.len
      obtain rfl : m6 = m5 := by omega
      have hm24 : m6 ≤ 24 := by omega
      have hu24 := under_len24 ps qs (k : Int)
      have HU := hidOf (implUnder_any a1 m3 c1 ps a2 m4 c2 qs (k : Int) W6 HT6.out (by omega) (by omega))
      have HCan := hidOf hCan
      have HAg := hidOf hagain
      have HOk := hidOf hok
      have HTi := hidOf hti
      have HXl := hidOf hxl
      clear hCan hagain hQ htold hm5 hm6 hok hti hcode hxl hx0
      go_wp2_with fail
      refine HU.out.mono ?_
      rintro e w7 ⟨a7, m7, c7, rfl, hU7, hb7⟩
      have hm7 := hU7.ints.len
      have hM7 : OffM w1.heap.size w3.heap.size a1 c1 a2 c2 m3 m4 ps qs a3 c3 a4 c4 Q a5 m6 told a7 m7 (underL ps qs (k : Int)) w7 := ⟨Ht6.out.keep hb7, Hx6.out.keep hb7, HT6.out.keep hb7, HX6.out.keep hb7, HL6.out.keep hb7, hU7.ints⟩
      have HM7 := hidOf hM7
      have HB7 := hidOf (bl_trans HB6.out hb7)
      have HSa := hidOf (sameInts_any a5 a6 m6 m6 c5 c6 told told w7 (HL6.out.keep hb7) (HW6.out.keep hb7) (by omega) (by omega))
      have hee : eqL told told = true := by simp [eqL]
      rw [hee] at HSa
      clear hU7 hb7 hM7 p0 p1 q0 q1 Ht6 Hx6 HT6 HX6 HL6 HW6 HB6 HU hee
      go_wp2_with fail
      refine HSa.out.mono ?_
      rintro e w8 ⟨rfl, hb8⟩
      have hM8 := HM7.out.keep hb8
      have HB8 := hidOf (bl_trans HB7.out hb8)
      have HWi := hidOf (within_any a7 m7 c7 (underL ps qs (k : Int)) (k : Int) w8 hM8.un (by omega))
      rw [HCan.out.self] at HWi
      have HM8 := hidOf hM8
      clear hM8 hb8 HSa HM7 HB7
      go_wp2_with fail
      refine HWi.out.mono ?_
      rintro e w9 ⟨rfl, rfl⟩
      clear HWi
      obtain ⟨_, p0, p1, _⟩ := HM8.out.bt
      go_wp2
      clear p0 p1
      go_loopw [12] (fun i wr => ∃ j : Nat, j ≤ m3 ∧ i = .int .i64 j ∧ OffM w1.heap.size w3.heap.size a1 c1 a2 c2 m3 m4 ps qs a3 c3 a4 c4 Q a5 m6 told a7 m7 (underL ps qs (k : Int)) wr ∧ Below w0.heap.size w0 wr) (fun i _ => m3 - (intOf i).toNat)
      case atStart => exact ⟨0, Nat.zero_le _, rfl, HM8.out, HB8.out⟩
      case round =>
        rename_i wr
        obtain ⟨j, hj, rfl, hM, hB⟩ := hrel
        clear HM8 HB8
        obtain ⟨_, p0, p1, _⟩ := hM.bt
        obtain ⟨_, q0, q1, _⟩ := hM.bx
        by_cases hlt : j < m3
        · have htj : tokIs ps (j : Int) = true := by simp only [tokIs, Bool.and_eq_true, decide_eq_true_eq]; have := HPN.out; omega
          have hjl : j < ps.length := by rw [HPN.out]; exact hlt
          have hoq := off_good HOk.out htj (rfl : qs.getD j false = qs.getD j false)
          have hox := off_good HCan.out.ok htj (rfl : Q.getD j false = Q.getD j false)
          rw [HCan.out.off j hjl] at hox
          have hto := HCan.out.told j hjl
          generalize qs.getD j false = q at hoq hox hto
          generalize hun : hasL (underL ps qs (k : Int)) (j : Int) = un at hox hto
          have hji : (j : Int) < (m3 : Int) := by omega
          have HSp := hidOf (fun (u : World) (hu : TokIn u a1 m3 ps a2 m4 qs) => specIsOff_any a1 m3 c1 ps a2 m4 c2 qs (j : Int) u hu (by omega) (by omega))
          have HIm := hidOf (fun (u : World) (hu : TokIn u a3 m3 ps a4 m4 Q) => implIsOff_any a3 m3 c3 ps a4 m4 c4 Q (j : Int) u hu (by omega) (by omega))
          have HWu := hidOf (fun (u : World) (hu : IntsAt u a7 m7 (underL ps qs (k : Int))) => within_any a7 m7 c7 (underL ps qs (k : Int)) (j : Int) u hu (by omega))
          have HWt := hidOf (fun (u : World) (hu : IntsAt u a5 m6 told) => within_any a5 m6 c5 told (j : Int) u hu (by omega))
          rw [hoq] at HSp
          rw [hox] at HIm
          rw [hun] at HWu
          rw [hto] at HWt
          have HM := hidOf hM
          have HBr := hidOf hB
          clear hM hB htj hjl hoq hox hto hun
          go_wp2_with fail
          refine (HSp.out _ HM.out.tin).mono ?_
          rintro e u1 ⟨rfl, hv1⟩
          have hM1 := HM.out.keep hv1
          have HB1 := hidOf (bl_trans HBr.out hv1)
          obtain ⟨_, p0, p1, _⟩ := hM1.bt
          obtain ⟨_, q0, q1, _⟩ := hM1.bx
          have HM1 := hidOf hM1
          clear hM1 hv1 HM HBr
          cases q
          · go_wp2_with fail
            refine (HWu.out _ HM1.out.un).mono ?_
            rintro e u2 ⟨rfl, rfl⟩
            go_wp2_with fail
            refine (HIm.out _ HM1.out.xin).mono ?_
            rintro e u3 ⟨rfl, hv3⟩
            have hM3 := HM1.out.keep hv3
            have HB3 := hidOf (bl_trans HB1.out hv3)
            obtain ⟨_, p0, p1, _⟩ := hM3.bt
            have HM3 := hidOf hM3
            clear hM3 hv3 HM1 HB1 q0 q1
            cases un
            · go_wp2_with fail
              refine (HWt.out _ HM3.out.li).mono ?_
              rintro e u4 ⟨rfl, rfl⟩
              go_wp2
              go_roundw
              case rel => exact ⟨j + 1, by omega, by go_num, HM3.out, HB3.out⟩
              case measure => simp [intOf]; omega
            · go_wp2_with fail
              refine (HWt.out _ HM3.out.li).mono ?_
              rintro e u4 ⟨rfl, rfl⟩
              go_wp2_with fail
              refine (HSp.out _ HM3.out.tin).mono ?_
              rintro e u5 ⟨rfl, hv5⟩
              have HM5 := hidOf (HM3.out.keep hv5)
              have HB5 := hidOf (bl_trans HB3.out hv5)
              clear hv5 HM3 HB3
              go_wp2
              go_roundw
              case rel => exact ⟨j + 1, by omega, by go_num, HM5.out, HB5.out⟩
              case measure => simp [intOf]; omega
          · go_wp2_with fail
            refine (HIm.out _ HM1.out.xin).mono ?_
            rintro e u3 ⟨rfl, hv3⟩
            have hM3 := HM1.out.keep hv3
            have HB3 := hidOf (bl_trans HB1.out hv3)
            obtain ⟨_, p0, p1, _⟩ := hM3.bt
            have HM3 := hidOf hM3
            clear hM3 hv3 HM1 HB1 q0 q1
            rw [Bool.true_or]
            go_wp2_with fail
            refine (HWt.out _ HM3.out.li).mono ?_
            rintro e u4 ⟨rfl, rfl⟩
            rw [Bool.not_true, Bool.and_false]
            go_wp2_with fail
            refine (HSp.out _ HM3.out.tin).mono ?_
            rintro e u5 ⟨rfl, hv5⟩
            have HM5 := hidOf (HM3.out.keep hv5)
            have HB5 := hidOf (bl_trans HB3.out hv5)
            clear hv5 HM3 HB3
            go_wp2
            go_roundw
            case rel => exact ⟨j + 1, by omega, by go_num, HM5.out, HB5.out⟩
            case measure => simp [intOf]; omega
        · have hji : ¬ (j : Int) < (m3 : Int) := by omega
          have HC1 := hidOf (implCancel_any a3 m3 c3 ps a4 m4 c4 Q (k : Int) wr hM.xin (by omega) (by omega))
          rw [HAg.out] at HC1
          have HM := hidOf hM
          have HBr := hidOf hB
          clear hM hB
          go_wp2_with fail
          refine HC1.out.mono ?_
          rintro e u1 ⟨b1, r1, d1, b2, r2, d2, b3, r3, d3, rfl, hY, hAg, _, hv1⟩
          have hr3 : r3 = 0 := by simpa using hAg.ints.len.symm
          have hr1 : ps.length = r1 := hY.one.ints.len
          have hr2 : Q.length = r2 := hY.two.ints.len
          have hxq := HM.out.xin.bools.len
          have hpn := HPN.out
          subst hr3
          obtain rfl : r1 = m3 := by omega
          obtain rfl : r2 = m4 := by omega
          generalize hV2 : u1.alloc (.cells #[.slice b1 r1 d1, .slice b2 r2 d2] 27) = V2
          have c12 : Below u1.heap.size u1 V2 := by subst hV2; exact bl_alloc (Below.refl _ _) _
          have y2 : Box2 u1.heap.size (.slice b1 r1 d1) (.slice b2 r2 d2) V2 := by subst hV2; exact Box2.new u1 _ _ _
          have hM2 := HM.out.keep (bl_trans hv1 c12)
          have HB2 := hidOf (bl_trans HBr.out (bl_trans hv1 c12))
          have HY2 := hidOf (hY.tin.keep c12)
          have Hy2 := hidOf y2
          obtain ⟨_, q0, q1, _⟩ := hM2.bx
          have HNw := hidOf (implNewToken_any a3 r1 c3 ps a4 r2 c4 Q (k : Int) V2 hM2.xin (by omega) (by omega))
          have HM2 := hidOf hM2
          have hpar : parIs ps (k : Int) = true := by simp only [parIs, Bool.and_eq_true, decide_eq_true_eq]; have := HXl.out; omega
          have HPar := hidOf hpar
          have HPn := hidOf hpn
          clear hY hAg hv1 c12 y2 hM2 hr1 hr2 hxq hpn hpar HM HBr HC1 p0 p1
          go_wp2_with fail
          refine HNw.out.mono ?_
          rintro e u3 ⟨b4, r4, d4, b5, r5, d5, rfl, hZ, hv3⟩
          generalize hV4 : u3.alloc (.cells #[.slice b4 r4 d4, .slice b5 r5 d5] 27) = V4
          have c34 : Below u3.heap.size u3 V4 := by subst hV4; exact bl_alloc (Below.refl _ _) _
          have z4 : Box2 u3.heap.size (.slice b4 r4 d4) (.slice b5 r5 d5) V4 := by subst hV4; exact Box2.new u3 _ _ _
          have c24 := bl_trans hv3 c34
          have hM4 := HM2.out.keep c24
          have HB4 := hidOf (bl_trans HB2.out c24)
          have HZ4 := hidOf (hZ.tin.keep c34)
          have Hz4 := hidOf z4
          have y4 := Hy2.out.keep c24
          obtain ⟨_, q0, q1, _⟩ := hM4.bx
          obtain ⟨_, y40, y41, _⟩ := y4
          have HSm := hidOf (tokensSame_any a3 r1 c3 ps a4 r2 c4 Q b1 d1 b2 d2 V4 hM4.xin (HY2.out.keep c24) (by omega) (by omega))
          have HM4 := hidOf hM4
          clear hZ hv3 c34 z4 c24 hM4 HNw HM2 HB2 HY2 Hy2
          go_wp2_with fail
          refine HSm.out.mono ?_
          rintro e u5 ⟨rfl, hv5⟩
          have hM5 := HM4.out.keep hv5
          have HB5 := hidOf (bl_trans HB4.out hv5)
          have HZ5 := hidOf (HZ4.out.keep hv5)
          have Hz5 := hidOf (Hz4.out.keep hv5)
          obtain ⟨_, q0, q1, _⟩ := hM5.bx
          have HTo := hidOf (implTokensOk_any a3 r1 c3 ps a4 r2 c4 Q u5 hM5.xin (by omega) (by omega))
          rw [HCan.out.ok] at HTo
          clear hM5 hv5 y40 y41 HSm HM4 HB4 HZ4 Hz4
          go_wp2_with fail
          refine HTo.out.mono ?_
          rintro e u6 ⟨rfl, hv6⟩
          have HB6 := hidOf (bl_trans HB5.out hv6)
          have HZ6 := hidOf (HZ5.out.keep hv6)
          obtain ⟨_, z60, z61, _⟩ := Hz5.out.keep hv6
          clear hv6 HTo HB5 HZ5 Hz5 q0 q1
          by_cases h24 : 24 ≤ ps.length
          · rw [new_full HCan.out.ok HPar.out h24]
            clear h24
            go_wp2
            go_ret
            exact ⟨rfl, HB6.out⟩
          · have hnd := new_done HCan.out.ok HPar.out h24
            have hbo := born_off HTi.out HCan.out h24
            rw [hnd] at HZ6 ⊢
            have hr4 := HZ6.out.ints.len
            have hr5 := HZ6.out.bools.len
            simp only [List.length_append, List.length_singleton] at hr4 hr5
            have hql := (tokL_len HCan.out.ok).1
            have HIs := hidOf (implIsOff_any b4 r4 d4 (ps ++ [(k : Int)]) b5 r5 d5 (Q ++ [bornL Q (k : Int)]) (ps.length : Int) u6 HZ6.out (by omega) (by omega))
            rw [hbo] at HIs
            have hne2 : ((0 : Int) == 2) = false := by decide
            clear h24 hnd hbo hr4 hr5 hql
            generalize (ps.length : Int) = idn at *
            go_wp2_with fail
            refine HIs.out.mono ?_
            rintro e u7 ⟨rfl, hv7⟩
            have hE := bl_trans HB6.out hv7
            clear hv7
            go_wp2
            go_ret
            exact ⟨rfl, hE⟩
    · have hcc : ∃ d : Int, (d = 1 ∨ d = 3) ∧ cancelL ps qs x = (qs, [], d) := by
        cases ht : tokL ps qs
        · exact ⟨1, .inl rfl, cancel_bad ht⟩
        · have hti : tokIs ps x = false := by
            cases h : tokIs ps x
            · rfl
            · exact absurd ⟨ht, h⟩ hgood
          exact ⟨3, .inr rfl, cancel_none ht hti⟩
      obtain ⟨d, hd, ec⟩ := hcc
      rw [ec] at HX6 HL6 ⊢
      have hl5 := HL6.out.len
      obtain rfl : m5 = 0 := by simpa using hl5.symm
      have hdn : (d != 0) = true := by rcases hd with rfl | rfl <;> decide
      have hdd : (d == d) = true := by simp
      have HSame := hidOf (tokensSame_any a3 m3 c3 ps a4 m4 c4 qs a1 c1 a2 c2 W6 HX6.out HT6.out (by omega) (by omega))
      clear hl5 hd hgood
      go_wp2_with fail
      refine HSame.out.mono ?_
      rintro e w7 ⟨rfl, hb7⟩
      have hE := bl_trans HB6.out hb7
      clear hb7
      go_wp2
      go_ret
      exact ⟨rfl, hE⟩
  · have hd0 : decide (1048576 < len) = true := by simp; omega
    rw [hd0]
    clear hB0
    go_wp2
    go_ret
    exact ⟨rfl, Below.refl _ _⟩
end Go.Proofs.Ytgklnpkeffobnaa
