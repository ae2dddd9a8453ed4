/-
  Walk of the law on a timer that is set, told at its time, and stopped.
-/
import Derived.Test.YtfahfbeemgigcaaD5
import Derived.Test.YtfahfbeemgigcaaD6
import Derived.Test.YtfahfbeemgigcaaDT
import Derived.Test.YtfahfbeemgigcaaSC4
namespace Go.Proofs.Ytfahfbeemgigcaa
open Go.RowKit Pl Dr Il Th

/-- What the law holds on to: the drawn clock, and the one with the timer set. -/
structure TQ (K X : Nat) (nw : Int) (ra : Option Addr) (n rc : Nat) (ts : List (Int × Int)) (xa : Option Addr) (xn xc : Nat) (T : List (Int × Int)) (u : World) : Prop where
  bk : Box2 K (.int .i64 nw) (.slice ra n rc) u
  bx : Box2 X (.int .i64 nw) (.slice xa xn xc) u
  tk : TimAt u ra n ts
  tx : TimAt u xa xn T
theorem TQ.keep {K X : Nat} {nw : Int} {ra : Option Addr} {n rc : Nat} {ts : List (Int × Int)} {xa : Option Addr} {xn xc : Nat} {T : List (Int × Int)} {u u' : World}
    (h : TQ K X nw ra n rc ts xa xn xc T u) (hb : Below u.heap.size u u') : TQ K X nw ra n rc ts xa xn xc T u' := ⟨h.bk.keep hb, h.bx.keep hb, h.tk.keep hb, h.tx.keep hb⟩
set_option maxRecDepth 100000 in
set_option maxHeartbeats 4000000 in
theorem timer_any (a : Option Addr) (len cap : Nat) (w : World) (hB0 : len ≤ 1048576 → Bytes w.heap.size w a len cap) :
    Calls Try.prog 4 #[.slice a len cap] w fun e w' => e = .returned (.bool true) ∧ Below w.heap.size w w' := by
  go_enter Try.func4, Try.ntmps4
  go_wp2_with fail
  refine (big_any a len cap _).mono ?_
  rintro e w0 ⟨rfl, rfl⟩
  by_cases hl : len ≤ 1048576
  · have hd0 : decide (1048576 < len) = false := by simp; omega
    rw [hd0]
    have HD := hidOf (drawSet_any a len cap w0 (hB0 hl))
    clear hB0 hd0
    go_wp2_with fail
    refine HD.out.mono ?_
    rintro e w1 ⟨nw, ra, n, rc, ts, i, tok, rfl, hT, hn40, hb1⟩
    generalize hW2 : w1.alloc (.cells #[.int .i64 nw, .slice ra n rc] 26) = W2
    have b2 : Below w1.heap.size w1 W2 := by subst hW2; exact bl_alloc (Below.refl _ _) _
    have t2 : Box2 w1.heap.size (.int .i64 nw) (.slice ra n rc) W2 := by subst hW2; exact Box2.new w1 _ _ _
    have hT2 := hT.keep b2
    have hB2 := bl_trans hb1 b2
    have HC := hidOf (implSet_any nw i tok ra n rc ts W2 hT2 (by omega))
    have HT2 := hidOf hT2
    have HB2 := hidOf hB2
    have Ht2 := hidOf t2
    obtain ⟨_, z0, z1, _⟩ := t2
    clear hT hb1 b2 hT2 hB2 HD
    go_wp2_with fail
    refine HC.out.mono ?_
    intro e w3 hout3
    obtain ⟨xa, xn, xc, rfl, hX, hb3⟩ := hout3.open
    obtain ⟨r, hr⟩ : ∃ r, setT nw ts i tok = r := ⟨_, rfl⟩
    rw [hr] at hX ⊢
    have hrl := setT_len nw ts i tok
    rw [hr] at hrl
    have hlen := HT2.out.len
    have hxn := hX.tim.len
    have hx41 : xn ≤ 41 := by omega
    generalize hW4 : w3.alloc (.cells #[.int .i64 nw, .slice xa xn xc] 26) = W4
    have b4 : Below w3.heap.size w3 W4 := by subst hW4; exact bl_alloc (Below.refl _ _) _
    have t4 : Box2 w3.heap.size (.int .i64 nw) (.slice xa xn xc) W4 := by subst hW4; exact Box2.new w3 _ _ _
    have hb34 := bl_trans hb3 b4
    have hQ4 : TQ w1.heap.size w3.heap.size nw ra n rc ts xa xn xc r.1 W4 := ⟨Ht2.out.keep hb34, t4, HT2.out.keep hb34, hX.tim.keep b4⟩
    have HC2 := hidOf (specSet_any nw i tok ra n rc ts W4 hQ4.tk (by omega))
    have HB4 := hidOf (bl_trans HB2.out hb34)
    have HRr := hidOf hr
    have HQ4 := hidOf hQ4
    obtain ⟨_, z0, z1, _⟩ := id hQ4.bk
    clear hX hb3 b4 t4 hb34 HC HT2 HB2 Ht2 hW2 hr hQ4
    go_wp2_with fail
    refine HC2.out.mono ?_
    intro e w5 hout5
    obtain ⟨va, vn, vc, rfl, hV, hb5⟩ := hout5.open
    rw [HRr.out]
    generalize hW6 : w5.alloc (.cells #[.int .i64 nw, .slice va vn vc] 26) = W6
    have hb56 : Below W4.heap.size W4 W6 := bl_trans hb5 (by subst hW6; exact bl_alloc (Below.refl _ _) _)
    have hQ6 := HQ4.out.keep hb56
    have HQ6 := hidOf hQ6
    have HB6 := hidOf (bl_trans HB4.out hb56)
    clear hQ6 HQ4 HB4 hb5 hb56 hV HC2 z0 z1 hout3 hout5
    by_cases hr0 : r.2 = 0
    · have hr2 : (r.2 != 0) = false := by rw [hr0]; rfl
      obtain ⟨hok, hset⟩ := set_done (now := nw) (ts := ts) (i := i) (tok := tok) (by rw [HRr.out]; exact hr0)
      have hR1 : r.1 = insL (nw + i, tok) ts := by rw [HRr.out] at hset; rw [hset]
      have hi1 := hok.i1
      have hi2 := hok.fit
      have hnw0 := (ok_parts hok.ok).1
      obtain ⟨s1, s2, ⟨l, s3⟩, s4⟩ := hok.told
      rw [← hR1] at s1 s2 s3 s4
      have HA := hidOf (implAdv_any nw (i - 1) xa xn xc r.1 W6 HQ6.out.tx (by omega))
      obtain ⟨_, x0, x1, _⟩ := id HQ6.out.bx
      have HSt := hidOf hok.stop
      clear hset hok
      go_wp2_with fail
      refine HA.out.mono ?_
      rintro e w7 ⟨ea, en, ec, ba, bn, bc, rfl, hE, hBf, _, hb7⟩
      have hpl := advT_lens nw r.1 (i - 1)
      obtain ⟨p, hp⟩ : ∃ p, advT nw r.1 (i - 1) = p := ⟨_, rfl⟩
      rw [hp] at hE hBf s1 s2 s3 s4 hpl ⊢
      have hen := hE.tim.len
      have hbn := hBf.ints.len
      have hen41 : en ≤ 41 := by omega
      have hbn41 : bn ≤ 41 := by omega
      generalize hW8 : w7.alloc (.cells #[.int .i64 p.1, .slice ea en ec] 26) = W8
      have b8 : Below w7.heap.size w7 W8 := by subst hW8; exact bl_alloc (Below.refl _ _) _
      have t8 : Box2 w7.heap.size (.int .i64 p.1) (.slice ea en ec) W8 := by subst hW8; exact Box2.new w7 _ _ _
      have hb78 := bl_trans hb7 b8
      have hQ8 := HQ6.out.keep hb78
      have HQ8 := hidOf hQ8
      have HB8 := hidOf (bl_trans HB6.out hb78)
      have HE8 := hidOf (hE.tim.keep b8)
      have HBf8 := hidOf (hBf.ints.keep b8)
      have Ht8 := hidOf t8
      have HA2 := hidOf (specAdv_any nw (i - 1) ra n rc ts W8 hQ8.tk (by omega))
      obtain ⟨_, k0, k1, _⟩ := id hQ8.bk
      clear hb7 b8 t8 hb78 hQ8 HQ6 HB6 hE hBf HA x0 x1
      go_wp2_with fail
      refine HA2.out.mono ?_
      rintro e w9 ⟨fa, fn, fc, oa, on, oc, rfl, _, hOf, _, hb9⟩
      have hpl2 := advT_lens nw ts (i - 1)
      obtain ⟨q, hq⟩ : ∃ q, advT nw ts (i - 1) = q := ⟨_, rfl⟩
      rw [hq] at hOf s1 hpl2 ⊢
      have hon := hOf.ints.len
      have hon41 : on ≤ 41 := by omega
      generalize hW10 : w9.alloc (.cells #[.int .i64 q.1, .slice fa fn fc] 26) = W10
      have b10 : Below w9.heap.size w9 W10 := by subst hW10; exact bl_alloc (Below.refl _ _) _
      have hb910 := bl_trans hb9 b10
      have hQ10 := HQ8.out.keep hb910
      have HQ10 := hidOf hQ10
      have HB10 := hidOf (bl_trans HB8.out hb910)
      have hE10 := HE8.out.keep hb910
      have HBf10 := hidOf (HBf8.out.keep hb910)
      have HOf10 := hidOf (hOf.ints.keep b10)
      obtain ⟨_, e0, e1, _⟩ := Ht8.out.keep hb910
      have HA3 := hidOf (implAdv_any p.1 1 ea en ec p.2.1 W10 hE10 (by omega))
      clear hb9 b10 hb910 hQ10 hE10 HQ8 HB8 HE8 HBf8 Ht8 HA2 hOf k0 k1
      go_wp2_with fail
      refine HA3.out.mono ?_
      rintro e w11 ⟨ga, gn, gc, ta, tn, tc, rfl, _, hTo, _, hb11⟩
      have hpl3 := advT_lens p.1 p.2.1 1
      obtain ⟨t, ht⟩ : ∃ t, advT p.1 p.2.1 1 = t := ⟨_, rfl⟩
      rw [ht] at hTo s2 s3 s4 hpl3 ⊢
      have htn := hTo.ints.len
      have htn41 : tn ≤ 41 := by omega
      generalize hW12 : w11.alloc (.cells #[.int .i64 t.1, .slice ga gn gc] 26) = W12
      have b12 : Below w11.heap.size w11 W12 := by subst hW12; exact bl_alloc (Below.refl _ _) _
      have hb1112 := bl_trans hb11 b12
      have hQ12 := HQ10.out.keep hb1112
      have HQ12 := hidOf hQ12
      have HB12 := hidOf (bl_trans HB10.out hb1112)
      have HBf12 := hidOf (HBf10.out.keep hb1112)
      have HOf12 := hidOf (HOf10.out.keep hb1112)
      have HTo12 := hidOf (hTo.ints.keep b12)
      obtain ⟨_, k0, k1, _⟩ := id hQ12.bk
      have HA4 := hidOf (specAdv_any nw i ra n rc ts W12 hQ12.tk (by omega))
      clear hb11 b12 hb1112 hQ12 HQ10 HB10 HBf10 HOf10 HA3 hTo e0 e1
      go_wp2_with fail
      refine HA4.out.mono ?_
      rintro e w13 ⟨ha, hn, hc, la, ln, lc, rfl, _, hPl, _, hb13⟩
      have hpl4 := advT_lens nw ts i
      obtain ⟨u, hu⟩ : ∃ u, advT nw ts i = u := ⟨_, rfl⟩
      rw [hu] at hPl s4 hpl4 ⊢
      have hln := hPl.ints.len
      have hln41 : ln ≤ 41 := by omega
      generalize hW14 : w13.alloc (.cells #[.int .i64 u.1, .slice ha hn hc] 26) = W14
      have b14 : Below w13.heap.size w13 W14 := by subst hW14; exact bl_alloc (Below.refl _ _) _
      have hb1314 := bl_trans hb13 b14
      have hQ14 := HQ12.out.keep hb1314
      have HQ14 := hidOf hQ14
      have HB14 := hidOf (bl_trans HB12.out hb1314)
      have hBf14 := HBf12.out.keep hb1314
      have hOf14 := HOf12.out.keep hb1314
      have HTo14 := hidOf (HTo12.out.keep hb1314)
      have HSm := hidOf (sameInts_any ba oa bn on bc oc p.2.2.1 q.2.2.1 W14 hBf14 hOf14 (by omega) (by omega))
      have hd2 : (t.2.2.2 != 0) = false := by rw [s2]; rfl
      clear hb13 b14 hb1314 hQ14 HQ12 HB12 HBf12 HOf12 HTo12 HA4 hPl k0 k1 hBf14 hOf14
      go_wp2_with fail
      refine HSm.out.mono ?_
      rintro e w15 ⟨rfl, hb15⟩
      rw [s1, eqIL_s]
      have hQ15 := HQ14.out.keep hb15
      have HQ15 := hidOf hQ15
      have HB15 := hidOf (bl_trans HB14.out hb15)
      have hTo15 := HTo14.out.keep hb15
      obtain ⟨m, hm⟩ : ∃ m, l.length = m := ⟨_, rfl⟩
      have htp : tn = m + 1 := by rw [← htn, s3, List.length_append, hm]; rfl
      have hlast : (t.2.2.1).getD m 0 = tok := by rw [s3, ← hm]; simp
      obtain ⟨_, h' | ⟨b, off, e', hb, hcell⟩⟩ := hTo15
      · omega
      subst e'
      have hcl := hcell m (by omega)
      rw [hlast] at hcl
      have hts : bn + tn = ln + 1 := by rw [hbn, htn, hln] at s4; exact s4
      clear hm
      subst htp
      have hm0 : ((m : Int) + 1 == 0) = false := by simp; omega
      have hm1 : ((bn : Int) + ((m : Int) + 1) != (ln : Int) + 1) = false := by simp; omega
      have hm2 : ¬ (m : Int) + 1 = 0 := by omega
      have HAs := hidOf (implStop_any nw tok xa xn xc r.1 w15 hQ15.tx (by omega))
      obtain ⟨_, x0, x1, _⟩ := id hQ15.bx
      have htt : (tok != tok) = false := by simp
      clear hcell hlast hQ15 HQ14 HB14 HTo14 HSm hb15 s3 hpl hpl2 hpl3 hpl4
      go_wp2_with fail
      refine HAs.out.mono ?_
      intro e w16 hout16
      obtain ⟨ya, yn, yc, rfl, hY, hb16⟩ := hout16.open
      have hst := HSt.out
      rw [← hR1] at hst
      have hsl : (stopT nw r.1 tok).1.length ≤ r.1.length := by
        unfold stopT
        split
        · exact List.length_filter_le _ _
        · exact Nat.le_refl _
      obtain ⟨g, hg⟩ : ∃ g, stopT nw r.1 tok = g := ⟨_, rfl⟩
      rw [hg] at hst hY hsl ⊢
      obtain ⟨v1, v2, v3⟩ := hst
      have hyn := hY.tim.len
      have hyn41 : yn ≤ 41 := by omega
      rw [hyn, hxn] at v2
      generalize hW17 : w16.alloc (.cells #[.int .i64 nw, .slice ya yn yc] 26) = W17
      have b17 : Below w16.heap.size w16 W17 := by subst hW17; exact bl_alloc (Below.refl _ _) _
      have t17 : Box2 w16.heap.size (.int .i64 nw) (.slice ya yn yc) W17 := by subst hW17; exact Box2.new w16 _ _ _
      have hb1617 := bl_trans hb16 b17
      have HQ17 := hidOf (HQ15.out.keep hb1617)
      have HB17 := hidOf (bl_trans HB15.out hb1617)
      have HA5 := hidOf (implAdv_any nw i ya yn yc g.1 W17 (hY.tim.keep b17) (by omega))
      have Ht17 := hidOf t17
      obtain ⟨_, y0, y1, _⟩ := id t17
      clear hout16 hY hb16 b17 t17 hb1617 HQ15 HB15 HAs x0 x1 HSt hcl
      go_wp2_with fail
      refine HA5.out.mono ?_
      rintro e w18 ⟨ja, jn, jc, da, dn, dc, rfl, _, hLa, _, hb18⟩
      have hpl5 := advT_lens nw g.1 i
      obtain ⟨o, ho⟩ : ∃ o, advT nw g.1 i = o := ⟨_, rfl⟩
      rw [ho] at hLa v3 hpl5 ⊢
      have hdn := hLa.ints.len
      have hdn41 : dn ≤ 41 := by omega
      generalize hW19 : w18.alloc (.cells #[.int .i64 o.1, .slice ja jn jc] 26) = W19
      have b19 : Below w18.heap.size w18 W19 := by subst hW19; exact bl_alloc (Below.refl _ _) _
      have hb1819 := bl_trans hb18 b19
      have hQ19 := HQ17.out.keep hb1819
      have hB19 := bl_trans HB17.out hb1819
      have HWi := hidOf (within_any da dn dc o.2.2.1 tok W19 (hLa.ints.keep b19) (by omega))
      have hno : hasL o.2.2.1 tok = false := by simpa [hasL, List.contains_eq_mem] using v3
      have HNo := hidOf hno
      have HB19 := hidOf hB19
      obtain ⟨_, x0, x1, _⟩ := id hQ19.bx
      obtain ⟨_, y0, y1, _⟩ := Ht17.out.keep hb1819
      have hge : g.2 ≥ 1 := v1
      clear hLa hb18 b19 hb1819 hQ19 hB19 HQ17 HB17 HA5 Ht17 hno v3
      go_wp2_with fail
      refine HWi.out.mono ?_
      rintro e w20 ⟨rfl, rfl⟩
      rw [HNo.out]
      have hfin : ((yn : Int) + g.2 == (xn : Int)) = true := by simp; omega
      clear HWi
      go_wp2
      go_ret
      exact ⟨rfl, HB19.out⟩
    · have hr2 : (r.2 != 0) = true := by simpa using hr0
      have hr1 : r.1 = ts := by have := set_not (now := nw) (ts := ts) (i := i) (tok := tok) (by rw [HRr.out]; exact hr0); rw [HRr.out] at this; exact this
      have he : (r.2 == r.2) = true := by simp
      have HCs := hidOf (clockSame_any nw nw xa ra xn n xc rc r.1 ts W6 HQ6.out.tx HQ6.out.tk (by omega) (by omega))
      have he2 : (decide (nw = nw) && eqTL r.1 ts) = true := by rw [hr1]; simp [eqTL]
      have HE := hidOf he2
      obtain ⟨_, k0, k1, _⟩ := id HQ6.out.bk
      obtain ⟨_, x0, x1, _⟩ := id HQ6.out.bx
      clear he2 hr1 hr0
      go_wp2_with fail
      refine HCs.out.mono ?_
      rintro e w9 ⟨rfl, hb9⟩
      rw [HE.out]
      have hB9 := bl_trans HB6.out hb9
      clear HCs hb9
      go_wp2
      go_ret
      exact ⟨rfl, hB9⟩
  · have hd0 : decide (1048576 < len) = true := by simp; omega
    rw [hd0]
    clear hB0
    go_wp2
    go_ret
    exact ⟨rfl, Below.refl _ _⟩
end Go.Proofs.Ytfahfbeemgigcaa
