/-
  The law on OpenTopic.
  A list of topics among the arguments: what its cells are.
  A row that lists variables, whose law reads one more of the library's: the world's shape is kept beside the list.
-/
import Derived.Test.YtojajaibeifhoaaGreatDoorZTo21
import Derived.Test.YtojajaibeifhoaaGreatDoorZTo37
import Derived.Test.YtojajaibeifhoaaGreatDoorZTo14
import Derived.Test.YtojajaibeifhoaaGreatDoorZTo15
import Derived.Test.YtojajaibeifhoaaGreatDoorRows
import Derived.HandedShaped
import Derived.Handed
namespace Go.Proofs.YtojajaibeifhoaaGreatDoor
open Go.RowKit Pl Il Tn

theorem otBad_tvs {xs ys : List Ta} (h : tvs ys = tvs xs) (s : ByteArray) (cp : Int) : otBad ys s cp = otBad xs s cp := by unfold otBad; rw [okTs_tvs h]
theorem len_tvs {xs ys : List Ta} (h : tvs ys = tvs xs) : ys.length = xs.length := by have := congrArg List.length h; simpa [tvs] using this
theorem otG_tvs {xs ys : List Ta} (h : tvs ys = tvs xs) (s : ByteArray) (cp : Int) : otG ys s cp = otG xs s cp := by unfold otG; rw [otBad_tvs h, nms_tvs h, len_tvs h, h]
theorem otI_tvs {xs ys : List Ta} (h : tvs ys = tvs xs) (s : ByteArray) (cp : Int) : otI ys s cp = otI xs s cp := by unfold otI; rw [otBad_tvs h, nms_tvs h, len_tvs h]
theorem otC_tvs {xs ys : List Ta} (h : tvs ys = tvs xs) (s : ByteArray) (cp : Int) : otC ys s cp = otC xs s cp := by unfold otC; rw [otBad_tvs h, nms_tvs h, len_tvs h]
theorem OwnT.abv {B : Nat} {w : World} {a : Option Addr} {n : Nat} {xs : List Ta} (h : OwnT B w a n xs) : ∀ p, p ∈ (a, n) :: allT xs → Abv p.1 p.2 B := fun p hp => by
  rcases List.mem_cons.1 hp with rfl | hp
  · rcases h.own with k | ⟨b, off, e, hB, _⟩
    · exact .inl k
    · exact .inr fun b' o' e' => by
        rw [e] at e'
        cases e'
        exact hB
  · obtain ⟨x, hx, hm⟩ := mem_allT.1 hp
    exact (h.row x hx).abv p hm
theorem TopAt.und {w : World} {a : Option Addr} {n : Nat} {xs : List Ta} (h : TopAt w a n xs) : ∀ p, p ∈ (a, n) :: allT xs → Und p.1 p.2 w.heap.size := fun p hp => by
  rcases List.mem_cons.1 hp with rfl | hp
  · rcases h.row with k | ⟨b, off, e, hb, _⟩
    · exact .inl k
    · exact .inr fun b' o' e' => by
        rw [e] at e'
        cases e'
        exact hb
  · obtain ⟨x, hx, hm⟩ := mem_allT.1 hp
    exact (h.rin x hx).und p hm
theorem TopAt.turn {ls : List (Option Addr × Nat)} {w w' : World} {a : Option Addr} {n : Nat} {xs : List Ta} (h : TopAt w a n xs) (ht : TurnL ls w w') (hf : ∀ p, p ∈ ls → ∀ q, q ∈ (a, n) :: allT xs → Far p.1 p.2 q.1 q.2) : TopAt w' a n xs := by
  refine ⟨h.len, h.nms, fun x hx => (h.rin x hx).turn ht fun p hp q hq => hf p hp q (List.mem_cons_of_mem _ (mem_allT.2 ⟨x, hx, hq⟩)), ?_⟩
  rcases h.row with k | ⟨b, off, rfl, hb, hc⟩
  · exact .inl k
  · rcases Nat.eq_zero_or_pos n with k | k
    · exact .inl k
    · have key := ht.keepB (off := off) hb k fun p hp => hf p hp _ (List.mem_cons_self ..)
      exact .inr ⟨b, off, rfl, Nat.lt_of_lt_of_le hb ht.size, fun i hi => (hc i hi).same fun j _ => World.cell?_of_block key⟩
theorem OwnT.turn {ls : List (Option Addr × Nat)} {B : Nat} {w w' : World} {a : Option Addr} {n : Nat} {xs : List Ta} (h : OwnT B w a n xs) (ht : TurnL ls w w') (hf : ∀ p, p ∈ ls → ∀ q, q ∈ (a, n) :: allT xs → Far p.1 p.2 q.1 q.2) : OwnT B w' a n xs := by
  refine ⟨h.top.turn ht hf, ?_, fun x hx => (h.row x hx).turn ht fun p hp q hq => hf p hp q (List.mem_cons_of_mem _ (mem_allT.2 ⟨x, hx, hq⟩)), h.apa, h.apt⟩
  rcases h.own with k | ⟨b, off, rfl, hB, hfr⟩
  · exact .inl k
  · rcases Nat.eq_zero_or_pos n with k | k
    · exact .inl k
    · rcases h.top.row with k' | ⟨b', off', e, hb, _⟩
      · omega
      cases e
      have key := ht.keepB (off := off) hb k fun p hp => hf p hp _ (List.mem_cons_self ..)
      exact .inr ⟨b, off, rfl, hB, fun o => by rw [World.frozen?_of_block key]; exact hfr o⟩
set_option maxRecDepth 100000 in
set_option maxHeartbeats 8000000 in
theorem exactOpenTopic_any (a : Option Addr) (n c : Nat) (xs : List Ta) (s : ByteArray) (cp : Int) (w : World) (hI : TopAt w a n xs) (hw : ∀ x, x ∈ xs → RWf x.v) (hn : n ≤ 9223372036854775807) (hm : TLe xs 9223372036854775807) (hs : s.size ≤ maxLen) (hg : GOkT w) :
    Calls Tryz.prog 6 #[.slice a n c, .string s, .int .i64 cp] w fun e w' => e = .returned (.bool true) ∧ Below w.heap.size w w' := by
  by_cases hbig : 1048576 < (s.size : Int)
  · clear hI
    go_enter Tryz.func6, Tryz.ntmps6
    go_wp2_with fail
    go_ret
    exact ⟨rfl, Below.refl _ _⟩
  have HI := hidOf hI
  have HG := hidOf hg
  have HW := hidOf hw
  have HSz := hidOf hs
  have HS := hidOf (szTopicS_any a n c xs 1048576 w hI hn hm (by omega) (by omega))
  clear hI hg hw hs
  go_enter Tryz.func6, Tryz.ntmps6
  go_wp2_with fail
  refine (HS.out).mono ?_
  rintro e w1 ⟨⟨k, rfl, hk⟩, b1⟩
  clear HS
  rcases hk with hk | ⟨hk, _, hn1, hle⟩
  · go_wp2_with fail
    go_ret
    exact ⟨rfl, b1⟩
  have hk' : ¬ k < 0 := by omega
  have n0 : ∀ z : Int, (z != z) = false := fun z => by simp
  have HLe := hidOf hle
  have HL2 := hidOf (show TLe xs 2097152 from fun x hx => (hle x hx).mono (by omega))
  have HN2 := hidOf (show n ≤ 2097152 by omega)
  have HN1 := hidOf hn1
  have HC1 := hidOf (toTopicS_any a n c xs w1 (HI.out.keep b1) HN2.out HL2.out)
  clear hk hle hn1 hm
  go_wp2_with fail
  refine (HC1.out).mono ?_
  rintro e w2 ⟨ys, rfl, hT2, hs2, hr2, b2⟩
  have B2 := bl_trans b1 b2
  have HSp := hidOf (specOpenTopic_any _ n n ys s cp w2 hT2 (wf_to hs2 hr2 HLe.out HW.out) HN1.out HSz.out)
  have HS2 := hidOf hs2
  clear HC1 b1 b2 hT2 hs2 hr2 hk'
  go_wp2_with fail
  refine (HSp.out).mono ?_
  rintro e w3 ⟨aw, nw, cw, ws, rfl, hRw, hvw, hlw, hnw, b3⟩
  rw [otI_tvs HS2.out, otC_tvs HS2.out]
  rw [otG_tvs HS2.out] at hvw
  obtain ⟨i0, hi0⟩ : ∃ i, otI xs s cp = i := ⟨_, rfl⟩
  obtain ⟨c0, hc0⟩ : ∃ i, otC xs s cp = i := ⟨_, rfl⟩
  rw [hi0, hc0]
  have HI0 := hidOf hi0
  have HC0 := hidOf hc0
  have B3 := bl_trans B2 b3
  have Tw := hidOf hRw.top
  have UW := hidOf hRw.top.und
  have HVw := hidOf hvw
  have HLw := hidOf (show TLe ws 2097152 from fun x hx => (hlw x hx).mono (by omega))
  have HNw := hidOf hnw
  have HLn := hidOf hRw.len
  have HC3 := hidOf (toTopicS_own a n c xs w3 (HI.out.keep B3) HN2.out HL2.out)
  clear HSp B2 b3 hRw hvw hlw hnw hi0 hc0 HS2
  go_wp2_with fail
  refine (HC3.out).mono ?_
  rintro e w4 ⟨zs, rfl, hT4, hs4, hr4, b4⟩
  have B4 := bl_trans B3 b4
  have Tw4 := hidOf (Tw.out.keep b4)
  have HB3 := hidOf (show w.heap.size ≤ w3.heap.size from B3.size)
  have HB34 := hidOf (show w3.heap.size ≤ w4.heap.size from b4.size)
  generalize hN4 : w3.heap.size = N4 at hT4 UW HB3 HB34 ⊢
  have HIm := hidOf (implOpenTopic_any _ n n zs s cp w4 hT4.top (wf_to hs4 hr4 HLe.out HW.out) HN1.out HSz.out (HG.out.keep B4))
  have HT4 := hidOf hT4
  have A4 := hidOf hT4.abv
  have U4 := hidOf hT4.top.und
  have HS4 := hidOf hs4
  have HR4 := hidOf hr4
  clear HC3 B3 b4 hT4 hs4 hr4 hN4 Tw
  go_wp2_with fail
  refine (HIm.out).mono ?_
  rintro e w5 ⟨ag, ng, cg, gs, rfl, hRg, hvg, hlg, hng, b5⟩
  rw [otI_tvs HS4.out, otC_tvs HS4.out, HI0.out, HC0.out]
  rw [otG_tvs HS4.out] at hvg
  obtain rfl : nw = ng := by
    have h1 := HLn.out
    have h2 := hRg.len
    have h3 := len_tvs (hvg.trans HVw.out.symm)
    omega
  have B5 := bl_trans B4 b5
  have Tw5 := hidOf (Tw4.out.keep b5)
  have Ox := hidOf (HT4.out.keep b5)
  have Og := hidOf hRg.ownT
  have A6 := hidOf Og.out.abv
  have HVg := hidOf (hvg.trans HVw.out.symm)
  have HLg := hidOf hlg
  have HLg2 := hidOf (show TLe gs 2097152 from fun x hx => (hlg x hx).mono (by omega))
  have HNg := hidOf (show nw ≤ 1048576 from hng)
  have HNg2 := hidOf (show nw ≤ 2097152 by omega)
  have HLs := hidOf (show ∀ x, x ∈ gs → x.M.xs.length = x.M.s from fun x hx => (Og.out.row x hx).sb.sub.len)
  have HB4 := hidOf (show w.heap.size ≤ w4.heap.size from B4.size)
  have HEq := hidOf (eqTopicS_same ag aw nw cg cw gs ws w5 Og.out.top Tw5.out HVg.out HNg2.out HLg2.out HLw.out)
  clear HIm B4 b5 hRg hvg hlg hng Tw4 HT4
  go_wp2_with fail
  refine (HEq.out).mono ?_
  rintro e w6 ⟨rfl, b6⟩
  have B6 := bl_trans B5 b6
  have Tw6 := hidOf (Tw5.out.keep b6)
  have Ox6 := hidOf (Ox.out.keep b6)
  have Og6 := hidOf (Og.out.keep b6)
  have HC6 := hidOf (toTopicS_any a n c xs w6 (HI.out.keep B6) HN2.out HL2.out)
  clear HEq B5 b6 Tw5 Ox Og
  go_wp2_with fail
  refine (HC6.out).mono ?_
  rintro e w7 ⟨us, rfl, hT7, hs7, hr7, b7⟩
  have B7 := bl_trans B6 b7
  have Tw7 := hidOf (Tw6.out.keep b7)
  have Ox7 := hidOf (Ox6.out.keep b7)
  have Og7 := hidOf (Og6.out.keep b7)
  have HEq := hidOf (eqTopicS_same _ _ n n n zs us w7 Ox7.out.top hT7 (by rw [HS4.out, hs7]) HN2.out (ToT.le HR4.out HL2.out) (ToT.le hr7 HL2.out))
  clear HC6 B6 b7 hT7 hs7 hr7 Tw6 Ox6 Og6
  go_wp2_with fail
  refine (HEq.out).mono ?_
  rintro e w8 ⟨rfl, b8⟩
  have B8 := bl_trans B7 b8
  have Tw8 := hidOf (Tw7.out.keep b8)
  have Og8 := hidOf (Og7.out.keep b8)
  have HMk := hidOf (markTopicS_any N4 _ n n zs 1 w8 (Ox7.out.keep b8) HN1.out (ToT.le HR4.out HLe.out) (by omega) (by omega))
  clear HEq B7 b8 Tw7 Ox7 Og7
  go_wp2_with fail
  refine (HMk.out).mono ?_
  rintro e w9 ⟨he, -, t9⟩
  obtain ⟨m4, hm4⟩ : ∃ m : Int, ((1 + cntT zs : Nat) : Int) = m := ⟨_, rfl⟩
  rw [hm4] at he
  subst he
  have n4 : ¬ m4 < 0 := by omega
  have Tw9 := hidOf (Tw8.out.turn t9 fun p hp q hq => (Far.mk (UW.out q hq) (A4.out p hp)).symm)
  have Og9 := hidOf (Og8.out.turn t9 fun p hp q hq => Far.mk (U4.out p hp) (A6.out q hq))
  have B9 := B8.trans (t9.below B8.size fun p hp => (A4.out p hp).mono HB3.out)
  have HEq := hidOf (eqTopicS_same ag aw nw cg cw gs ws w9 Og9.out.top Tw9.out HVg.out HNg2.out HLg2.out HLw.out)
  clear HMk B8 Tw8 Og8 hm4 t9
  go_wp2_with fail
  refine (HEq.out).mono ?_
  rintro e w10 ⟨rfl, b10⟩
  have B10 := bl_trans B9 b10
  have Tw10 := hidOf (Tw9.out.keep b10)
  have HMk := hidOf (markTopicS_any _ ag nw cg gs 1 w10 (Og9.out.keep b10) HNg.out HLg.out (by omega) (by omega))
  clear HEq B9 Tw9 Og9 b10
  go_wp2_with fail
  refine (HMk.out).mono ?_
  rintro e w11 ⟨he, o11, t11⟩
  obtain ⟨m6, hm6⟩ : ∃ m : Int, ((1 + cntT gs : Nat) : Int) = m := ⟨_, rfl⟩
  rw [hm6] at he
  subst he
  have n6 : ¬ m6 < 0 := by omega
  have Hm6 := hidOf hm6
  have Tw11 := hidOf (Tw10.out.turn t11 fun p hp q hq => (Far.mk ((UW.out q hq).mono HB34.out) (A6.out p hp)).symm)
  have K11 := hidOf o11.top
  have B11 := B10.trans (t11.below B10.size fun p hp => (A6.out p hp).mono HB4.out)
  have HHd := hidOf (heldTopicS_marks ag nw cg 1 gs w11 K11.out HNg.out HLg.out HLs.out (by omega) (by omega))
  clear HMk B10 Tw10 hm6 t11 o11
  go_wp2_with fail
  refine (HHd.out).mono ?_
  rintro e w12 ⟨he, b12⟩
  rw [Hm6.out] at he
  subst he
  have B12 := bl_trans B11 b12
  have Tw12 := hidOf (Tw11.out.keep b12)
  have K12 := hidOf (K11.out.keep b12)
  have HC12 := hidOf (toTopicS_any a n c xs w12 (HI.out.keep B12) HN2.out HL2.out)
  clear HHd B11 Tw11 K11 b12
  go_wp2_with fail
  refine (HC12.out).mono ?_
  rintro e w13 ⟨vs, rfl, hT13, hs13, hr13, b13⟩
  have B13 := bl_trans B12 b13
  have Tw13 := hidOf (Tw12.out.keep b13)
  have K13 := hidOf (K12.out.keep b13)
  have HIm := hidOf (implOpenTopic_any _ n n vs s cp w13 hT13 (wf_to hs13 hr13 HLe.out HW.out) HN1.out HSz.out (HG.out.keep B13))
  have HS13 := hidOf hs13
  clear HC12 B12 b13 hT13 hs13 hr13 Tw12 K12
  go_wp2_with fail
  refine (HIm.out).mono ?_
  rintro e w14 ⟨ah, nh, ch, hs, rfl, hRh, hvh, hlh, hnh, b14⟩
  rw [otI_tvs HS13.out, otC_tvs HS13.out, HI0.out, HC0.out]
  rw [otG_tvs HS13.out] at hvh
  obtain rfl : nw = nh := by
    have h1 := HLn.out
    have h2 := hRh.len
    have h3 := len_tvs (hvh.trans HVw.out.symm)
    omega
  have B14 := bl_trans B13 b14
  have K14 := hidOf (K13.out.keep b14)
  have HEq := hidOf (eqTopicS_same ah aw nw ch cw hs ws w14 hRh.top (Tw13.out.keep b14) (hvh.trans HVw.out.symm) HNg2.out (fun x hx => (hlh x hx).mono (by omega)) HLw.out)
  clear HIm B13 b14 hRh hvh hlh hnh Tw13 K13
  go_wp2_with fail
  refine (HEq.out).mono ?_
  rintro e w15 ⟨rfl, b15⟩
  have B15 := bl_trans B14 b15
  have HHd := hidOf (heldTopicS_marks ag nw cg 1 gs w15 (K14.out.keep b15) HNg.out HLg.out HLs.out (by omega) (by omega))
  clear HEq B14 b15 K14
  go_wp2_with fail
  refine (HHd.out).mono ?_
  rintro e w16 ⟨he, b16⟩
  rw [Hm6.out] at he
  subst he
  have B16 := bl_trans B15 b16
  clear HHd B15 b16
  go_wp2
  go_ret
  exact ⟨rfl, B16⟩
end Go.Proofs.YtojajaibeifhoaaGreatDoor
namespace Go.Proofs.YtojajaibeifhoaaGreatDoor
open Go.ChangeShapes Go.WideShapes Go.ChangeAt Go.RowKit Go.Joins Go.Deep

theorem cellsT9 : Tryz.prog.cellsOf 90 = 9 := by kernel_rfl
theorem cellsR8 : Tryz.prog.cellsOf 88 = 8 := by kernel_rfl
theorem cellsKb : Tryz.prog.cellsOf 4 = 1 := by kernel_rfl
theorem cellsKs : Tryz.prog.cellsOf 9 = 1 := by kernel_rfl
theorem cellsKl : Tryz.prog.cellsOf 36 = 1 := by kernel_rfl
theorem cellsKm : Tryz.prog.cellsOf 85 = 1 := by kernel_rfl
theorem cellsKu : Tryz.prog.cellsOf 86 = 1 := by kernel_rfl
set_option maxRecDepth 100000 in
/-- A ring, out of the cells that hold it. -/
theorem ring_cells {H : Type} {enc : TypeId × Value → H} {W : World} {base n : Nat} {sp : Nat → Bool} {held : Bool} {c0 c1 c2 c3 c4 c5 c6 c7 : Value} {y : DataW H × List MemPlace} (hf : DataW.trod enc Tryz.prog W base sp held n 88 [c0, c1, c2, c3, c4, c5, c6, c7] = some y) :
    ∃ (M : Rm) (x : Rv), c0 = .int .i64 x.cp ∧ c1 = .int .i64 x.se ∧ c2 = .slice M.ia M.i M.ic ∧ c3 = .int .i64 x.nx ∧ c4 = .slice M.sa M.s M.sc ∧ c5 = .slice M.la M.l M.lc ∧ c6 = .slice M.ga M.g M.gc ∧ c7 = .bool x.cl ∧ RLe M 9223372036854775807 ∧ RIn W M x ∧ RWf x := by
  obtain ⟨xs, n, _, _, _, hlen, hff⟩ := DataW.trod_struct Tryz.underlying88 hf
  match xs, hlen with
  | [y0, y1, y2, y3, y4, y5, y6, y7], _ =>
    have g0 : DataW.trod enc Tryz.prog W base sp held n 3 [c0] = some y0 := by simpa [cellsTi, cellsKb, cellsKl, cellsKm, cellsKu] using hff 0 _ rfl
    have g1 : DataW.trod enc Tryz.prog W base sp held n 3 [c1] = some y1 := by simpa [cellsTi, cellsKb, cellsKl, cellsKm, cellsKu] using hff 1 _ rfl
    have g2 : DataW.trod enc Tryz.prog W base sp held n 85 [c2] = some y2 := by simpa [cellsTi, cellsKb, cellsKl, cellsKm, cellsKu] using hff 2 _ rfl
    have g3 : DataW.trod enc Tryz.prog W base sp held n 3 [c3] = some y3 := by simpa [cellsTi, cellsKb, cellsKl, cellsKm, cellsKu] using hff 3 _ rfl
    have g4 : DataW.trod enc Tryz.prog W base sp held n 86 [c4] = some y4 := by simpa [cellsTi, cellsKb, cellsKl, cellsKm, cellsKu] using hff 4 _ rfl
    have g5 : DataW.trod enc Tryz.prog W base sp held n 36 [c5] = some y5 := by simpa [cellsTi, cellsKb, cellsKl, cellsKm, cellsKu] using hff 5 _ rfl
    have g6 : DataW.trod enc Tryz.prog W base sp held n 36 [c6] = some y6 := by simpa [cellsTi, cellsKb, cellsKl, cellsKm, cellsKu] using hff 6 _ rfl
    have g7 : DataW.trod enc Tryz.prog W base sp held n 4 [c7] = some y7 := by simpa [cellsTi, cellsKb, cellsKl, cellsKm, cellsKu] using hff 7 _ rfl
    obtain ⟨cp, e0, _, w0⟩ := DataW.trod_int Tryz.underlying3 g0
    obtain ⟨se, e1, _, w1⟩ := DataW.trod_int Tryz.underlying3 g1
    obtain ⟨ia, i, ic, ts, rfl, hi, hts⟩ := msgs_cell g2
    obtain ⟨nx, e3, _, w3⟩ := DataW.trod_int Tryz.underlying3 g3
    obtain ⟨sa, s, sc, xs, rfl, hs, hxs, hfn, hxw⟩ := subs_cell g4
    obtain ⟨la, l, lc, ls, rfl, hl, hls, hlw⟩ := ints_cell g5
    obtain ⟨ga, g, gc, gs, rfl, hg, hgs, hgw⟩ := ints_cell g6
    obtain ⟨cl, e7, _⟩ := DataW.trod_bool Tryz.underlying4 g7
    simp at e0 e1 e3 e7
    subst e0 e1 e3 e7
    exact ⟨⟨ia, i, ic, sa, s, sc, xs, la, l, lc, ga, g, gc⟩, ⟨cp, se, ts, nx, svs xs, ls, gs, cl⟩, rfl, rfl, rfl, rfl, rfl, rfl, rfl, rfl, ⟨hi, hs, hfn, hl, hg⟩, ⟨hts, hxs, rfl, hls, hgs⟩, ⟨w0, w1, w3, fun q hq => (by obtain ⟨x, hx, rfl⟩ := List.mem_map.1 hq; exact hxw x hx), hlw, hgw⟩⟩
set_option maxRecDepth 100000 in
/-- A topic, out of the cells that hold it. -/
theorem topic_cells {H : Type} {enc : TypeId × Value → H} {W : World} {base n : Nat} {sp : Nat → Bool} {held : Bool} {c0 c1 c2 c3 c4 c5 c6 c7 c8 : Value} {y : DataW H × List MemPlace} (hf : DataW.trod enc Tryz.prog W base sp held n 90 [c0, c1, c2, c3, c4, c5, c6, c7, c8] = some y) :
    ∃ x : Ta, c0 = .string x.nm ∧ c1 = .int .i64 x.v.cp ∧ c2 = .int .i64 x.v.se ∧ c3 = .slice x.M.ia x.M.i x.M.ic ∧ c4 = .int .i64 x.v.nx ∧ c5 = .slice x.M.sa x.M.s x.M.sc ∧ c6 = .slice x.M.la x.M.l x.M.lc ∧ c7 = .slice x.M.ga x.M.g x.M.gc ∧ c8 = .bool x.v.cl ∧ x.nm.size ≤ maxLen ∧ RLe x.M 9223372036854775807 ∧ RIn W x.M x.v ∧ RWf x.v := by
  obtain ⟨xs, n, _, _, _, hlen, hff⟩ := DataW.trod_struct Tryz.underlying90 hf
  match xs, hlen with
  | [y0, y1], _ =>
    have g0 : DataW.trod enc Tryz.prog W base sp held n 9 [c0] = some y0 := by simpa [cellsKs, cellsR8] using hff 0 _ rfl
    have g1 : DataW.trod enc Tryz.prog W base sp held n 88 [c1, c2, c3, c4, c5, c6, c7, c8] = some y1 := by simpa [cellsKs, cellsR8] using hff 1 _ rfl
    obtain ⟨nm, e0, _, hnm⟩ := DataW.trod_string Tryz.underlying9 g0
    obtain ⟨M, x, rfl, rfl, rfl, rfl, rfl, rfl, rfl, rfl, hm, hi, hw⟩ := ring_cells g1
    simp at e0
    subst e0
    exact ⟨⟨nm, M, x⟩, rfl, rfl, rfl, rfl, rfl, rfl, rfl, rfl, rfl, hnm, hm, hi, hw⟩
set_option maxRecDepth 100000 in
theorem topics_of {H : Type} {enc : TypeId × Value → H} {W : World} {base fuel : Nat} {sp : Nat → Bool} {held : Bool} {a : Option Addr} {len cap : Nat} {x : DataW H × List MemPlace}
    (hf : DataW.trod enc Tryz.prog W base sp held fuel 46 (Value.slice a len cap).cells.toList = some x) : len ≤ 9223372036854775807 ∧ ∃ xs, TopAt W a len xs ∧ TLe xs 9223372036854775807 ∧ ∀ x, x ∈ xs → RWf x.v := by
  rcases open_slice Tryz.underlying46 hf with ⟨hcs, _⟩ | ⟨ad, l, c, m, n, D, Pl, hcs, _, hl, hm, hmm, _, hx⟩
  · simp [Value.cells] at hcs
    obtain ⟨rfl, rfl, rfl⟩ := hcs
    exact ⟨by omega, [], TopAt.nil _ _, fun x hx => (by cases hx), fun x hx => (by cases hx)⟩
  · simp [Value.cells] at hcs
    obtain ⟨rfl, rfl, rfl⟩ := hcs
    have hlm : len ≤ m := by rw [hmm]; split <;> omega
    have hlx : len ≤ 9223372036854775807 := by unfold maxLen at hm; omega
    obtain ⟨f, hfn⟩ := fn_ofT (α := Ta) Ta.zero (fun i (hi : i < len) => by
      obtain ⟨cs, h1, h2⟩ := hx i (by omega)
      rw [cellsT9] at h1
      obtain ⟨_, hlen, hcell⟩ := World.cells?_some h1
      match cs, hlen with
      | [c0, c1, c2, c3, c4, c5, c6, c7, c8], _ =>
        obtain ⟨x, rfl, rfl, rfl, rfl, rfl, rfl, rfl, rfl, rfl, hn, hm2, hi2, hw2⟩ := topic_cells h2
        have e0 := hcell 0 (by omega)
        have e1 := hcell 1 (by omega)
        have e2 := hcell 2 (by omega)
        have e3 := hcell 3 (by omega)
        have e4 := hcell 4 (by omega)
        have e5 := hcell 5 (by omega)
        have e6 := hcell 6 (by omega)
        have e7 := hcell 7 (by omega)
        have e8 := hcell 8 (by omega)
        rw [add_add] at e0 e1 e2 e3 e4 e5 e6 e7 e8
        exact (⟨x, by simpa using e0, by simpa using e1, by simpa using e2, by simpa using e3, by simpa using e4, by simpa using e5, by simpa using e6, by simpa using e7, by simpa using e8, hn, hm2, hi2, hw2⟩ : ∃ x : Ta, W.cell? (ad.add (i * 9)) = some (.string x.nm) ∧ W.cell? (ad.add (i * 9 + 1)) = some (.int .i64 x.v.cp) ∧ W.cell? (ad.add (i * 9 + 2)) = some (.int .i64 x.v.se) ∧ W.cell? (ad.add (i * 9 + 3)) = some (.slice x.M.ia x.M.i x.M.ic) ∧ W.cell? (ad.add (i * 9 + 4)) = some (.int .i64 x.v.nx) ∧ W.cell? (ad.add (i * 9 + 5)) = some (.slice x.M.sa x.M.s x.M.sc) ∧ W.cell? (ad.add (i * 9 + 6)) = some (.slice x.M.la x.M.l x.M.lc) ∧ W.cell? (ad.add (i * 9 + 7)) = some (.slice x.M.ga x.M.g x.M.gc) ∧ W.cell? (ad.add (i * 9 + 8)) = some (.bool x.v.cl) ∧ x.nm.size ≤ maxLen ∧ RLe x.M 9223372036854775807 ∧ RIn W x.M x.v ∧ RWf x.v))
    have mem : ∀ x, x ∈ (List.range len).map f → ∃ i, i < len ∧ f i = x := fun x hx => by
      simp only [List.mem_map, List.mem_range] at hx
      exact hx
    refine ⟨hlx, (List.range len).map f, ⟨by simp, fun x hx => ?_, fun x hx => ?_, ?_⟩, fun x hx => ?_, fun x hx => ?_⟩
    · obtain ⟨i, hi, rfl⟩ := mem x hx
      exact (hfn i hi).2.2.2.2.2.2.2.2.2.1
    · obtain ⟨i, hi, rfl⟩ := mem x hx
      exact (hfn i hi).2.2.2.2.2.2.2.2.2.2.2.1
    · rcases Nat.eq_zero_or_pos len with h | hpos
      · exact .inl h
      · obtain ⟨b, off, spot⟩ := ad
        have hc := (hfn 0 hpos).1
        have hspot : spot = none := by simpa [Addr.add] using World.cell?_spot hc
        subst hspot
        have hb : b < W.heap.size := by
          rw [Addr.add_lit] at hc
          rcases Nat.lt_or_ge b W.heap.size with h | h
          · exact h
          · simp [World.cell?, Array.getElem?_eq_none h] at hc
        refine .inr ⟨b, off, rfl, hb, fun i hi => ?_⟩
        obtain ⟨q0, q1, q2, q3, q4, q5, q6, q7, q8, _⟩ := hfn i hi
        rw [Addr.add_lit] at q0 q1 q2 q3 q4 q5 q6 q7 q8
        have e : tg ((List.range len).map f) i = f i := by simp [tg, List.getD, hi]
        rw [e]
        exact ⟨q0, q1, q2, q3, q4, q5, q6, q7, q8⟩
    · obtain ⟨i, hi, rfl⟩ := mem x hx
      exact (hfn i hi).2.2.2.2.2.2.2.2.2.2.1
    · obtain ⟨i, hi, rfl⟩ := mem x hx
      exact (hfn i hi).2.2.2.2.2.2.2.2.2.2.2.2
end Go.Proofs.YtojajaibeifhoaaGreatDoor
namespace Go.Proofs.YtojajaibeifhoaaGreatDoor
variable {H : Type} {enc : TypeId × Value → H}

theorem returnsInHanded_and_shaped {a : Assume} {C : Checked} {os : Os} {f : FuncId} {fn : Func} {s : ChangeSpec} {conds : List PathCond} {apart fresh handsOn again : Bool} {X : World → Array Value → Prop}
    (hX : ∀ (w w' : World) (args : Array Value), w.heap = w'.heap → X w args → X w' args)
    (own : ownKnob C.prog.godebug = none) (started : os.Started) (noInit : C.prog.inits.idxOf? f = none) (hfn : C.prog.funcs[f]? = some fn)
    (witness : ∃ (w : World) (tape : Tape) (i : Input), w.os = os ∧ (w.forCall tape i).Shaped C.prog ∧ i.vars = [] ∧ Input.okWide C.prog (w.forCall tape i) .any w.heap.size f i ∧
      ((s.pre enc C.prog fn conds apart (w.forCall tape i).memory i.args ∧ X (w.forCall tape i).memory i.args) ∧ sizedMet enc C.prog fn (OpenSpec.ofChange s) apart (w.forCall tape i).memory i.args) ∧ a.holds C.prog (lone (Frame.enter C.prog f i.args .normal) [] (w.forCall tape i)))
    (contract : ∀ (W : World) (base : Nat) (args : Array Value) (ds gs : List (DataW H)) (before : List MemPlace),
      (∀ (j : Nat) t v, fn.params[j]? = some t → args[j]? = some v → Value.okWide C.prog W .any base t v) →
      DataW.Whole enc C.prog fn.params.toList s.vars apart W args.toList ds gs before →
      conds.all (PathCond.test C.prog ⟨fn.params.toList, ds, s.plain.varTypes C.prog, gs⟩) = true →
      (DataW.weightsEach C.prog (fn.params.toList ++ s.plain.varTypes C.prog) (ds ++ gs)).all (· ≤ reachBytes) = true → X W args → W.ShapedOpen C.prog →
      a.holds C.prog (lone (Frame.enter C.prog f args .normal) [] W) →
      Calls C.prog f args W fun e W' => ∃ v, e = .returned v ∧ s.post enc C.prog fn apart fresh handsOn again W args v W') :
    ReturnsInHanded a C os f .any (fun w args => (s.pre enc C.prog fn conds apart w args ∧ X w args) ∧ sizedMet enc C.prog fn (OpenSpec.ofChange s) apart w args) (s.post enc C.prog fn apart fresh handsOn again) := by
  refine returnsInHanded_of_calls own started noInit witness ?_
  intro w tape i _ hsh _ hok hpre hholds
  obtain ⟨_, _, _, fn', hfn', _, _, _, _, hval⟩ := hok
  have e : fn' = fn := Option.some.inj (hfn'.symm.trans hfn)
  subst e
  obtain ⟨⟨⟨ds, gs, before, hw, hc⟩, hx⟩, hz⟩ := hpre
  have hw' := DataW.Whole.of_heap (w' := w.forCall tape i) (by rfl) hw
  refine (contract (w.forCall tape i) w.heap.size i.args ds gs before hval hw' hc (hz.weights hw) (hX _ _ _ (by rfl) hx) hsh hholds).mono fun e W' ⟨v, he, hp⟩ => ?_
  subst he
  exact ChangeSpec.post_blind hp
end Go.Proofs.YtojajaibeifhoaaGreatDoor
