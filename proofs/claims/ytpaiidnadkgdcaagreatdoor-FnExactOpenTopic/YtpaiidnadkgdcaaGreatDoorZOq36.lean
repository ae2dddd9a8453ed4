/-
  TopicAt of both sides; the laws on TopicsOk and TopicAt.
-/
import Derived.Test.YtpaiidnadkgdcaaGreatDoorZOq35
namespace Go.Proofs.YtpaiidnadkgdcaaGreatDoor
open Go.RowKit Pl Il Tn

/-- The place of a name in a right list. -/
noncomputable def atT (xs : List Ta) (s : ByteArray) : Int := if okTs xs = true then placeT (nms xs) s else -1
set_option maxRecDepth 100000 in
set_option maxHeartbeats 8000000 in
theorem specTopicAt_any (a : Option Addr) (n c : Nat) (xs : List Ta) (s : ByteArray) (w : World) (hI : TopAt w a n xs) (hW : TWf xs) (hn : n ≤ 1048576) :
    Calls Tryz.prog 21 #[.slice a n c, .string s] w fun e w' => e = .returned (.int .i64 (atT xs s)) ∧ Below w.heap.size w w' := by
  have HL := hidOf hI.len
  have HI := hidOf hI
  have HC := hidOf (specTopics_any a n c xs w hI hW hn)
  obtain ⟨q, hq⟩ : ∃ q, okTs xs = q := ⟨_, rfl⟩
  rw [hq] at HC
  have HQ := hidOf hq
  clear hI hW hq
  go_enter Tryz.func21, Tryz.ntmps21
  go_wp2_with fail
  refine (HC.out).mono ?_
  rintro e w1 ⟨rfl, b1⟩
  have HB1 := hidOf b1
  clear HC b1
  cases q
  · have HE := hidOf (show atT xs s = -1 by unfold atT; rw [if_neg (by rw [HQ.out]; simp)])
    go_wp2_with fail
    go_ret
    exact ⟨rint HE.out.symm, HB1.out⟩
  have HA := hidOf (show atT xs s = placeT (nms xs) s by unfold atT; rw [if_pos HQ.out])
  go_wp2_with fail
  go_loopw [5] (fun i wr => ∃ k : Nat, k ≤ n ∧ i = .int .i64 k ∧ (∀ j, j < k → ¬ (tg xs j).nm = s) ∧ Below w.heap.size w wr) (fun i _ => n - (intOf i).toNat)
  case atStart => exact ⟨0, Nat.zero_le _, rfl, fun j hj => (by omega), HB1.out⟩
  case round =>
    rename World => wr
    obtain ⟨k, hk, rfl, hno, hB⟩ := hrel
    have HNo := hidOf hno
    clear hno
    by_cases hlt : k < n
    · have hki : (k : Int) < (n : Int) := by omega
      have hkl : k < xs.length := by rw [HL.out]; exact hlt
      obtain hr | ⟨b, off, rfl, hb, hcell⟩ := (HI.out.keep hB).row
      · omega
      have c0 := (hcell k hlt).c0
      obtain ⟨x, hx⟩ : ∃ x, tg xs k = x := ⟨_, rfl⟩
      rw [hx] at c0
      have HX := hidOf hx
      have HKl := hidOf hkl
      have HB := hidOf hB
      clear hcell hx hkl hB
      by_cases hq : x.nm = s
      · have hqe := beq_str hq
        have HE := hidOf (show placeT (nms xs) s = (k : Int) from placeT_at (by simpa [nms] using HKl.out) (fun j hj => by rw [nms_get (by have := HKl.out; omega)]; exact HNo.out j hj) (by rw [nms_get HKl.out, HX.out]; exact hq))
        clear hq
        go_wp2_with fail
        go_ret
        exact ⟨rint (by rw [HA.out, HE.out]), HB.out⟩
      · have hqe := bne_str hq
        have HQ2 := hidOf hq
        clear hq
        go_wp2_with fail
        go_roundw
        case rel => exact ⟨k + 1, by omega, by go_num, fun j hj => (by
          by_cases e : j = k
          · rw [e, HX.out]; exact HQ2.out
          · exact HNo.out j (by omega)), HB.out⟩
        case measure => simp [intOf]; omega
    · have hki : ¬ (k : Int) < (n : Int) := by omega
      have HE := hidOf (show placeT (nms xs) s = -1 from placeT_none (fun j hj => by
        have hj1 : j < xs.length := by simpa [nms] using hj
        rw [nms_get hj1]
        exact HNo.out j (by have := HL.out; omega)))
      go_wp2_with fail
      go_ret
      exact ⟨rint (by rw [HA.out, HE.out]), hB⟩
theorem implTopicAt_any (a : Option Addr) (n c : Nat) (xs : List Ta) (s : ByteArray) (w : World) (hI : TopAt w a n xs) (hW : TWf xs) (hn : n ≤ 1048576) (hg : GOkT w) :
    Calls Tryz.prog 22 #[.slice a n c, .string s] w fun e w' => e = .returned (.int .i64 (atT xs s)) ∧ Below w.heap.size w w' := by
  have HI := hidOf hI
  have HC := hidOf (implTopics_any a n c xs w hI hW hn hg)
  obtain ⟨q, hq⟩ : ∃ q, okTs xs = q := ⟨_, rfl⟩
  rw [hq] at HC
  have HQ := hidOf hq
  clear hI hW hq hg
  go_enter Tryz.func22, Tryz.ntmps22
  go_wp2_with fail
  refine (HC.out).mono ?_
  rintro e w1 ⟨rfl, b1⟩
  have HB1 := hidOf b1
  cases q
  · have HE := hidOf (show atT xs s = -1 by unfold atT; rw [if_neg (by rw [HQ.out]; simp)])
    clear HC b1
    go_wp2_with fail
    go_ret
    exact ⟨rint HE.out.symm, HB1.out⟩
  have HA := hidOf (show atT xs s = placeT (nms xs) s by unfold atT; rw [if_pos HQ.out])
  have HP := hidOf (placeTop_any a n c xs s w1 (HI.out.keep b1) (by omega))
  clear HC b1
  go_wp2_with fail
  refine (HP.out).mono ?_
  rintro e w2 ⟨rfl, b2⟩
  have HB2 := hidOf (bl_trans HB1.out b2)
  clear b2 HP
  go_wp2_with fail
  go_ret
  exact ⟨rint HA.out.symm, HB2.out⟩
/-- Right lists are told apart from where they lie. -/
theorem tg_tvs {xs ys : List Ta} (h : tvs ys = tvs xs) (i : Nat) : (tg ys i).nm = (tg xs i).nm ∧ (tg ys i).v = (tg xs i).v := by
  have hl : ys.length = xs.length := by have := congrArg List.length h; simpa [tvs] using this
  by_cases hi : i < ys.length
  · exact ⟨(tvs_at h hi).1.symm, (tvs_at h hi).2.symm⟩
  · unfold tg
    rw [List.getD_eq_getElem?_getD, List.getD_eq_getElem?_getD, List.getElem?_eq_none (by omega), List.getElem?_eq_none (by omega)]
    exact ⟨rfl, rfl⟩
theorem okTs_tvs {xs ys : List Ta} (h : tvs ys = tvs xs) : okTs ys = okTs xs := by
  have hl : ys.length = xs.length := by have := congrArg List.length h; simpa [tvs] using this
  have ha : ∀ i, okTa ys i = okTa xs i := fun i => by
    unfold okTa
    rw [(tg_tvs h i).1, (tg_tvs h i).2]
    have : (∀ j, j < i → ¬ (tg ys j).nm = (tg xs i).nm) ↔ ∀ j, j < i → ¬ (tg xs j).nm = (tg xs i).nm := by
      constructor
      · intro k j hj; rw [← (tg_tvs h j).1]; exact k j hj
      · intro k j hj; rw [(tg_tvs h j).1]; exact k j hj
    simp only [this]
  have ht : topTo ys xs.length ↔ topTo xs xs.length := by
    unfold topTo
    constructor
    · intro k i hi; rw [← ha]; exact k i hi
    · intro k i hi; rw [ha]; exact k i hi
  unfold okTs
  exact congr (congrArg and (decide_eq_decide.2 (by rw [hl]))) (decide_eq_decide.2 (by rw [hl]; exact ht))
theorem nms_tvs {xs ys : List Ta} (h : tvs ys = tvs xs) : nms ys = nms xs := by
  have h2 := congrArg (List.map Prod.fst) h
  simp only [tvs, List.map_map] at h2
  exact h2
theorem atT_tvs {xs ys : List Ta} (h : tvs ys = tvs xs) (s : ByteArray) : atT ys s = atT xs s := by unfold atT; rw [okTs_tvs h, nms_tvs h]
theorem wf_to {xs ys : List Ta} (hs : tvs ys = tvs xs) (h : ∀ y, y ∈ ys → RCap y.M ∧ ∃ x, x ∈ xs ∧ ∀ k, RLe x.M k → RLe y.M k) (hle : TLe xs 1048576) (hw : ∀ x, x ∈ xs → RWf x.v) : TWf ys :=
  ⟨ToT.le h hle, fun y hy => (h y hy).1, fun y hy => by
    obtain ⟨i, hi, rfl⟩ := List.getElem_of_mem hy
    have hl : ys.length = xs.length := by have := congrArg List.length hs; simpa [tvs] using this
    have e := (tg_tvs hs i).2
    rw [tg_eq hi, tg_eq (by omega)] at e
    rw [e]
    exact hw _ (List.getElem_mem _)⟩
set_option maxRecDepth 100000 in
set_option maxHeartbeats 8000000 in
theorem exactTopicsOk_any (a : Option Addr) (n c : Nat) (xs : List Ta) (w : World) (hI : TopAt w a n xs) (hw : ∀ x, x ∈ xs → RWf x.v) (hn : n ≤ 9223372036854775807) (hm : TLe xs 9223372036854775807) (hg : GOkT w) :
    Calls Tryz.prog 4 #[.slice a n c] w fun e w' => e = .returned (.bool true) ∧ Below w.heap.size w w' := by
  have HI := hidOf hI
  have HG := hidOf hg
  have HS := hidOf (szTopicS_any a n c xs 1048576 w hI hn hm (by omega) (by omega))
  clear hI hg
  go_enter Tryz.func4, Tryz.ntmps4
  go_wp2_with fail
  refine (HS.out).mono ?_
  rintro e w1 ⟨⟨k, rfl, hk⟩, b1⟩
  clear HS
  rcases hk with hk | ⟨hk, _, hn1, hle⟩
  · go_wp2_with fail
    go_ret
    exact ⟨rfl, b1⟩
  have hk' : ¬ k < 0 := by omega
  have HLe := hidOf hle
  have HL2 := hidOf (show TLe xs 2097152 from fun x hx => (hle x hx).mono (by omega))
  have HN2 := hidOf (show n ≤ 2097152 by omega)
  have HN1 := hidOf hn1
  have HC1 := hidOf (toTopicS_any a n c xs w1 (HI.out.keep b1) HN2.out HL2.out)
  clear hk hle hn1
  go_wp2_with fail
  refine (HC1.out).mono ?_
  rintro e w2 ⟨ys, rfl, hT2, hs2, hr2, b2⟩
  have B2 := bl_trans b1 b2
  have HSp := hidOf (specTopics_any _ n n ys w2 hT2 (wf_to hs2 hr2 HLe.out hw) HN1.out)
  rw [okTs_tvs hs2] at HSp
  obtain ⟨o, ho⟩ : ∃ o, okTs xs = o := ⟨_, rfl⟩
  rw [ho] at HSp
  have HO := hidOf ho
  clear HC1 b1 b2 hT2 hs2 hr2 ho hk'
  go_wp2_with fail
  refine (HSp.out).mono ?_
  rintro e w3 ⟨rfl, b3⟩
  have B3 := bl_trans B2 b3
  have HC3 := hidOf (toTopicS_any a n c xs w3 (HI.out.keep B3) HN2.out HL2.out)
  clear HSp B2 b3
  go_wp2_with fail
  refine (HC3.out).mono ?_
  rintro e w4 ⟨zs, rfl, hT4, hs4, hr4, b4⟩
  have B4 := bl_trans B3 b4
  generalize hN4 : w3.heap.size = N4 at hT4 ⊢
  have HIm := hidOf (implTopics_any _ n n zs w4 hT4 (wf_to hs4 hr4 HLe.out hw) HN1.out (HG.out.keep B4))
  rw [okTs_tvs hs4, HO.out] at HIm
  have HT4 := hidOf hT4
  have HS4 := hidOf hs4
  have HR4 := hidOf hr4
  clear HC3 B3 b4 hT4 hs4 hr4 hN4
  go_wp2_with fail
  refine (HIm.out).mono ?_
  rintro e w5 ⟨rfl, b5⟩
  have B5 := bl_trans B4 b5
  have HT5 := hidOf (HT4.out.keep b5)
  have HC5 := hidOf (toTopicS_any a n c xs w5 (HI.out.keep B5) HN2.out HL2.out)
  clear HIm B4 b5 HT4
  generalize o = l
  go_wp2_with fail
  refine (HC5.out).mono ?_
  rintro e w6 ⟨us, rfl, hT6, hs6, hr6, b6⟩
  have B6 := bl_trans B5 b6
  have HEq := hidOf (eqTopicS_same _ _ n n n zs us w6 (HT5.out.keep b6) hT6 (by rw [HS4.out, hs6]) HN2.out (ToT.le HR4.out HL2.out) (ToT.le hr6 HL2.out))
  clear HC5 B5 b6 hT6 hs6 hr6
  go_wp2_with fail
  refine (HEq.out).mono ?_
  rintro e w7 ⟨rfl, b7⟩
  have B7 := bl_trans B6 b7
  clear HEq B6 b7
  go_wp2_with fail
  go_ret
  exact ⟨rfl, B7⟩
set_option maxRecDepth 100000 in
set_option maxHeartbeats 8000000 in
theorem exactTopicAt_any (a : Option Addr) (n c : Nat) (xs : List Ta) (s : ByteArray) (w : World) (hI : TopAt w a n xs) (hw : ∀ x, x ∈ xs → RWf x.v) (hn : n ≤ 9223372036854775807) (hm : TLe xs 9223372036854775807) (hg : GOkT w) :
    Calls Tryz.prog 5 #[.slice a n c, .string s] w fun e w' => e = .returned (.bool true) ∧ Below w.heap.size w w' := by
  by_cases hbig : 1048576 < (s.size : Int)
  · clear hI
    go_enter Tryz.func5, Tryz.ntmps5
    go_wp2_with fail
    go_ret
    exact ⟨rfl, Below.refl _ _⟩
  have HI := hidOf hI
  have HG := hidOf hg
  have HS := hidOf (szTopicS_any a n c xs 1048576 w hI hn hm (by omega) (by omega))
  clear hI hg
  go_enter Tryz.func5, Tryz.ntmps5
  go_wp2_with fail
  refine (HS.out).mono ?_
  rintro e w1 ⟨⟨k, rfl, hk⟩, b1⟩
  clear HS
  rcases hk with hk | ⟨hk, _, hn1, hle⟩
  · go_wp2_with fail
    go_ret
    exact ⟨rfl, b1⟩
  have hk' : ¬ k < 0 := by omega
  have HLe := hidOf hle
  have HL2 := hidOf (show TLe xs 2097152 from fun x hx => (hle x hx).mono (by omega))
  have HN2 := hidOf (show n ≤ 2097152 by omega)
  have HN1 := hidOf hn1
  have HC1 := hidOf (toTopicS_any a n c xs w1 (HI.out.keep b1) HN2.out HL2.out)
  clear hk hle hn1
  go_wp2_with fail
  refine (HC1.out).mono ?_
  rintro e w2 ⟨ys, rfl, hT2, hs2, hr2, b2⟩
  have B2 := bl_trans b1 b2
  have HSp := hidOf (specTopicAt_any _ n n ys s w2 hT2 (wf_to hs2 hr2 HLe.out hw) HN1.out)
  rw [atT_tvs hs2] at HSp
  obtain ⟨o, ho⟩ : ∃ o, atT xs s = o := ⟨_, rfl⟩
  rw [ho] at HSp
  have HO := hidOf ho
  clear HC1 b1 b2 hT2 hs2 hr2 ho hk'
  go_wp2_with fail
  refine (HSp.out).mono ?_
  rintro e w3 ⟨rfl, b3⟩
  have B3 := bl_trans B2 b3
  have HC3 := hidOf (toTopicS_any a n c xs w3 (HI.out.keep B3) HN2.out HL2.out)
  clear HSp B2 b3
  go_wp2_with fail
  refine (HC3.out).mono ?_
  rintro e w4 ⟨zs, rfl, hT4, hs4, hr4, b4⟩
  have B4 := bl_trans B3 b4
  generalize hN4 : w3.heap.size = N4 at hT4 ⊢
  have HIm := hidOf (implTopicAt_any _ n n zs s w4 hT4 (wf_to hs4 hr4 HLe.out hw) HN1.out (HG.out.keep B4))
  rw [atT_tvs hs4, HO.out] at HIm
  have HT4 := hidOf hT4
  have HS4 := hidOf hs4
  have HR4 := hidOf hr4
  clear HC3 B3 b4 hT4 hs4 hr4 hN4
  go_wp2_with fail
  refine (HIm.out).mono ?_
  rintro e w5 ⟨rfl, b5⟩
  have B5 := bl_trans B4 b5
  have HT5 := hidOf (HT4.out.keep b5)
  have HC5 := hidOf (toTopicS_any a n c xs w5 (HI.out.keep B5) HN2.out HL2.out)
  clear HIm B4 b5 HT4
  generalize o = l
  go_wp2_with fail
  refine (HC5.out).mono ?_
  rintro e w6 ⟨us, rfl, hT6, hs6, hr6, b6⟩
  have B6 := bl_trans B5 b6
  have HEq := hidOf (eqTopicS_same _ _ n n n zs us w6 (HT5.out.keep b6) hT6 (by rw [HS4.out, hs6]) HN2.out (ToT.le HR4.out HL2.out) (ToT.le hr6 HL2.out))
  clear HC5 B5 b6 hT6 hs6 hr6
  go_wp2_with fail
  refine (HEq.out).mono ?_
  rintro e w7 ⟨rfl, b7⟩
  have B7 := bl_trans B6 b7
  clear HEq B6 b7
  go_wp2_with fail
  go_ret
  exact ⟨rfl, B7⟩
end Go.Proofs.YtpaiidnadkgdcaaGreatDoor
