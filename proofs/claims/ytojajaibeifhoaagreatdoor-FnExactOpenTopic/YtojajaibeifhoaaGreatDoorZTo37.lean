/-
  OpenTopic of both sides.
-/
import Derived.Test.YtojajaibeifhoaaGreatDoorZTo27
import Derived.Test.YtojajaibeifhoaaGreatDoorZTo36
namespace Go.Proofs.YtojajaibeifhoaaGreatDoor
open Go.RowKit Pl Il Tn

def newC (c : Int) : Int := if 1 ≤ c ∧ c ≤ 16 then c else 0
def newK (c : Int) : Int := if 1 ≤ c ∧ c ≤ 16 then 0 else 1
theorem l1InO_any (x a b : Int) (w : World) : Calls Tryz.prog 86 #[.int .i64 x, .int .i64 a, .int .i64 b] w fun e w' => e = .returned (.bool (decide (a ≤ x ∧ x ≤ b))) ∧ w' = w := by
  by_cases h1 : a ≤ x
  · by_cases h2 : x ≤ b
    all_goals
      go_enter Tryz.func86, Tryz.ntmps86
      go_wp2
      go_ret
      exact ⟨by simp [h1, h2], rfl⟩
  · go_enter Tryz.func86, Tryz.ntmps86
    go_wp2
    go_ret
    refine ⟨?_, rfl⟩
    have h2 : decide (a ≤ x) = false := by simp only [decide_eq_false_iff_not]; omega
    simp only [h2, Bool.false_and]
    rfl
theorem specNewRing_any (c : Int) (w : World) : Calls Tryz.prog 63 #[.int .i64 c] w fun e w' => e = .returned (.tuple #[.agg #[.int .i64 (newC c), .int .i64 0, .slice none 0 0, .int .i64 0, .slice none 0 0, .slice none 0 0, .slice none 0 0, .bool false], .int .i64 (newK c)]) ∧ Below w.heap.size w w' := by
  by_cases h : 1 ≤ c ∧ c ≤ 16
  · have e1 : newC c = c := by unfold newC; rw [if_pos h]
    have e2 : newK c = 0 := by unfold newK; rw [if_pos h]
    have h' : decide (1 ≤ c ∧ c ≤ 16) = true := by simp [h]
    rw [e1, e2]
    clear e1 e2
    go_enter Tryz.func63, Tryz.ntmps63
    go_wp2_with (go_at_call 86; refine (l1InO_any _ _ _ _).mono ?_; rintro e w' ⟨rfl, rfl⟩; rw [h'])
    refine bodyPost_ret (v := .tuple #[.agg #[.int .i64 c, .int .i64 0, .slice none 0 0, .int .i64 0, .slice none 0 0, .slice none 0 0, .slice none 0 0, .bool false], .int .i64 0]) (by simp [results, Tryz.results63, go_sem]) rfl ⟨rfl, ?_⟩
    repeat (first | exact Below.refl _ _ | apply Below.drew | apply bl_alloc)
  · have e1 : newC c = 0 := by unfold newC; rw [if_neg h]
    have e2 : newK c = 1 := by unfold newK; rw [if_neg h]
    have h' : decide (1 ≤ c ∧ c ≤ 16) = false := by simp only [decide_eq_false_iff_not]; exact h
    rw [e1, e2]
    clear e1 e2
    go_enter Tryz.func63, Tryz.ntmps63
    go_wp2_with (go_at_call 86; refine (l1InO_any _ _ _ _).mono ?_; rintro e w' ⟨rfl, rfl⟩; rw [h'])
    refine bodyPost_ret (v := .tuple #[.agg #[.int .i64 0, .int .i64 0, .slice none 0 0, .int .i64 0, .slice none 0 0, .slice none 0 0, .slice none 0 0, .bool false], .int .i64 1]) (by simp [results, Tryz.results63, go_sem]) rfl ⟨rfl, ?_⟩
    repeat (first | exact Below.refl _ _ | apply Below.drew | apply bl_alloc)
theorem implNewRing_any (c : Int) (w : World) : Calls Tryz.prog 64 #[.int .i64 c] w fun e w' => e = .returned (.tuple #[.agg #[.int .i64 (newC c), .int .i64 0, .slice none 0 0, .int .i64 0, .slice none 0 0, .slice none 0 0, .slice none 0 0, .bool false], .int .i64 (newK c)]) ∧ Below w.heap.size w w' := by
  by_cases h : 1 ≤ c ∧ c ≤ 16
  · have e1 : newC c = c := by unfold newC; rw [if_pos h]
    have e2 : newK c = 0 := by unfold newK; rw [if_pos h]
    have h1 : ¬ c < 1 := by omega
    have h2 : ¬ 16 < c := by omega
    rw [e1, e2]
    clear e1 e2 h
    go_enter Tryz.func64, Tryz.ntmps64
    go_wp2
    refine bodyPost_ret (v := .tuple #[.agg #[.int .i64 c, .int .i64 0, .slice none 0 0, .int .i64 0, .slice none 0 0, .slice none 0 0, .slice none 0 0, .bool false], .int .i64 0]) (by simp [results, Tryz.results64, go_sem]) rfl ⟨rfl, ?_⟩
    repeat (first | exact Below.refl _ _ | apply Below.drew | apply bl_alloc)
  · have e1 : newC c = 0 := by unfold newC; rw [if_neg h]
    have e2 : newK c = 1 := by unfold newK; rw [if_neg h]
    rw [e1, e2]
    clear e1 e2
    by_cases h1 : c < 1
    · clear h
      go_enter Tryz.func64, Tryz.ntmps64
      go_wp2
      refine bodyPost_ret (v := .tuple #[.agg #[.int .i64 0, .int .i64 0, .slice none 0 0, .int .i64 0, .slice none 0 0, .slice none 0 0, .slice none 0 0, .bool false], .int .i64 1]) (by simp [results, Tryz.results64, go_sem]) rfl ⟨rfl, ?_⟩
      repeat (first | exact Below.refl _ _ | apply Below.drew | apply bl_alloc)
    · have h2 : 16 < c := by omega
      clear h
      go_enter Tryz.func64, Tryz.ntmps64
      go_wp2
      refine bodyPost_ret (v := .tuple #[.agg #[.int .i64 0, .int .i64 0, .slice none 0 0, .int .i64 0, .slice none 0 0, .slice none 0 0, .slice none 0 0, .bool false], .int .i64 1]) (by simp [results, Tryz.results64, go_sem]) rfl ⟨rfl, ?_⟩
      repeat (first | exact Below.refl _ _ | apply Below.drew | apply bl_alloc)
/-- A new ring. -/
def zR (c : Int) : Rv := ⟨c, 0, [], 0, [], [], [], false⟩
theorem zRow (B : Nat) (w : World) (c : Int) : RRow B w Rm0 (zR c) := ⟨World.ownsRow_nil _ _ _ _, fun p hp => (by cases hp), World.ownsRow_nil _ _ _ _, fun x hx => (by cases hx), fun x hx => (by cases hx), rfl, World.ownsRow_nil _ _ _ _, World.ownsRow_nil _ _ _ _, by
  unfold Apt blkR Rm0
  simp [Value.ownBlock]⟩
theorem zBlk {q : Nat} (h : some q ∈ blkR Rm0) : False := by simp [blkR, Rm0, Value.ownBlock] at h
theorem zLe : RLe Rm0 1048576 := ⟨Nat.zero_le _, Nat.zero_le _, fun x hx => (by cases hx), Nat.zero_le _, Nat.zero_le _⟩
theorem box8O {N : Nat} {v0 v1 v2 v3 v4 v5 v6 v7 : Value} {w : World} (h : BoxL N [v0, v1, v2, v3, v4, v5, v6, v7] w) : w.cell? ⟨N, 0, none⟩ = some v0 ∧ w.cell? ⟨N, 1, none⟩ = some v1 ∧ w.cell? ⟨N, 2, none⟩ = some v2 ∧ w.cell? ⟨N, 3, none⟩ = some v3 ∧ w.cell? ⟨N, 4, none⟩ = some v4 ∧ w.cell? ⟨N, 5, none⟩ = some v5 ∧ w.cell? ⟨N, 6, none⟩ = some v6 ∧ w.cell? ⟨N, 7, none⟩ = some v7 :=
  ⟨h.cs 0 (by simp), h.cs 1 (by simp), h.cs 2 (by simp), h.cs 3 (by simp), h.cs 4 (by simp), h.cs 5 (by simp), h.cs 6 (by simp), h.cs 7 (by simp)⟩
theorem okTs_len {xs : List Ta} (h : okTs xs = true) : xs.length ≤ 12 := by
  by_cases k : xs.length ≤ 12
  · exact k
  · rw [okTs_long k] at h; cases h
/-- What OpenTopic leaves, the place, and its code. -/
def otBad (xs : List Ta) (s : ByteArray) (cp : Int) : Bool := !okTs xs || (!rightN false s || decide (¬ newK cp = 0))
def otG (xs : List Ta) (s : ByteArray) (cp : Int) : List (ByteArray × Rv) := if ¬ otBad xs s cp = true ∧ ¬ 0 ≤ placeT (nms xs) s ∧ xs.length < 12 then tvs xs ++ [(s, zR (newC cp))] else tvs xs
def otI (xs : List Ta) (s : ByteArray) (cp : Int) : Int := if otBad xs s cp = true then -1 else if 0 ≤ placeT (nms xs) s then -1 else if 12 ≤ xs.length then -1 else (xs.length : Int)
def otC (xs : List Ta) (s : ByteArray) (cp : Int) : Int := if otBad xs s cp = true then 1 else if 0 ≤ placeT (nms xs) s then 5 else if 12 ≤ xs.length then 2 else 0
def OtP (w : World) (xs : List Ta) (s : ByteArray) (cp : Int) (e : Ending) (w' : World) : Prop := ∃ (a : Option Addr) (n c : Nat) (ys : List Ta), e = .returned (.tuple #[.slice a n c, .int .i64 (otI xs s cp), .int .i64 (otC xs s cp)]) ∧ TRow w.heap.size w' a n c ys ∧ tvs ys = otG xs s cp ∧ TLe ys 1048576 ∧ n ≤ 1048576 ∧ Below w.heap.size w w'
theorem OtP.same {w : World} {xs ys : List Ta} {s : ByteArray} {cp : Int} {w' : World} {a : Option Addr} {n c : Nat} {i k : Int} (hs : tvs ys = tvs xs) (hl : ∀ y, y ∈ ys → ∃ x, x ∈ xs ∧ ∀ k, RLe x.M k → RLe y.M k) (hW : TWf xs) (hr : TRow w.heap.size w' a n c ys) (hb : Below w.heap.size w w') (hi : otI xs s cp = i) (hk : otC xs s cp = k) (hg : otG xs s cp = tvs xs) (hn2 : n ≤ 1048576 := by first | omega | (have h := ‹Hid (_ ≤ 1048576)›.out; omega)) : OtP w xs s cp (.returned (.tuple #[.slice a n c, .int .i64 i, .int .i64 k])) w' :=
  ⟨a, n, c, ys, by rw [hi, hk], hr, by rw [hg, hs], fun y hy => by
    obtain ⟨x, hx, h⟩ := hl y hy
    exact h _ ((hW.le x hx).mono (by omega)), hn2, hb⟩
set_option maxRecDepth 100000 in
set_option maxHeartbeats 8000000 in
theorem specOpenTopic_any (a : Option Addr) (n c : Nat) (xs : List Ta) (s : ByteArray) (cp : Int) (w : World) (hI : TopAt w a n xs) (hW : TWf xs) (hn : n ≤ 1048576) (hs : s.size ≤ maxLen) :
    Calls Tryz.prog 23 #[.slice a n c, .string s, .int .i64 cp] w fun e w' => OtP w xs s cp e w' := by
  have HI := hidOf hI
  have HW := hidOf hW
  have HN := hidOf hn
  have HS := hidOf hs
  have HLn := hidOf hI.len
  have HC := hidOf (l11Copy_any a n c xs w hI (by omega) (fun x hx => (hW.le x hx).mono (by omega)))
  clear hI hW hs
  go_enter Tryz.func23, Tryz.ntmps23
  go_wp2_with fail
  refine (HC.out).mono ?_
  rintro e w1 ⟨a1, c1, ys, rfl, row1, hs1, hl1, b1⟩
  have HSv := hidOf hs1
  have HRl := hidOf hl1
  clear HC hs1 hl1
  go_wp2_with fail
  refine (specNewRing_any cp w1).mono ?_
  rintro e w2 ⟨rfl, b2⟩
  obtain ⟨W2, hW2⟩ : ∃ W, W = w2.alloc (.cells #[.int .i64 (newC cp), .int .i64 0, .slice none 0 0, .int .i64 0, .slice none 0 0, .slice none 0 0, .slice none 0 0, .bool false] 38) := ⟨_, rfl⟩
  have bA : Below w2.heap.size w2 W2 := by rw [hW2]; exact bl_alloc (Below.refl _ _) _
  have row2 := (row1.keep b2).keep bA
  have B2 := bl_trans (bl_trans b1 b2) bA
  have K2 : BoxL w2.heap.size [.int .i64 (newC cp), .int .i64 0, .slice none 0 0, .int .i64 0, .slice none 0 0, .slice none 0 0, .slice none 0 0, .bool false] W2 := by rw [hW2]; exact BoxL.new w2 [.int .i64 (newC cp), .int .i64 0, .slice none 0 0, .int .i64 0, .slice none 0 0, .slice none 0 0, .slice none 0 0, .bool false] _
  clear row1 b1 b2 bA
  obtain ⟨nk, hnk⟩ : ∃ k, newK cp = k := ⟨_, rfl⟩
  rw [hnk]
  have HNk := hidOf hnk
  clear hnk
  go_upto_region 3 with fail
  rw [← hW2]
  clear hW2
  generalize w2.heap.size = NK at K2 ⊢
  have HTo := hidOf (specTopics_any a n c xs W2 (HI.out.keep B2) HW.out HN.out)
  obtain ⟨q, hq⟩ : ∃ q, okTs xs = q := ⟨_, rfl⟩
  rw [hq] at HTo
  have HQ := hidOf hq
  clear hq
  go_wp2_with fail
  refine (HTo.out).mono ?_
  rintro e w3 ⟨rfl, b3⟩
  have row3 := row2.keep b3
  have B3 := bl_trans B2 b3
  have K3 := K2.keep b3
  clear row2 B2 K2 b3 HTo
  have HBad := hidOf (fun (w' : World) (hr : TRow w.heap.size w' a1 n c1 ys) (hb : Below w.heap.size w w') (hbad : otBad xs s cp = true) => show OtP w xs s cp (.returned (.tuple #[.slice a1 n c1, .int .i64 (-1), .int .i64 1])) w' from OtP.same HSv.out HRl.out HW.out hr hb (by unfold otI; rw [if_pos hbad]) (by unfold otC; rw [if_pos hbad]) (by unfold otG; rw [if_neg (by intro h; exact h.1 hbad)]))
  cases q
  · have HP := hidOf (HBad.out w3 row3 B3 (by unfold otBad; rw [HQ.out]; rfl))
    clear K3
    go_wp2_with fail
    exact bodyPost_ret (v := .tuple #[.slice a1 n c1, .int .i64 (-1), .int .i64 1]) (by simp [results, Tryz.results23, go_sem]) rfl HP.out
  have HNm := hidOf (specName_any s w3 HS.out)
  obtain ⟨p, hp⟩ : ∃ q, rightN false s = q := ⟨_, rfl⟩
  rw [hp] at HNm
  have HPn := hidOf hp
  clear hp
  go_wp2_with fail
  refine (HNm.out).mono ?_
  rintro e w4 ⟨rfl, b4⟩
  have row4 := row3.keep b4
  have B4 := bl_trans B3 b4
  have K4 := K3.keep b4
  clear row3 B3 K3 b4 HNm
  cases p
  · have HP := hidOf (HBad.out w4 row4 B4 (by unfold otBad; rw [HQ.out, HPn.out]; rfl))
    clear K4
    go_wp2_with fail
    exact bodyPost_ret (v := .tuple #[.slice a1 n c1, .int .i64 (-1), .int .i64 1]) (by simp [results, Tryz.results23, go_sem]) rfl HP.out
  by_cases hnz : nk = 0
  case neg =>
    have hnz' : (nk != 0) = true := by simpa using hnz
    have HP := hidOf (HBad.out w4 row4 B4 (by unfold otBad; rw [HQ.out, HPn.out, HNk.out]; simp [hnz]))
    clear K4
    go_wp2_with fail
    exact bodyPost_ret (v := .tuple #[.slice a1 n c1, .int .i64 (-1), .int .i64 1]) (by simp [results, Tryz.results23, go_sem]) rfl HP.out
  have HNb := hidOf (show otBad xs s cp = false by unfold otBad; rw [HQ.out, HPn.out, HNk.out, hnz]; rfl)
  subst hnz
  have HAt := hidOf (specTopicAt_any a n c xs s w4 (HI.out.keep B4) HW.out HN.out)
  obtain ⟨at', hat⟩ : ∃ x, placeT (nms xs) s = x := ⟨_, rfl⟩
  rw [show atT xs s = placeT (nms xs) s by unfold atT; rw [if_pos HQ.out]] at HAt
  rw [hat] at HAt
  have HA := hidOf hat
  clear hat
  go_wp2_with fail
  refine (HAt.out).mono ?_
  rintro e w5 ⟨rfl, b5⟩
  have row5 := row4.keep b5
  have B5 := bl_trans B4 b5
  have K5 := K4.keep b5
  clear row4 B4 K4 b5 HAt
  by_cases hge : 0 ≤ at'
  · have HP := hidOf (show OtP w xs s cp (.returned (.tuple #[.slice a1 n c1, .int .i64 (-1), .int .i64 5])) w5 from OtP.same HSv.out HRl.out HW.out row5 B5 (by unfold otI; rw [if_neg (by rw [HNb.out]; simp), if_pos (by rw [HA.out]; exact hge)]) (by unfold otC; rw [if_neg (by rw [HNb.out]; simp), if_pos (by rw [HA.out]; exact hge)]) (by unfold otG; rw [if_neg (by intro h; exact h.2.1 (by rw [HA.out]; exact hge))]))
    clear K5
    go_wp2_with fail
    exact bodyPost_ret (v := .tuple #[.slice a1 n c1, .int .i64 (-1), .int .i64 5]) (by simp [results, Tryz.results23, go_sem]) rfl HP.out
  have HNg := hidOf (show ¬ 0 ≤ placeT (nms xs) s by rw [HA.out]; exact hge)
  have HNl := hidOf (show xs.length ≤ 12 from okTs_len HQ.out)
  by_cases hfull : 12 ≤ (n : Int)
  · have hfull' : (n : Int) = 12 := by have h1 := HNl.out; have h2 := HLn.out; omega
    have HP := hidOf (show OtP w xs s cp (.returned (.tuple #[.slice a1 n c1, .int .i64 (-1), .int .i64 2])) w5 from OtP.same HSv.out HRl.out HW.out row5 B5 (by unfold otI; rw [if_neg (by rw [HNb.out]; simp), if_neg HNg.out, if_pos (by have h2 := HLn.out; omega)]) (by unfold otC; rw [if_neg (by rw [HNb.out]; simp), if_neg HNg.out, if_pos (by have h2 := HLn.out; omega)]) (by unfold otG; rw [if_neg (by intro h; have h2 := HLn.out; have := h.2.2; omega)]))
    clear K5 hfull'
    go_wp2_with fail
    exact bodyPost_ret (v := .tuple #[.slice a1 n c1, .int .i64 (-1), .int .i64 2]) (by simp [results, Tryz.results23, go_sem]) rfl HP.out
  have hnf : ¬ 12 ≤ (n : Int) := by omega
  obtain ⟨V5, hV5⟩ : ∃ V, w5.alloc (.cells #[.string s, .int .i64 (newC cp), .int .i64 0, .slice none 0 0, .int .i64 0, .slice none 0 0, .slice none 0 0, .slice none 0 0, .bool false] 40) = V := ⟨_, rfl⟩
  have bV : Below w5.heap.size w5 V5 := by rw [← hV5]; exact bl_alloc (Below.refl _ _) _
  have rowV := row5.keep bV
  have BV := bl_trans B5 bV
  obtain ⟨a2, c2, w6, hr6, ho6, hg6, hl6⟩ := append_topR w.heap.size n (.slice a1 n c1) ys (some ⟨w5.heap.size, 0, none⟩) 1 1 [⟨s, Rm0, zR (newC cp)⟩] V5 rowV.row BV.size rfl (.inr ⟨w5.heap.size, 0, rfl, fun j u hj => by
    rw [← hV5, World.cell?_alloc_new, Nat.zero_add]
    simpa [tflat, Rm0, zR] using hj⟩) (by omega)
  have B6 : Below w.heap.size w w6 := BV.grown hg6 BV.size (fun q e => (row_lt rowV.row e).1)
  have row6 := rowV.push (x := ⟨s, Rm0, zR (newC cp)⟩) (zRow _ _ _) HS.out (fun q hq => (zBlk hq).elim) (fun q hq => (zBlk hq).elim) ho6 hg6 hl6
  have HP := hidOf (show OtP w xs s cp (.returned (.tuple #[.slice a2 (n + 1) c2, .int .i64 (n : Int), .int .i64 0])) w6 by
    have h2 := HLn.out
    have h3 : otI xs s cp = (n : Int) := by unfold otI; rw [if_neg (by rw [HNb.out]; simp), if_neg HNg.out, if_neg (by omega), h2]
    have h4 : otC xs s cp = 0 := by unfold otC; rw [if_neg (by rw [HNb.out]; simp), if_neg HNg.out, if_neg (by omega)]
    have h5 : otG xs s cp = tvs xs ++ [(s, zR (newC cp))] := by unfold otG; rw [if_pos ⟨by rw [HNb.out]; simp, HNg.out, by omega⟩]
    refine ⟨a2, n + 1, c2, ys ++ [⟨s, Rm0, zR (newC cp)⟩], by rw [h3, h4], row6, by rw [h5, ← HSv.out]; simp [tvs], fun y hy => ?_, by omega, B6⟩
    rcases List.mem_append.1 hy with hy | hy
    · obtain ⟨x, hx, hk⟩ := HRl.out y hy
      exact hk _ ((HW.out.le x hx).mono (by omega))
    · rw [List.mem_singleton.1 hy]; exact zLe)
  have Hr6 := hidOf hr6
  obtain ⟨k0, k1, k2, k3, k4, k5, k6, k7⟩ := box8O K5
  clear hr6 ho6 hg6 hl6 row6 B6 rowV BV bV row5 B5 K5 hfull
  subst hV5
  go_wp2_with (at_builtin; refine wpList_append_run rfl _ _ 24 rfl _ _ _ rfl rfl Hr6.out ?_)
  exact bodyPost_ret (v := .tuple #[.slice a2 (n + 1) c2, .int .i64 (n : Int), .int .i64 0]) (by simp [results, Tryz.results23, go_sem]) rfl HP.out
set_option maxRecDepth 100000 in
set_option maxHeartbeats 8000000 in
theorem implOpenTopic_any (a : Option Addr) (n c : Nat) (xs : List Ta) (s : ByteArray) (cp : Int) (w : World) (hI : TopAt w a n xs) (hW : TWf xs) (hn : n ≤ 1048576) (hs : s.size ≤ maxLen) (hg : GOkT w) :
    Calls Tryz.prog 24 #[.slice a n c, .string s, .int .i64 cp] w fun e w' => OtP w xs s cp e w' := by
  have HI := hidOf hI
  have HW := hidOf hW
  have HN := hidOf hn
  have HS := hidOf hs
  have HLn := hidOf hI.len
  have HG := hidOf hg
  have HC := hidOf (copiedTops_any a n c xs w hI (by omega) (fun x hx => (hW.le x hx).mono (by omega)))
  clear hI hW hs hg
  go_enter Tryz.func24, Tryz.ntmps24
  go_wp2_with fail
  refine (HC.out).mono ?_
  rintro e w1 ⟨a1, c1, ys, rfl, row1, hs1, hl1, b1⟩
  have HSv := hidOf hs1
  have HRl := hidOf hl1
  clear HC hs1 hl1
  go_wp2_with fail
  refine (implNewRing_any cp w1).mono ?_
  rintro e w2 ⟨rfl, b2⟩
  obtain ⟨W2, hW2⟩ : ∃ W, W = w2.alloc (.cells #[.int .i64 (newC cp), .int .i64 0, .slice none 0 0, .int .i64 0, .slice none 0 0, .slice none 0 0, .slice none 0 0, .bool false] 38) := ⟨_, rfl⟩
  have bA : Below w2.heap.size w2 W2 := by rw [hW2]; exact bl_alloc (Below.refl _ _) _
  have row2 := (row1.keep b2).keep bA
  have B2 := bl_trans (bl_trans b1 b2) bA
  have K2 : BoxL w2.heap.size [.int .i64 (newC cp), .int .i64 0, .slice none 0 0, .int .i64 0, .slice none 0 0, .slice none 0 0, .slice none 0 0, .bool false] W2 := by rw [hW2]; exact BoxL.new w2 [.int .i64 (newC cp), .int .i64 0, .slice none 0 0, .int .i64 0, .slice none 0 0, .slice none 0 0, .slice none 0 0, .bool false] _
  clear row1 b1 b2 bA
  obtain ⟨nk, hnk⟩ : ∃ k, newK cp = k := ⟨_, rfl⟩
  rw [hnk]
  have HNk := hidOf hnk
  clear hnk
  go_upto_region 3 with fail
  rw [← hW2]
  clear hW2
  generalize w2.heap.size = NK at K2 ⊢
  have HTo := hidOf (implTopics_any a n c xs W2 (HI.out.keep B2) HW.out HN.out (HG.out.keep B2))
  obtain ⟨q, hq⟩ : ∃ q, okTs xs = q := ⟨_, rfl⟩
  rw [hq] at HTo
  have HQ := hidOf hq
  clear hq
  go_wp2_with fail
  refine (HTo.out).mono ?_
  rintro e w3 ⟨rfl, b3⟩
  have row3 := row2.keep b3
  have B3 := bl_trans B2 b3
  have K3 := K2.keep b3
  clear row2 B2 K2 b3 HTo
  have HBad := hidOf (fun (w' : World) (hr : TRow w.heap.size w' a1 n c1 ys) (hb : Below w.heap.size w w') (hbad : otBad xs s cp = true) => show OtP w xs s cp (.returned (.tuple #[.slice a1 n c1, .int .i64 (-1), .int .i64 1])) w' from OtP.same HSv.out HRl.out HW.out hr hb (by unfold otI; rw [if_pos hbad]) (by unfold otC; rw [if_pos hbad]) (by unfold otG; rw [if_neg (by intro h; exact h.1 hbad)]))
  cases q
  · have HP := hidOf (HBad.out w3 row3 B3 (by unfold otBad; rw [HQ.out]; rfl))
    clear K3
    go_wp2_with fail
    exact bodyPost_ret (v := .tuple #[.slice a1 n c1, .int .i64 (-1), .int .i64 1]) (by simp [results, Tryz.results24, go_sem]) rfl HP.out
  have HNm := hidOf (implName_any s w3 HS.out (HG.out.keep B3))
  obtain ⟨p, hp⟩ : ∃ q, rightN false s = q := ⟨_, rfl⟩
  rw [hp] at HNm
  have HPn := hidOf hp
  clear hp
  go_wp2_with fail
  refine (HNm.out).mono ?_
  rintro e w4 ⟨rfl, b4⟩
  have row4 := row3.keep b4
  have B4 := bl_trans B3 b4
  have K4 := K3.keep b4
  clear row3 B3 K3 b4 HNm
  cases p
  · have HP := hidOf (HBad.out w4 row4 B4 (by unfold otBad; rw [HQ.out, HPn.out]; rfl))
    clear K4
    go_wp2_with fail
    exact bodyPost_ret (v := .tuple #[.slice a1 n c1, .int .i64 (-1), .int .i64 1]) (by simp [results, Tryz.results24, go_sem]) rfl HP.out
  by_cases hnz : nk = 0
  case neg =>
    have hnz' : (nk != 0) = true := by simpa using hnz
    have HP := hidOf (HBad.out w4 row4 B4 (by unfold otBad; rw [HQ.out, HPn.out, HNk.out]; simp [hnz]))
    clear K4
    go_wp2_with fail
    exact bodyPost_ret (v := .tuple #[.slice a1 n c1, .int .i64 (-1), .int .i64 1]) (by simp [results, Tryz.results24, go_sem]) rfl HP.out
  have HNb := hidOf (show otBad xs s cp = false by unfold otBad; rw [HQ.out, HPn.out, HNk.out, hnz]; rfl)
  subst hnz
  have HAt := hidOf (placeTop_any a n c xs s w4 (HI.out.keep B4) (by have h := HN.out; omega))
  obtain ⟨at', hat⟩ : ∃ x, placeT (nms xs) s = x := ⟨_, rfl⟩
  skip
  rw [hat] at HAt
  have HA := hidOf hat
  clear hat
  go_wp2_with fail
  refine (HAt.out).mono ?_
  rintro e w5 ⟨rfl, b5⟩
  have row5 := row4.keep b5
  have B5 := bl_trans B4 b5
  have K5 := K4.keep b5
  clear row4 B4 K4 b5 HAt
  by_cases hge : 0 ≤ at'
  · have HP := hidOf (show OtP w xs s cp (.returned (.tuple #[.slice a1 n c1, .int .i64 (-1), .int .i64 5])) w5 from OtP.same HSv.out HRl.out HW.out row5 B5 (by unfold otI; rw [if_neg (by rw [HNb.out]; simp), if_pos (by rw [HA.out]; exact hge)]) (by unfold otC; rw [if_neg (by rw [HNb.out]; simp), if_pos (by rw [HA.out]; exact hge)]) (by unfold otG; rw [if_neg (by intro h; exact h.2.1 (by rw [HA.out]; exact hge))]))
    clear K5
    go_wp2_with fail
    exact bodyPost_ret (v := .tuple #[.slice a1 n c1, .int .i64 (-1), .int .i64 5]) (by simp [results, Tryz.results24, go_sem]) rfl HP.out
  have HNg := hidOf (show ¬ 0 ≤ placeT (nms xs) s by rw [HA.out]; exact hge)
  have HNl := hidOf (show xs.length ≤ 12 from okTs_len HQ.out)
  by_cases hfull : 12 ≤ (n : Int)
  · have hfull' : (n : Int) = 12 := by have h1 := HNl.out; have h2 := HLn.out; omega
    have HP := hidOf (show OtP w xs s cp (.returned (.tuple #[.slice a1 n c1, .int .i64 (-1), .int .i64 2])) w5 from OtP.same HSv.out HRl.out HW.out row5 B5 (by unfold otI; rw [if_neg (by rw [HNb.out]; simp), if_neg HNg.out, if_pos (by have h2 := HLn.out; omega)]) (by unfold otC; rw [if_neg (by rw [HNb.out]; simp), if_neg HNg.out, if_pos (by have h2 := HLn.out; omega)]) (by unfold otG; rw [if_neg (by intro h; have h2 := HLn.out; have := h.2.2; omega)]))
    clear K5 hfull
    go_wp2_with fail
    exact bodyPost_ret (v := .tuple #[.slice a1 n c1, .int .i64 (-1), .int .i64 2]) (by simp [results, Tryz.results24, go_sem]) rfl HP.out
  have hnf : ¬ (n : Int) = 12 := by omega
  obtain ⟨V5, hV5⟩ : ∃ V, w5.alloc (.cells #[.string s, .int .i64 (newC cp), .int .i64 0, .slice none 0 0, .int .i64 0, .slice none 0 0, .slice none 0 0, .slice none 0 0, .bool false] 40) = V := ⟨_, rfl⟩
  have bV : Below w5.heap.size w5 V5 := by rw [← hV5]; exact bl_alloc (Below.refl _ _) _
  have rowV := row5.keep bV
  have BV := bl_trans B5 bV
  obtain ⟨a2, c2, w6, hr6, ho6, hg6, hl6⟩ := append_topR w.heap.size n (.slice a1 n c1) ys (some ⟨w5.heap.size, 0, none⟩) 1 1 [⟨s, Rm0, zR (newC cp)⟩] V5 rowV.row BV.size rfl (.inr ⟨w5.heap.size, 0, rfl, fun j u hj => by
    rw [← hV5, World.cell?_alloc_new, Nat.zero_add]
    simpa [tflat, Rm0, zR] using hj⟩) (by omega)
  have B6 : Below w.heap.size w w6 := BV.grown hg6 BV.size (fun q e => (row_lt rowV.row e).1)
  have row6 := rowV.push (x := ⟨s, Rm0, zR (newC cp)⟩) (zRow _ _ _) HS.out (fun q hq => (zBlk hq).elim) (fun q hq => (zBlk hq).elim) ho6 hg6 hl6
  have HP := hidOf (show OtP w xs s cp (.returned (.tuple #[.slice a2 (n + 1) c2, .int .i64 (n : Int), .int .i64 0])) w6 by
    have h2 := HLn.out
    have h3 : otI xs s cp = (n : Int) := by unfold otI; rw [if_neg (by rw [HNb.out]; simp), if_neg HNg.out, if_neg (by omega), h2]
    have h4 : otC xs s cp = 0 := by unfold otC; rw [if_neg (by rw [HNb.out]; simp), if_neg HNg.out, if_neg (by omega)]
    have h5 : otG xs s cp = tvs xs ++ [(s, zR (newC cp))] := by unfold otG; rw [if_pos ⟨by rw [HNb.out]; simp, HNg.out, by omega⟩]
    refine ⟨a2, n + 1, c2, ys ++ [⟨s, Rm0, zR (newC cp)⟩], by rw [h3, h4], row6, by rw [h5, ← HSv.out]; simp [tvs], fun y hy => ?_, by omega, B6⟩
    rcases List.mem_append.1 hy with hy | hy
    · obtain ⟨x, hx, hk⟩ := HRl.out y hy
      exact hk _ ((HW.out.le x hx).mono (by omega))
    · rw [List.mem_singleton.1 hy]; exact zLe)
  have Hr6 := hidOf hr6
  obtain ⟨k0, k1, k2, k3, k4, k5, k6, k7⟩ := box8O K5
  clear hr6 ho6 hg6 hl6 row6 B6 rowV BV bV row5 B5 K5 hfull
  subst hV5
  go_wp2_with (at_builtin; refine wpList_append_run rfl _ _ 24 rfl _ _ _ rfl rfl Hr6.out ?_)
  exact bodyPost_ret (v := .tuple #[.slice a2 (n + 1) c2, .int .i64 (n : Int), .int .i64 0]) (by simp [results, Tryz.results24, go_sem]) rfl HP.out
end Go.Proofs.YtojajaibeifhoaaGreatDoor
