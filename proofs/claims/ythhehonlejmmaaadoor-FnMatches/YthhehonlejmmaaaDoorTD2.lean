/-
  The law on what matches.
-/
import Derived.Test.YthhehonlejmmaaaDoorTD1
import Derived.Test.YthhehonlejmmaaaDoorTM3
namespace Go.Proofs.YthhehonlejmmaaaDoor
open Go.RowKit Pl Il Dr Tn

theorem restArr : rest = ⟨#[62]⟩ := rfl
set_option maxHeartbeats 8000000 in
theorem matchesLaw_any (a : Option Addr) (len cap : Nat) (w : World) (hg : GOkT w) (hB : len ≤ 1048576 → Bytes w.heap.size w a len cap) :
    Calls Tryd.prog 3 #[.slice a len cap] w fun e w' => e = .returned (.bool true) ∧ Below w.heap.size w w' := by
  have HBig := hidT (big_any a len cap w)
  by_cases hl : 1048576 < len
  · rw [show decide (1048576 < len) = true by simp; omega] at HBig
    go_enter Tryd.func3, Tryd.ntmps3
    go_wp2_with fail
    refine HBig.out.mono ?_
    rintro e w1 ⟨rfl, rfl⟩
    go_wp2_with fail
    go_ret
    exact ⟨rfl, Below.refl _ _⟩
  rw [show decide (1048576 < len) = false by simp; omega] at HBig
  have HD := hidT (drawMatches_any a len cap w (hB (by omega)))
  clear hB hl
  go_enter Tryd.func3, Tryd.ntmps3
  go_wp2_with fail
  refine HBig.out.mono ?_
  rintro e w0 ⟨rfl, rfl⟩
  go_wp2_with fail
  refine HD.out.mono ?_
  rintro e w1 ⟨name, pat, rfl, hn, hp, hB1⟩
  have hz : name.size ≤ maxLen := by unfold maxLen; omega
  have hz' : pat.size ≤ maxLen := by unfold maxLen; omega
  have HG := hidT (hg.keep hB1)
  have HB1 := hidT hB1
  have HM := hidT (fun u (hu : Below w1.heap.size w1 u) p (hp : p.size ≤ maxLen) => implMatches_any name p u hz hp (HG.out.keep hu))
  have HS := hidT (fun u => specMatches_any name pat u hz hz')
  have HN := hidT (fun u => specName_any name u hz)
  have HPt := hidT (fun u (hu : Below w1.heap.size w1 u) => implPattern_any name u hz (HG.out.keep hu))
  clear hg hB1 HBig HD
  unfold MatchP at HM HS
  have H1 := hidT (HM.out w1 (Below.refl _ _) pat hz')
  obtain ⟨q, hq⟩ : ∃ q, matchN name pat = q := ⟨_, rfl⟩
  rw [hq] at H1 HS
  have HQ := hidT hq
  clear hq
  go_wp2_with fail
  refine H1.out.mono ?_
  rintro e w2 ⟨rfl, hB2⟩
  have H2 := hidT (HS.out w2)
  have HB2 := hidT hB2
  clear hB2 H1
  go_wp2_with fail
  refine H2.out.mono ?_
  rintro e w3 ⟨rfl, hB3⟩
  have HB3 := hidT (bl_trans HB2.out hB3)
  have H3 := hidT (HN.out w3)
  clear hB3 H2 HB2
  obtain ⟨r, hr⟩ : ∃ r, rightN false name = r := ⟨_, rfl⟩
  rw [hr] at H3
  have HRt := hidT hr
  clear hr
  cases r
  · have HF := hidT (fun p => match_no (pat := p) HRt.out)
    obtain rfl : q = false := by rw [← HQ.out]; exact HF.out pat
    have HR := hidT (fun u (hu : Below w1.heap.size w1 u) => by have := HM.out u hu rest (by decide); rw [HF.out] at this; exact this)
    have HSf := hidT (fun u (hu : Below w1.heap.size w1 u) => by have := HM.out u hu name hz; rw [HF.out] at this; exact this)
    rw [restArr] at HR
    go_wp2_with fail
    refine H3.out.mono ?_
    rintro e w4 ⟨rfl, hB4⟩
    have HB4 := hidT (bl_trans HB3.out hB4)
    have H4 := hidT (HR.out w4 HB4.out)
    clear hB4
    go_wp2_with fail
    refine H4.out.mono ?_
    rintro e w5 ⟨rfl, hB5⟩
    have HB5 := hidT (bl_trans HB4.out hB5)
    have H5 := hidT (HSf.out w5 HB5.out)
    clear hB5
    go_wp2_with fail
    refine H5.out.mono ?_
    rintro e w6 ⟨rfl, hB6⟩
    have HB6 := hidT (bl_trans HB5.out hB6)
    go_wp2_with fail
    go_ret
    exact ⟨rfl, bl_trans HB1.out HB6.out⟩
  · have H3' := H3
    cases q
    all_goals
      go_wp2_with fail
      refine H3'.out.mono ?_
      rintro e w4 ⟨rfl, hB4⟩
      have HB4 := hidT (bl_trans HB3.out hB4)
      clear hB4
      go_wp2_with fail
      go_loopg [6, 7] name.size (fun g v i wr => ∃ (k : Nat) (st : ByteArray), k + g = name.size ∧ i = .int .i64 (k : Int) ∧ v = .string st ∧ Hid (dat st = starsL (((dat name).take k).count 46)) ∧ w4 = wr)
      case atStart => exact ⟨0, ⟨#[]⟩, by omega, rfl, rfl, rfl, rfl⟩
      case round =>
        obtain ⟨k, st, hkg, rfl, rfl, HST, rfl⟩ := hrel
        have HKG := hidT hkg
        have hsl : st.size ≤ 1000 := by
          rw [← dat_len, HST.out, stars_len]
          have h1 := List.count_le_length (a := (46 : UInt8)) (l := (dat name).take k)
          have h2 : ((dat name).take k).length ≤ k := List.length_take_le _ _
          omega
        cases gk with
        | succ g0 =>
          have hk : k < name.size := by omega
          have HCn := hidT (count_snoc hk)
          by_cases hd : name[k] = 46
          · have hd1 : ((name[k].toNat : Int) == 46) = true := by rw [hd]; decide
            rw [if_pos hd] at HCn
            have HDD := hidT hd
            clear hd hkg
            go_wp2_with fail
            go_roundg g0
            case rel => exact ⟨k + 1, st ++ ⟨#[42, 46]⟩, by have := HKG.out; omega, by go_num, rfl, (by rw [dat_app, HST.out, HCn.out, ← stars_snoc]; rfl : _ = _), rfl⟩
            case measure => omega
          · have hd1 : ((name[k].toNat : Int) == 46) = false := by
              rw [beq_eq_false_iff_ne]
              intro e
              exact hd (UInt8.toNat_inj.1 (by simpa using (show name[k].toNat = 46 by omega)))
            rw [if_neg hd, Nat.add_zero] at HCn
            have HDD := hidT hd
            clear hd hkg
            go_wp2_with fail
            go_roundg g0
            case rel => exact ⟨k + 1, st, by have := HKG.out; omega, by go_num, rfl, (by rw [HCn.out]; exact HST.out : _ = _), rfl⟩
            case measure => omega
        | zero =>
          have hk : ¬ (k : Int) < (name.size : Int) := by omega
          have HC := hidT (show dat st = starsL ((dat name).count 46) by
            have h := HST.out
            rw [List.take_of_length_le (by rw [dat_len]; omega)] at h
            exact h)
          have HP1 := hidT (show matchN name (st ++ ⟨#[42]⟩) = true from matchN_stars HRt.out (by rw [dat_app, HC.out]; rfl))
          have HP2 := hidT (show matchN name (st ++ ⟨#[42, 46, 42]⟩) = false from matchN_more HRt.out (by rw [dat_app, HC.out]; rfl))
          have hz1 : (st ++ ⟨#[42]⟩ : ByteArray).size ≤ maxLen := by unfold maxLen; rw [ByteArray.size_append]; show st.size + 1 ≤ _; omega
          have hz2 : (st ++ ⟨#[42, 46, 42]⟩ : ByteArray).size ≤ maxLen := by unfold maxLen; rw [ByteArray.size_append]; show st.size + 3 ≤ _; omega
          have K1 := hidT (fun u (hu : Below w1.heap.size w1 u) => by have := HM.out u hu name hz; rw [matchN_self HRt.out] at this; exact this)
          have K2 := hidT (fun u (hu : Below w1.heap.size w1 u) => by have := HM.out u hu rest (by decide); rw [matchN_rest HRt.out] at this; exact this)
          have K3 := hidT (fun u (hu : Below w1.heap.size w1 u) => by have := HPt.out u hu; rw [right_true HRt.out] at this; exact this)
          have K4 := hidT (fun u (hu : Below w1.heap.size w1 u) => by have := HM.out u hu _ hz1; rw [HP1.out] at this; exact this)
          have K5 := hidT (fun u (hu : Below w1.heap.size w1 u) => by have := HM.out u hu _ hz2; rw [HP2.out] at this; exact this)
          rw [restArr] at K2
          have L1 := hidT (K1.out w4 HB4.out)
          clear hkg hz1 hz2
          go_wp2_with fail
          refine L1.out.mono ?_
          rintro e w5 ⟨rfl, hB5⟩
          have HB5 := hidT (bl_trans HB4.out hB5)
          have L2 := hidT (K2.out w5 HB5.out)
          clear hB5
          go_wp2_with fail
          refine L2.out.mono ?_
          rintro e w6 ⟨rfl, hB6⟩
          have HB6 := hidT (bl_trans HB5.out hB6)
          have L3 := hidT (K3.out w6 HB6.out)
          clear hB6
          go_wp2_with fail
          refine L3.out.mono ?_
          rintro e w7 ⟨rfl, hB7⟩
          have HB7 := hidT (bl_trans HB6.out hB7)
          have L4 := hidT (K4.out w7 HB7.out)
          clear hB7
          go_wp2_with fail
          refine L4.out.mono ?_
          rintro e w8 ⟨rfl, hB8⟩
          have HB8 := hidT (bl_trans HB7.out hB8)
          have L5 := hidT (K5.out w8 HB8.out)
          clear hB8
          go_wp2_with fail
          refine L5.out.mono ?_
          rintro e w9 ⟨rfl, hB9⟩
          have HB9 := hidT (bl_trans HB8.out hB9)
          clear hB9
          go_wp2_with fail
          go_ret
          exact ⟨rfl, bl_trans HB1.out HB9.out⟩
end Go.Proofs.YthhehonlejmmaaaDoor
