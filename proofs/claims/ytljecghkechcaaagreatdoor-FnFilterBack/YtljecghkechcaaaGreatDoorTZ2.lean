/-
  Walk of the law on filters' texts read back.
-/
import Derived.Test.YtljecghkechcaaaGreatDoorTZ1
import Derived.Test.YtljecghkechcaaaGreatDoorTXi
import Derived.Test.YtljecghkechcaaaGreatDoorTYp
import Derived.Test.YtljecghkechcaaaGreatDoorTYq
import Derived.Test.YtljecghkechcaaaGreatDoorFA
namespace Go.Proofs.YtljecghkechcaaaGreatDoor
open Go.RowKit Pl Il Dr

theorem filterBack_big (a : Option Addr) (len cap : Nat) (w : World) (hl : 1048576 < len) :
    Calls Tryz.prog 3 #[.slice a len cap] w fun e w' => e = .returned (.bool true) ∧ Below w.heap.size w w' := by
  go_enter Tryz.func3, Tryz.ntmps3
  go_wp2_with fail
  refine (bigC_any a len cap _).mono ?_
  rintro e w1 ⟨rfl, rfl⟩
  rw [show decide (1048576 < len) = true by simp [hl]]
  go_wp2
  go_ret
  exact ⟨rfl, Below.refl _ _⟩
theorem lenOfF {w w' : World} {a : Option Addr} {n : Nat} {r : Option (List Tm)} (hr : r = Option.none) (h : OwnF w.heap.size w' a n (r.getD [])) : n = 0 := by
  subst hr
  have := h.tm.len
  simpa using this.symm
set_option maxRecDepth 100000 in
set_option maxHeartbeats 8000000 in
theorem filterBack_small (a : Option Addr) (len cap : Nat) (w : World) (hB : Bytes w.heap.size w a len cap) (hl : len ≤ 1048576) (hL : LaidT w) (hN : Laid w) (hG : GOkF w) :
    Calls Tryz.prog 3 #[.slice a len cap] w fun e w' => e = .returned (.bool true) ∧ Below w.heap.size w w' := by
  have HBy := hidOf hB
  have HL := hidOf hL
  have HN := hidOf hN
  have HG := hidOf hG
  clear hB hL hN hG
  go_enter Tryz.func3, Tryz.ntmps3
  go_wp2_with fail
  refine (bigC_any a len cap _).mono ?_
  rintro e w0 ⟨rfl, rfl⟩
  rw [show decide (1048576 < len) = false by simp; omega]
  go_wp2_with fail
  refine (drawFilterText_any a len cap _ HBy.out).mono ?_
  rintro e w1 ⟨a1, m1, c1, f, rfl, hm1, hf, hb1⟩
  have HF1 := hidOf hf
  have HB1 := hidOf hb1
  clear hf hb1
  go_wp2_with fail
  refine (implFilterText_any a1 m1 c1 f _ HF1.out (by omega) (HL.out.keep HB1.out)).mono ?_
  rintro e w2 ⟨rfl, hb2⟩
  have HB2 := hidOf (bl_trans HB1.out hb2)
  have HF2 := hidOf (HF1.out.keep hb2)
  clear hb2 HB1 HF1
  obtain ⟨s, fine, hv, hs, hfin⟩ := ft_val f
  have HV := hidOf hv
  rw [hv]
  clear hv
  go_wp2_with fail
  refine (specFilterText_any a1 m1 c1 f _ HF2.out (by omega)).mono ?_
  rintro e w3 ⟨rfl, hb3⟩
  have HB3 := hidOf (bl_trans HB2.out hb3)
  have HF3 := hidOf (HF2.out.keep hb3)
  clear hb3 HB2 HF2
  rw [HV.out]
  have hss : (s.toList == s.toList) = true := by simp
  have HFin := hidOf hfin
  clear hfin
  go_wp2_with fail
  refine (implReadFilter_any s _ (HL.out.keep HB3.out) (HN.out.keep HB3.out) (HG.out.keep HB3.out) (by omega)).mono ?_
  rintro e w4 ⟨a4, m4, c4, rfl, _, hm4, hog, hb4⟩
  have HB4 := hidOf (bl_trans HB3.out hb4)
  have HF4 := hidOf (HF3.out.keep hb4)
  have HG4 := hidOf hog.tm
  clear hb4 HB3 HF3 hog
  have key : (fine = true → (implF s).isSome = true ∧ (implF s).getD [] = f) := by
    intro h
    obtain ⟨h1, h2⟩ := HFin.out h
    rw [h2, impl_back h1]
    exact ⟨rfl, rfl⟩
  have HK := hidOf key
  obtain ⟨rd, hrd⟩ : ∃ rd, (implF s).isSome = rd := ⟨_, rfl⟩
  rw [hrd]
  have HRd := hidOf hrd
  clear key hrd
  cases fine
  · have HB5 := hidOf HB4.out
    clear HB4 HF4 HG4 HK HRd HFin HV
    go_wp2_with fail
    refine (drawReadFilter_any a len cap _ (HBy.out.laterF HB5.out _ HB5.out.size)).mono ?_
    rintro e w6 ⟨x, rfl, hx, hb6⟩
    have HB6 := hidOf (bl_trans HB5.out hb6)
    clear hb6 HB5
    go_wp2_with fail
    refine (implReadFilter_any x _ (HL.out.keep HB6.out) (HN.out.keep HB6.out) (HG.out.keep HB6.out) (by omega)).mono ?_
    rintro e w7 ⟨a7, m7, c7, rfl, _, hm7, hog7, hb7⟩
    have HB7 := hidOf (bl_trans HB6.out hb7)
    have HG7 := hidOf hog7
    clear hb7 HB6 hog7
    obtain ⟨q, hq⟩ : ∃ q, (implF x).isSome = q := ⟨_, rfl⟩
    rw [hq]
    have HQ := hidOf hq
    have hsp := specReadFilter_any x w7 (by omega)
    rw [spec_impl] at hsp
    have HSp := hidOf hsp
    clear hq hsp
    go_wp2_with fail
    refine HSp.out.mono ?_
    rintro e w8 ⟨a8, m8, c8, rfl, _, _, _, hb8⟩
    rw [HQ.out]
    have HB8 := hidOf (bl_trans HB7.out hb8)
    have HT8 := hidOf (HG7.out.tm.keep hb8)
    clear hb8 HB7 HSp
    cases q
    · have hz : m7 = 0 := lenOfF (by
        cases hi : implF x with
        | none => rfl
        | some l => have := HQ.out; rw [hi] at this; cases this) HG7.out
      subst hz
      clear HG7 HT8
      go_wp2_with fail
      go_ret
      exact ⟨rfl, HB8.out⟩
    · obtain ⟨l, hl⟩ : ∃ l, implF x = some l := Option.isSome_iff_exists.1 HQ.out
      obtain ⟨hok, hj⟩ := impl_text hl
      have ht8 := HT8.out
      rw [hl] at ht8
      have ev : ftV l = .tuple #[.string x, .bool true] := by unfold ftV; rw [if_pos hok, hj]
      have HE := hidOf ev
      have HT := hidOf (show TmAt w8 a7 m7 l from ht8)
      have hxx : (x.toList == x.toList) = true := by simp
      clear ht8 HT8 HG7 hl hok hj ev
      go_wp2_with fail
      refine (implFilterText_any a7 m7 c7 l _ HT.out (by omega) (HL.out.keep HB8.out)).mono ?_
      rintro e w9 ⟨rfl, hb9⟩
      have HB9 := hidOf (bl_trans HB8.out hb9)
      rw [HE.out]
      clear hb9
      go_wp2_with fail
      go_ret
      exact ⟨rfl, HB9.out⟩
  · obtain ⟨h1, h2⟩ := HK.out rfl
    have hrd : rd = true := by rw [← HRd.out]; exact h1
    subst hrd
    have hg4 := HG4.out
    rw [h2] at hg4
    obtain rfl : m4 = m1 := by rw [← hg4.len, HF4.out.len]
    have HTs := hidOf (termsSame2_any a1 a4 m4 c1 c4 f w4 HF4.out hg4 (by omega))
    clear h1 h2 hg4 HG4 HK HRd HFin HV HF4
    go_wp2_with fail
    refine HTs.out.mono ?_
    rintro e w5 ⟨rfl, hb5⟩
    have HB5 := hidOf (bl_trans HB4.out hb5)
    clear hb5 HB4 HTs
    go_wp2_with fail
    refine (drawReadFilter_any a len cap _ (HBy.out.laterF HB5.out _ HB5.out.size)).mono ?_
    rintro e w6 ⟨x, rfl, hx, hb6⟩
    have HB6 := hidOf (bl_trans HB5.out hb6)
    clear hb6 HB5
    go_wp2_with fail
    refine (implReadFilter_any x _ (HL.out.keep HB6.out) (HN.out.keep HB6.out) (HG.out.keep HB6.out) (by omega)).mono ?_
    rintro e w7 ⟨a7, m7, c7, rfl, _, hm7, hog7, hb7⟩
    have HB7 := hidOf (bl_trans HB6.out hb7)
    have HG7 := hidOf hog7
    clear hb7 HB6 hog7
    obtain ⟨q, hq⟩ : ∃ q, (implF x).isSome = q := ⟨_, rfl⟩
    rw [hq]
    have HQ := hidOf hq
    have hsp := specReadFilter_any x w7 (by omega)
    rw [spec_impl] at hsp
    have HSp := hidOf hsp
    clear hq hsp
    go_wp2_with fail
    refine HSp.out.mono ?_
    rintro e w8 ⟨a8, m8, c8, rfl, _, _, _, hb8⟩
    rw [HQ.out]
    have HB8 := hidOf (bl_trans HB7.out hb8)
    have HT8 := hidOf (HG7.out.tm.keep hb8)
    clear hb8 HB7 HSp
    cases q
    · have hz : m7 = 0 := lenOfF (by
        cases hi : implF x with
        | none => rfl
        | some l => have := HQ.out; rw [hi] at this; cases this) HG7.out
      subst hz
      clear HG7 HT8
      go_wp2_with fail
      go_ret
      exact ⟨rfl, HB8.out⟩
    · obtain ⟨l, hl⟩ : ∃ l, implF x = some l := Option.isSome_iff_exists.1 HQ.out
      obtain ⟨hok, hj⟩ := impl_text hl
      have ht8 := HT8.out
      rw [hl] at ht8
      have ev : ftV l = .tuple #[.string x, .bool true] := by unfold ftV; rw [if_pos hok, hj]
      have HE := hidOf ev
      have HT := hidOf (show TmAt w8 a7 m7 l from ht8)
      have hxx : (x.toList == x.toList) = true := by simp
      clear ht8 HT8 HG7 hl hok hj ev
      go_wp2_with fail
      refine (implFilterText_any a7 m7 c7 l _ HT.out (by omega) (HL.out.keep HB8.out)).mono ?_
      rintro e w9 ⟨rfl, hb9⟩
      have HB9 := hidOf (bl_trans HB8.out hb9)
      rw [HE.out]
      clear hb9
      go_wp2_with fail
      go_ret
      exact ⟨rfl, HB9.out⟩
theorem filterBack_any (a : Option Addr) (len cap : Nat) (w : World) (hB : len ≤ 1048576 → Bytes w.heap.size w a len cap) (hL : LaidT w) (hN : Laid w) (hG : GOkF w) :
    Calls Tryz.prog 3 #[.slice a len cap] w fun e w' => e = .returned (.bool true) ∧ Below w.heap.size w w' := by
  by_cases hl : len ≤ 1048576
  · exact filterBack_small a len cap w (hB hl) hl hL hN hG
  · exact filterBack_big a len cap w (by omega)
end Go.Proofs.YtljecghkechcaaaGreatDoor
