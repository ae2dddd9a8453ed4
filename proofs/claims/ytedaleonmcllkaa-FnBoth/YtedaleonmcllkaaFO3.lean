/-
  Both filters: the specification's walk.
-/
import Derived.Test.YtedaleonmcllkaaFO
namespace Go.Proofs.Ytedaleonmcllkaa
open Go.RowKit Pl Il

theorem ne_of_len' {ts : List Tm} {n : Nat} (h : ts.length = n) (h0 : ¬ n = 0) : ts ≠ [] := by
  rintro rfl; simp at h; omega
set_option maxRecDepth 100000 in
set_option maxHeartbeats 4000000 in
theorem specBoth_any (a a1 : Option Addr) (n n1 cap cap1 : Nat) (ts us : List Tm) (w : World) (hI : TmAt w a n ts) (hJ : TmAt w a1 n1 us) (hn : n ≤ 9223372036854775807) (hn1 : n1 ≤ 9223372036854775807) :
    Calls Try.prog 19 #[.slice a n cap, .slice a1 n1 cap1] w fun e w' => OutF w (bothM ts us) e w' := by
  have hlen := hI.len
  have hlen1 := hJ.len
  have HF := hidOf (specFilterOk_any a n cap ts w hI hn)
  have HI := hidOf hI
  have HJ := hidOf hJ
  clear hI hJ
  cases hok : okF ts
  · have HR := hidOf (both_no1 (g := us) hok)
    rw [hok] at HF
    clear hok
    go_enter Try.func19, Try.ntmps19
    go_wp2_with fail
    refine (HF.out).mono ?_
    rintro e w1 ⟨rfl, hb1⟩
    have HB := hidOf hb1
    clear hb1 HF
    go_wp2
    first | go_ret | go_ret2
    exact OutF.none HR.out HB.out
  rw [hok] at HF
  have hle := okF_le hok
  have HO := hidOf hok
  clear hok
  go_enter Try.func19, Try.ntmps19
  go_wp2_with fail
  refine (HF.out).mono ?_
  rintro e w1 ⟨rfl, hb1⟩
  have HB := hidOf hb1
  have HF2 := hidOf (specFilterOk_any a1 n1 cap1 us w1 (HJ.out.keep hb1) hn1)
  clear hb1 HF
  cases hok1 : okF us
  · have HR := hidOf (both_no2 HO.out hok1)
    rw [hok1] at HF2
    clear hok1
    go_wp2_with fail
    refine (HF2.out).mono ?_
    rintro e w2 ⟨rfl, hb2⟩
    have HB2 := hidOf (bl_trans HB.out hb2)
    clear hb2 HF2 HB
    go_wp2
    first | go_ret | go_ret2
    exact OutF.none HR.out HB2.out
  rw [hok1] at HF2
  have hle1 := okF_le hok1
  have HO1 := hidOf hok1
  clear hok1
  go_wp2_with fail
  refine (HF2.out).mono ?_
  rintro e w2 ⟨rfl, hb2⟩
  have HB2 := hidOf (bl_trans HB.out hb2)
  clear hb2 HF2 HB
  obtain ⟨W, hW⟩ : ∃ W, W = w2.alloc (.cells #[] 57) := ⟨_, rfl⟩
  have bW : Below w.heap.size w W := by rw [hW]; exact bl_alloc HB2.out _
  have oW : W.ownsRow w.heap.size 57 3 (.slice (some ⟨w2.heap.size, 0, none⟩) 0 0) 0 (qflat []) := by rw [hW]; exact World.ownsRow_made w2 #[] 0 HB2.out.size (by unfold maxLen; omega) (by simp)
  obtain ⟨v3, w3, hr3, ho3, hg3⟩ := append_tms w.heap.size _ 0 [] a n cap ts W oW bW.size (HI.out.keep bW) (by omega)
  rw [Nat.zero_add, List.nil_append] at ho3
  have hb3 : Below w.heap.size w w3 := rowF_below bW oW hg3 bW.size
  obtain ⟨a3, c3, rfl⟩ := slice_form ho3
  rw [hW] at hr3
  obtain ⟨v4, w4, hr4, ho4, hg4⟩ := append_tms w.heap.size _ n ts a1 n1 cap1 us w3 ho3 hb3.size (HJ.out.keep hb3) (by omega)
  have hb4 : Below w.heap.size w w4 := rowF_below hb3 ho3 hg4 hb3.size
  obtain ⟨a4, c4, rfl⟩ := slice_form ho4
  have Hr3 := hidOf hr3
  have Hr4 := hidOf hr4
  by_cases h0 : n = 0 ∨ n1 = 0
  · have hz : ts = [] ∨ us = [] := by
      rcases h0 with h | h
      · exact .inl (List.length_eq_zero_iff.1 (by rw [hlen, h]))
      · exact .inr (List.length_eq_zero_iff.1 (by rw [hlen1, h]))
    have HFin := hidOf (OutF.some (both_one HO.out HO1.out hz) (short_app HI.out.short HJ.out.short) ho4 (by omega) hb4)
    clear hr3 hr4 ho3 ho4 hg3 hg4 hb3 hb4 HB2 HI HJ HO HO1 oW bW hW hz
    by_cases hn0 : n = 0
    · have e0 : ((n : Int) == 0) = true := by simp [hn0]
      clear h0 hn0
      go_wp2_with (at_builtin; first | (refine wpList_append_run rfl _ _ 24 rfl _ _ _ rfl rfl Hr3.out ?_) | (refine wpList_append_run rfl _ _ 24 rfl _ _ _ rfl rfl Hr4.out ?_))
      first | go_ret | go_ret2
      exact HFin.out
    · have e0 : ((n : Int) == 0) = false := by simp; omega
      have e1 : ((n1 : Int) == 0) = true := by simp; omega
      clear h0 hn0
      go_wp2_with (at_builtin; first | (refine wpList_append_run rfl _ _ 24 rfl _ _ _ rfl rfl Hr3.out ?_) | (refine wpList_append_run rfl _ _ 24 rfl _ _ _ rfl rfl Hr4.out ?_))
      first | go_ret | go_ret2
      exact HFin.out
  have e0 : ((n : Int) == 0) = false := by simp; omega
  have e1 : ((n1 : Int) == 0) = false := by simp; omega
  have t0 := ne_of_len' hlen (by omega)
  have t1 := ne_of_len' hlen1 (by omega)
  by_cases h12 : 12 < (n : Int) + (n1 : Int) + 1
  · have HFin := hidOf (OutF.none (both_long HO.out HO1.out t0 t1 (by omega)) HB2.out)
    clear hr3 hr4 ho3 ho4 hg3 hg4 hb3 hb4 HB2 HI HJ HO HO1 oW bW hW h0
    go_wp2
    first | go_ret | go_ret2
    exact HFin.out
  · obtain ⟨v5, w5, hr5, ho5, hg5⟩ := append_tm1 w.heap.size (n + n1) _ (ts ++ us) 9 w4 ho4 hb4.size (by omega)
    have hb5 : Below w.heap.size w w5 := rowF_below hb4 ho4 hg5 hb4.size
    obtain ⟨a5, c5, rfl⟩ := slice_form ho5
    have Hr5 := hidOf hr5
    have HFin := hidOf (OutF.some (both_some HO.out HO1.out t0 t1 (by omega)) (short_snoc (short_app HI.out.short HJ.out.short)) ho5 (by omega) hb5)
    clear hr3 hr4 ho3 ho4 hg3 hg4 hb3 hb4 HB2 HI HJ HO HO1 oW bW hW hr5 ho5 hg5 hb5 h0
    go_wp2_with (at_builtin; first | (refine wpList_append_run rfl _ _ 24 rfl _ _ _ rfl rfl Hr3.out ?_) | (refine wpList_append_run rfl _ _ 24 rfl _ _ _ rfl rfl Hr4.out ?_) | (refine wpList_append_run rfl _ _ 24 rfl _ _ _ rfl rfl Hr5.out ?_))
    first | go_ret | go_ret2
    exact HFin.out
end Go.Proofs.Ytedaleonmcllkaa
