/-
  Both filters: the two sides' walks.
-/
import Derived.Test.YtedaleonmcllkaaFO
namespace Go.Proofs.Ytedaleonmcllkaa
open Go.RowKit Pl Il

theorem ne_of_len {ts : List Tm} {n : Nat} (h : ts.length = n) (h0 : ¬ n = 0) : ts ≠ [] := by
  rintro rfl; simp at h; omega
set_option maxRecDepth 100000 in
set_option maxHeartbeats 4000000 in
theorem implBoth_any (a a1 : Option Addr) (n n1 cap cap1 : Nat) (ts us : List Tm) (w : World) (hI : TmAt w a n ts) (hJ : TmAt w a1 n1 us) (hn : n ≤ 9223372036854775807) (hn1 : n1 ≤ 9223372036854775807) :
    Calls Try.prog 18 #[.slice a n cap, .slice a1 n1 cap1] w fun e w' => OutF w (bothM ts us) e w' := by
  have hlen := hI.len
  have hlen1 := hJ.len
  have HF := hidOf (implFilterOk_any a n cap ts w hI hn)
  have HI := hidOf hI
  have HJ := hidOf hJ
  clear hI hJ
  cases hok : okF ts
  · have HR := hidOf (both_no1 (g := us) hok)
    rw [hok] at HF
    clear hok
    go_enter Try.func18, Try.ntmps18
    go_wp2_with fail
    refine (HF.out).mono ?_
    rintro e w1 ⟨rfl, hb1⟩
    have HB := hidOf hb1
    clear hb1 HF
    go_wp2
    first | go_ret | go_ret2
    exact OutF.none HR.out HB.out
  rw [hok] at HF
  have hle := okF_le hok
  have HO := hidOf hok
  clear hok
  go_enter Try.func18, Try.ntmps18
  go_wp2_with fail
  refine (HF.out).mono ?_
  rintro e w1 ⟨rfl, hb1⟩
  have HB := hidOf hb1
  have HF2 := hidOf (implFilterOk_any a1 n1 cap1 us w1 (HJ.out.keep hb1) hn1)
  clear hb1 HF
  cases hok1 : okF us
  · have HR := hidOf (both_no2 HO.out hok1)
    rw [hok1] at HF2
    clear hok1
    go_wp2_with fail
    refine (HF2.out).mono ?_
    rintro e w2 ⟨rfl, hb2⟩
    have HB2 := hidOf (bl_trans HB.out hb2)
    clear hb2 HF2 HB
    go_wp2
    first | go_ret | go_ret2
    exact OutF.none HR.out HB2.out
  rw [hok1] at HF2
  have hle1 := okF_le hok1
  have HO1 := hidOf hok1
  clear hok1
  go_wp2_with fail
  refine (HF2.out).mono ?_
  rintro e w2 ⟨rfl, hb2⟩
  have HB2 := hidOf (bl_trans HB.out hb2)
  clear hb2 HF2 HB
  go_wp2_with fail
  refine (copiedF_any a n cap ts _ (HI.out.keep HB2.out) (by omega)).mono ?_
  rintro e w3 ⟨a3, c3, rfl, ho3, hb3⟩
  have hbA := bl_trans HB2.out hb3
  obtain ⟨v4, w4, hr4, ho4, hg4⟩ := append_tms w2.heap.size _ n ts a1 n1 cap1 us w3 ho3 hb3.size (HJ.out.keep hbA) (by omega)
  have hb4 : Below w.heap.size w w4 := rowF_below hbA (ho3.mono HB2.out.size) hg4 hbA.size
  obtain ⟨a4, c4, rfl⟩ := slice_form ho4
  have Hr4 := hidOf hr4
  have ho4' := ho4.mono (base' := w.heap.size) HB2.out.size
  by_cases h0 : n = 0
  · subst h0
    obtain rfl : ts = [] := List.length_eq_zero_iff.1 hlen
    rw [Nat.zero_add] at ho4'
    have h12 : ¬ 12 < (n1 : Int) := by omega
    have HFin := hidOf (OutF.some (both_one (g := us) rfl HO1.out (.inl rfl)) (short_app HI.out.short HJ.out.short) ho4' (by omega) hb4)
    clear hr4 ho4 ho4' hg4 hb4 hbA ho3 hb3 HB2 HI HJ HO HO1
    go_wp2_with (at_builtin; refine wpList_append_run rfl _ _ 24 rfl _ _ _ rfl rfl Hr4.out ?_)
    first | go_ret | go_ret2
    exact HFin.out
  have p0 : 0 < (n : Int) := by omega
  by_cases h1 : n1 = 0
  · subst h1
    obtain rfl : us = [] := List.length_eq_zero_iff.1 hlen1
    have h12 : ¬ 12 < ((n + 0 : Nat) : Int) := by omega
    have HFin := hidOf (OutF.some (both_one (f := ts) HO.out rfl (.inr rfl)) (short_app HI.out.short HJ.out.short) ho4' (by omega) hb4)
    clear hr4 ho4 ho4' hg4 hb4 hbA ho3 hb3 HB2 HI HJ HO HO1
    go_wp2_with (at_builtin; refine wpList_append_run rfl _ _ 24 rfl _ _ _ rfl rfl Hr4.out ?_)
    first | go_ret | go_ret2
    exact HFin.out
  have p1 : 0 < (n1 : Int) := by omega
  have t0 := ne_of_len hlen h0
  have t1 := ne_of_len hlen1 h1
  obtain ⟨v5, w5, hr5, ho5, hg5⟩ := append_tm1 w.heap.size (n + n1) _ (ts ++ us) 9 w4 ho4' hb4.size (by omega)
  have hb5 : Below w.heap.size w w5 := rowF_below hb4 ho4' hg5 hb4.size
  obtain ⟨a5, c5, rfl⟩ := slice_form ho5
  have Hr5 := hidOf hr5
  by_cases h12 : 12 < ((n + n1 + 1 : Nat) : Int)
  · have HFin := hidOf (OutF.none (both_long HO.out HO1.out t0 t1 (by omega)) hb5)
    clear hr4 ho4 ho4' hg4 hb4 hbA ho3 hb3 HB2 HI HJ HO HO1 hr5 ho5 hg5 hb5
    go_wp2_with (at_builtin; first | (refine wpList_append_run rfl _ _ 24 rfl _ _ _ rfl rfl Hr4.out ?_) | (refine wpList_append_run rfl _ _ 24 rfl _ _ _ rfl rfl Hr5.out ?_))
    first | go_ret | go_ret2
    exact HFin.out
  · have HFin := hidOf (OutF.some (both_some HO.out HO1.out t0 t1 (by omega)) (short_snoc (short_app HI.out.short HJ.out.short)) ho5 (by omega) hb5)
    clear hr4 ho4 ho4' hg4 hb4 hbA ho3 hb3 HB2 HI HJ HO HO1 hr5 ho5 hg5 hb5
    go_wp2_with (at_builtin; first | (refine wpList_append_run rfl _ _ 24 rfl _ _ _ rfl rfl Hr4.out ?_) | (refine wpList_append_run rfl _ _ 24 rfl _ _ _ rfl rfl Hr5.out ?_))
    first | go_ret | go_ret2
    exact HFin.out
end Go.Proofs.Ytedaleonmcllkaa
