/-
  Walks of the program's tokens: Under.
-/
import Derived.Test.YtgklnpkeffobnaaN9a
import Derived.Test.YtgklnpkeffobnaaSL2
namespace Go.Proofs.Ytgklnpkeffobnaa
open Go.RowKit Pl Il

/-- What going down begins with: nobody is told yet. -/
theorem DMem.start {w0 w2 : World} {B B0 : Nat} {lv : Value} {bs : List Nat} {ps : List Int} {qs : List Bool} (hr : NRow B w2 lv bs) (hN : Nodes B w2 bs ps qs) (hb : Below B0 w0 w2) (h1 : B0 ≤ B) (h2 : B ≤ w2.heap.size) :
    DMem B w0 B0 w2.heap.size lv bs ps (.slice none 0 0) qs [] (w2.alloc (.cells #[.slice none 0 0] 24)) := by
  have hb2 : Below w2.heap.size w2 (w2.alloc (.cells #[.slice none 0 0] 24)) := bl_alloc (Below.refl _ _) _
  exact ⟨heap_alloc_new _ _, hr.keep hb2, hN.keep hb2, ⟨rfl, .inl ⟨rfl, rfl⟩⟩, hb.trans (hb2.mono (by omega)), by omega, h1, by simp; omega⟩

theorem implUnder_any (a : Option Addr) (n c : Nat) (ps : List Int) (a' : Option Addr) (n' c' : Nat) (qs : List Bool) (x : Int) (w : World) (hT : TokIn w a n ps a' n' qs) (hn : n ≤ 2097152) (hn' : n' ≤ 2097152) :
    Calls Try.prog 14 #[.agg #[.slice a n c, .slice a' n' c'], .int .i64 x] w fun e w' => ∃ a1 m1 c1, e = .returned (.slice a1 m1 c1) ∧ Il.OwnAt w.heap.size w' a1 m1 (underL ps qs x) ∧ Below w.heap.size w w' := by
  have hW : TokIn (w.alloc (.cells #[.slice a n c, .slice a' n' c'] 27)) a n ps a' n' qs := hT.keep (bl_alloc (Below.refl _ _) _)
  have HC := hidOf (tokenNodes_any a n c ps a' n' c' qs _ hW hn hn')
  have HB := hidOf (bl_alloc (Below.refl _ w) (.cells #[.slice a n c, .slice a' n' c'] 27))
  have hmf : ∀ (fn : Fn) (first cap : Array Value) (w : World), (Instr.makeFunc fn first cap).run Try.prog w = .ok (.func fn first cap) w := fun _ _ _ _ => rfl
  have hz : (w.alloc (.cells #[.slice a n c, .slice a' n' c'] 27)).heap.size = w.heap.size + 1 := by simp
  have HZ := hidOf hz
  clear hT hW hz
  go_enter Try.func14, Try.ntmps14
  go_wp2_with fail
  refine HC.out.mono ?_
  rintro e w1 ⟨hb, ⟨hl, rfl⟩ | ⟨hl, a1, c1, bs, rfl, hr, hN⟩⟩
  · have ho := under_bad (x := x) (.inl hl)
    have HB1 := hidOf (bl_trans HB.out hb)
    clear hb
    go_wp2
    go_ret
    exact ⟨none, 0, 0, rfl, by rw [ho]; exact ⟨⟨rfl, .inl rfl⟩, .inl rfl⟩, HB1.out⟩
  · have hlp := hN.lp
    have hlq := hN.lq
    have HB1 := hidOf (bl_trans HB.out hb)
    by_cases hx : x < 0 ∨ (bs.length : Int) ≤ x
    · have ho := under_bad (ps := ps) (qs := qs) (x := x) (.inr (by simp only [tokIs, Bool.and_eq_false_iff, decide_eq_false_iff_not]; omega))
      have HA := hidOf (tokenAt_no a1 bs.length c1 x w1 hx)
      clear hx hlp hlq hr hN hb
      go_wp2_with fail
      refine HA.out.mono ?_
      rintro e w2 ⟨rfl, rfl⟩
      go_wp2
      go_ret
      exact ⟨none, 0, 0, rfl, by rw [ho]; exact ⟨⟨rfl, .inl rfl⟩, .inl rfl⟩, HB1.out⟩
    · obtain ⟨k, rfl⟩ := Int.eq_ofNat_of_zero_le (show 0 ≤ x by omega)
      have hk : k < bs.length := by omega
      have hl24 := (tokL_len hl).2
      have hti : tokIs ps (k : Int) = true := by simp only [tokIs, Bool.and_eq_true, decide_eq_true_eq]; omega
      have hdu := down_under (f := bs.length) hl hti hlp hN.par (by omega) hk
      obtain ⟨a2, c2, e2, h0 | ⟨g, ea, _, hg, hcl⟩⟩ := hr.parts
      · omega
      · cases e2
        subst ea
        have HA := hidOf (tokenAt_yes g bs.length c1 k _ w1 hk (hcl k hk))
        have hbs := hb.size
        rw [HZ.out] at hr hN hbs
        have hD := DMem.start (w0 := w) (B0 := w.heap.size) hr hN HB1.out (by omega) hbs
        have hdl := Nat.le_trans (down_len24 (f := bs.length) (show parR ps bs.length from hN.par) (by omega) hk) (show bs.length ≤ 24 by omega)
        have HG := hidOf (goDownUnder_any hD k hk (by omega))
        have HDU := hidOf hdu
        have HDL := hidOf hdl
        generalize bs.getD k 0 = b at HA HG
        unfold nodeP at HA HG
        clear hx hlp hlq hr hN hcl hg hb hbs hD hdu hdl hti hl24
        go_wp2_with fail
        refine HA.out.mono ?_
        rintro e w2 ⟨rfl, rfl⟩
        go_wp2_with fail
        refine HG.out.mono ?_
        rintro e w3 ⟨rfl, gv, hd⟩
        have c3 := cell_one hd.bn
        have HS := hidOf (sort_any hd.gone (by have := HDL.out; omega))
        have HD := hidOf hd
        clear hd
        go_wp2_with fail
        refine HS.out.mono ?_
        rintro e w4 ⟨rfl, ho4, hg4⟩
        have hd4 := HD.out.grown hg4 (gs' := (downL ps bs.length bs.length k).mergeSort fun x y => decide (x ≤ y)) (by simpa using ho4)
        have c4 := cell_one hd4.bn
        have hF := hd4.gone
        rw [← HDU.out] at hF
        obtain ⟨a5, c5, rfl, ho5⟩ := own_of hF _ rfl
        have HF := hidOf (ho5.mono (B' := w.heap.size) (by omega))
        have HBF := hidOf hd4.below
        clear hd4 ho4 hg4 hF ho5 c3
        go_wp2
        go_ret
        exact ⟨_, _, _, rfl, HF.out, HBF.out⟩
theorem implUnder : ImplUnder := fun a n c ps a' n' c' qs x w hT hn hn' _ _ => implUnder_any a n c ps a' n' c' qs x w hT hn hn'
end Go.Proofs.Ytgklnpkeffobnaa
