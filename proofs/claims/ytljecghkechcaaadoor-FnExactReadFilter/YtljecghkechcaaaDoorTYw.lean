/-
  Walk of the law on ReadFilter.
-/
import Derived.Test.YtljecghkechcaaaDoorTYp
import Derived.Test.YtljecghkechcaaaDoorTYq
import Derived.Test.YtljecghkechcaaaDoorWF2
namespace Go.Proofs.YtljecghkechcaaaDoor
open Go.RowKit Pl Il

set_option maxRecDepth 100000 in
set_option maxHeartbeats 4000000 in
theorem exactReadFilter_any (s : ByteArray) (w : World) (hL : LaidT w) (hN : Laid w) (hG : GOkF w) :
    Calls Tryd.prog 4 #[.string s] w fun e w' => e = .returned (.bool true) ∧ Below w.heap.size w w' := by
  by_cases hbig : 1048576 < s.size
  · have hb' : (1048576 : Int) < (s.size : Int) := by omega
    clear hbig
    go_enter Tryd.func4, Tryd.ntmps4
    go_wp2
    go_ret
    exact ⟨rfl, Below.refl _ _⟩
  have hb' : ¬ (1048576 : Int) < (s.size : Int) := by omega
  have ha := specReadFilter_any s w (by omega)
  rw [spec_impl] at ha
  have HA := hidOf ha
  have HI := hidOf (fun u (h1 : LaidT u) (h2 : Laid u) (h3 : GOkF u) => implReadFilter_any s u h1 h2 h3 (by omega))
  have HL := hidOf hL
  have HN := hidOf hN
  have HG := hidOf hG
  clear hbig ha hL hN hG
  go_enter Tryd.func4, Tryd.ntmps4
  go_wp2_with fail
  refine HA.out.mono ?_
  rintro e w2 ⟨ws, ms, cs, rfl, _, hms, how, hb2⟩
  have HB2 := hidOf hb2
  have HW := hidOf how.tm
  have hml := how.tm.len
  have m1 := mark_nnF 1 ms
  have HL2 := hidOf (HL.out.keep hb2)
  have HN2 := hidOf (HN.out.keep hb2)
  have HG2 := hidOf (HG.out.keep hb2)
  clear hb2 how HL HN HG HA
  obtain ⟨l, hl⟩ : ∃ l, (implF s).isSome = l := ⟨_, rfl⟩
  rw [hl]
  have HLB := hidOf hl
  clear hl
  go_wp2_with fail
  refine (HI.out _ HL2.out HN2.out HG2.out).mono ?_
  rintro e w4 ⟨a', m', c', rfl, _, _, hog, hb4⟩
  obtain rfl : m' = ms := by rw [← hml, ← hog.tm.len]
  have HG := hidOf hog
  have HGs := hidOf hog.span
  have HS4 := hidOf hb4
  clear hog hb4 hml
  rw [HLB.out]
  go_wp2_with fail
  refine (eqTermS_any _ _ m' m' c' cs _ _ _ HG.out.tm (HW.out.keep HS4.out) (by omega) (by omega)).mono ?_
  rintro e w5 ⟨rfl, hb5⟩
  rw [eqFL_self]
  have HG5 := hidOf (HG.out.keep hb5)
  have HS5 := hidOf (bl_trans HS4.out hb5)
  have s5 := HS5.out.size
  clear HG hb5
  go_wp2_with fail
  refine (markTermS_any w2.heap.size _ m' c' _ 1 _ HG5.out (by omega) (by omega) (by omega)).mono ?_
  rintro e w10 ⟨rfl, hg10, ht10⟩
  have HG10 := hidOf hg10
  have HS10 := hidOf (HS5.out.trans (ht10.below (B := w2.heap.size) s5 (span_geF _ HGs.out (Nat.le_refl _))))
  clear HG5 ht10 HS5 hg10
  go_wp2_with fail
  refine (heldTermS_marks _ m' c' 1 _ HG10.out.tm (by omega) (by omega) (by omega)).mono ?_
  rintro e w11 ⟨rfl, hb11⟩
  have HG11 := hidOf (HG10.out.keep hb11)
  have HS11 := hidOf (bl_trans HS10.out hb11)
  clear HG10 hb11 HS10
  go_wp2_with fail
  refine (HI.out _ (HL2.out.keep HS11.out) (HN2.out.keep HS11.out) (HG2.out.keep HS11.out)).mono ?_
  rintro e w13 ⟨a3, m3, c3, rfl, _, hm3, hoh, hb13⟩
  have HG13 := hidOf (HG11.out.keep hb13)
  have HS13 := hidOf (bl_trans HS11.out hb13)
  have HH := hidOf hoh.tm
  clear HG11 hb13 HS11 hoh
  rw [HLB.out]
  go_wp2_with fail
  refine (eqTermS_any _ _ m3 m' c3 cs _ _ _ HH.out (HW.out.keep HS13.out) (by omega) (by omega)).mono ?_
  rintro e w14 ⟨rfl, hb14⟩
  rw [eqFL_self]
  have HG14 := hidOf (HG13.out.keep hb14)
  have HS14 := hidOf (bl_trans HS13.out hb14)
  clear HG13 hb14 HS13 HH
  go_wp2_with fail
  refine (heldTermS_marks _ m' c' 1 _ HG14.out.tm (by omega) (by omega) (by omega)).mono ?_
  rintro e w15 ⟨rfl, hb15⟩
  have HS15 := hidOf (bl_trans HB2.out (bl_trans HS14.out hb15))
  clear HG14 hb15 HS14
  go_wp2
  go_ret
  exact ⟨rfl, HS15.out⟩
end Go.Proofs.YtljecghkechcaaaDoor
