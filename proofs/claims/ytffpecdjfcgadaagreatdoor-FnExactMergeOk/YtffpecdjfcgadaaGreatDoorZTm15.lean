/-
  Walks of the laws' own helpers on topics: weighed, made anew, compared.
-/
import Derived.Test.YtffpecdjfcgadaaGreatDoorZTm14
import Derived.Deep.RegionHeld3
import Derived.Deep.Cut
namespace Go.Proofs.YtffpecdjfcgadaaGreatDoor
open Go.RowKit Pl Il

theorem BoxL.c9T {N : Nat} {v0 v1 v2 v3 v4 v5 v6 v7 v8 : Value} {w : World} (h : BoxL N [v0, v1, v2, v3, v4, v5, v6, v7, v8] w) : w.cell? ⟨N, 0, none⟩ = some v0 ∧ w.cell? ⟨N, 1, none⟩ = some v1 ∧ w.cell? ⟨N, 2, none⟩ = some v2 ∧ w.cell? ⟨N, 3, none⟩ = some v3 ∧ w.cell? ⟨N, 4, none⟩ = some v4 ∧ w.cell? ⟨N, 5, none⟩ = some v5 ∧ w.cell? ⟨N, 6, none⟩ = some v6 ∧ w.cell? ⟨N, 7, none⟩ = some v7 ∧ w.cell? ⟨N, 8, none⟩ = some v8 :=
  ⟨h.cs 0 (by simp), h.cs 1 (by simp), h.cs 2 (by simp), h.cs 3 (by simp), h.cs 4 (by simp), h.cs 5 (by simp), h.cs 6 (by simp), h.cs 7 (by simp), h.cs 8 (by simp)⟩
set_option maxHeartbeats 2000000 in
theorem szTopic_any (x : Ta) (l : Int) (w : World) (hI : RIn w x.M x.v) (hs : x.nm.size ≤ maxLen) (hm : RLe x.M 9223372036854775807) (l0 : 0 ≤ l) (l1 : l ≤ 1048576) :
    Calls Tryz.prog 12 #[.agg #[.string x.nm, .int .i64 x.v.cp, .int .i64 x.v.se, .slice x.M.ia x.M.i x.M.ic, .int .i64 x.v.nx, .slice x.M.sa x.M.s x.M.sc, .slice x.M.la x.M.l x.M.lc, .slice x.M.ga x.M.g x.M.gc, .bool x.v.cl], .int .i64 l] w fun e w' => SzR x.M e ∧ Below w.heap.size w w' := by
  unfold maxLen at hs
  obtain ⟨W, hW⟩ : ∃ W, W = w.alloc (.cells #[.string x.nm, .int .i64 x.v.cp, .int .i64 x.v.se, .slice x.M.ia x.M.i x.M.ic, .int .i64 x.v.nx, .slice x.M.sa x.M.s x.M.sc, .slice x.M.la x.M.l x.M.lc, .slice x.M.ga x.M.g x.M.gc, .bool x.v.cl] 45) := ⟨_, rfl⟩
  have B0 : Below w.heap.size w W := by rw [hW]; exact bl_alloc (Below.refl _ _) _
  have X0 : BoxL w.heap.size (tC x) W := by rw [hW]; exact BoxL.new w (tC x) _
  obtain ⟨q0, q1, q2, q3, q4, q5, q6, q7, q8⟩ := X0.c9T
  by_cases h : l < (x.nm.size : Int)
  · have h' : l - (x.nm.size : Int) < 0 := by omega
    clear hI
    go_enter Tryz.func12, Tryz.ntmps12
    go_upto_region 1 with fail
    rw [← hW]
    clear hW
    go_wp2_with fail
    go_ret
    exact ⟨⟨_, rfl, .inl (by omega)⟩, B0⟩
  · have h' : ¬ l - (x.nm.size : Int) < 0 := by omega
    have HC := hidOf (szRing_any x.M x.v (l - (x.nm.size : Int)) W (hI.keep B0) hm (by omega) (by omega))
    clear hI
    go_enter Tryz.func12, Tryz.ntmps12
    go_upto_region 1 with fail
    rw [← hW]
    clear hW
    go_wp2_with fail
    refine HC.out.mono ?_
    rintro e w1 ⟨⟨k, rfl, hk⟩, hb1⟩
    have hB := bl_trans B0 hb1
    clear hb1 HC q0 q1 q2 q3 q4 q5 q6 q7 q8 X0 B0 h' h
    rcases hk with hk | ⟨k0, k1, k2⟩
    · go_wp2
      go_ret
      exact ⟨⟨_, rfl, .inl (by omega)⟩, hB⟩
    · have hk' : ¬ k < 0 := by omega
      go_wp2
      go_ret
      exact ⟨⟨_, rfl, .inr ⟨k0, k1, k2⟩⟩, hB⟩
/-- Too great, or not: the list, and each ring. -/
def SzT (n : Nat) (xs : List Ta) (e : Ending) : Prop := ∃ k : Int, e = .returned (.int .i64 k) ∧ (k < 0 ∨ 0 ≤ k ∧ k ≤ 1048576 ∧ n ≤ 1048576 ∧ TLe xs 1048576)
set_option maxHeartbeats 2000000 in
theorem szTopicS_any (a : Option Addr) (n c : Nat) (xs : List Ta) (l : Int) (w : World) (hI : TopAt w a n xs) (hn : n ≤ 9223372036854775807) (hf : TLe xs 9223372036854775807) (l0 : 0 ≤ l) (l1 : l ≤ 1048576) :
    Calls Tryz.prog 4 #[.slice a n c, .int .i64 l] w fun e w' => SzT n xs e ∧ Below w.heap.size w w' := by
  by_cases h : l < (n : Int)
  · have h' : l - (n : Int) < 0 := by omega
    clear hI
    go_enter Tryz.func4, Tryz.ntmps4
    go_wp2
    go_ret
    exact ⟨⟨_, rfl, .inl (by omega)⟩, Below.refl _ _⟩
  · have h' : ¬ l - (n : Int) < 0 := by omega
    have hn2 : n ≤ 1048576 := by omega
    obtain ⟨hlen, hnm, hsh, hr⟩ := hI
    have HS := hidOf hsh
    have HNm := hidOf hnm
    have HL := hidOf hlen
    have HR := hidOf hr
    have HFn := hidOf hf
    clear hsh hlen hr hf hnm
    go_enter Tryz.func4, Tryz.ntmps4
    go_wp2
    go_loopw [1, 5] (fun x i wr => ∃ (k : Nat) (y : Int), k ≤ n ∧ i = .int .i64 k ∧ x = .int .i64 y ∧ 0 ≤ y ∧ y ≤ 1048576 ∧ (∀ j, j < k → RLe (tg xs j).M 1048576) ∧ Below w.heap.size w wr) (fun _ i _ => n - (intOf i).toNat)
    case atStart => exact ⟨0, _, Nat.zero_le _, rfl, rfl, by omega, by omega, fun j hj => (by omega), Below.refl _ _⟩
    case round =>
      rename_i wr
      obtain ⟨k, y, hk, rfl, rfl, y0, y1, hd, hB⟩ := hrel
      have HD := hidOf hd
      clear hd
      by_cases hlt : k < n
      · obtain hr | ⟨b, off, rfl, hb, hcell⟩ := HR.out
        · omega
        obtain ⟨q0, q1, q2, q3, q4, q5, q6, q7, q8⟩ := (hcell k hlt).below hB hb
        have hmem := tg_mem (l := xs) (k := k) (by rw [HL.out]; exact hlt)
        have HC := hidOf (fun (u : World) (hu : Below w.heap.size w u) => szTopic_any (tg xs k) y u ((HS.out _ hmem).keep hu) (HNm.out _ hmem) (HFn.out _ hmem) y0 y1)
        obtain ⟨z, hz⟩ : ∃ z, tg xs k = z := ⟨_, rfl⟩
        rw [hz] at q0 q1 q2 q3 q4 q5 q6 q7 q8 HC
        have HZ := hidOf hz
        have HB := hidOf hB
        clear hz hcell hmem hB
        go_wp2_with fail
        refine ((HC.out _ HB.out)).mono ?_
        rintro e w1 ⟨⟨r, rfl, hr⟩, hb1⟩
        have hB1 := bl_trans HB.out hb1
        clear HC q0 q1 q2 q3 q4 q5 q6 q7 q8 hb1 HB
        rcases hr with hr | ⟨r0, r1, r2⟩
        · go_wp2
          go_ret
          exact ⟨⟨_, rfl, .inl (by omega)⟩, hB1⟩
        · have hr' : ¬ r < 0 := by omega
          go_wp2
          go_roundw
          case rel => exact ⟨k + 1, _, by omega, by go_num, rfl, by omega, by omega, fun j hj => (by
            by_cases e : j = k
            · rw [e, HZ.out]; exact r2
            · exact HD.out j (by omega)), hB1⟩
          case measure => simp [intOf]; omega
      · go_wp2
        go_ret
        refine ⟨⟨_, rfl, .inr ⟨y0, y1, hn2, fun x hx => ?_⟩⟩, hB⟩
        obtain ⟨j, hj, rfl⟩ := List.getElem_of_mem hx
        have := HD.out j (by have := HL.out; omega)
        rwa [tg_eq hj] at this
set_option maxHeartbeats 4000000 in
theorem toTopic_any (x : Ta) (w : World) (hI : RIn w x.M x.v) (hm : RLe x.M 2097152) :
    Calls Tryz.prog 17 #[.agg #[.string x.nm, .int .i64 x.v.cp, .int .i64 x.v.se, .slice x.M.ia x.M.i x.M.ic, .int .i64 x.v.nx, .slice x.M.sa x.M.s x.M.sc, .slice x.M.la x.M.l x.M.lc, .slice x.M.ga x.M.g x.M.gc, .bool x.v.cl]] w fun e w' => ∃ M' : Rm, e = .returned (.agg #[.string x.nm, .int .i64 x.v.cp, .int .i64 x.v.se, .slice M'.ia M'.i M'.ic, .int .i64 x.v.nx, .slice M'.sa M'.s M'.sc, .slice M'.la M'.l M'.lc, .slice M'.ga M'.g M'.gc, .bool x.v.cl]) ∧ ROwn w.heap.size w' M' x.v ∧ (∀ k, RLe x.M k → RLe M' k) ∧ RCap M' ∧ Below w.heap.size w w' := by
  obtain ⟨W0, hW0⟩ : ∃ W, W = ((w.alloc (.cells #[.string x.nm, .int .i64 x.v.cp, .int .i64 x.v.se, .slice x.M.ia x.M.i x.M.ic, .int .i64 x.v.nx, .slice x.M.sa x.M.s x.M.sc, .slice x.M.la x.M.l x.M.lc, .slice x.M.ga x.M.g x.M.gc, .bool x.v.cl] 45)).alloc (.cells #[.string ⟨#[]⟩, .int .i64 0, .int .i64 0, .slice none 0 0, .int .i64 0, .slice none 0 0, .slice none 0 0, .slice none 0 0, .bool false] 55)).alloc (.cells #[.string x.nm, .int .i64 0, .int .i64 0, .slice none 0 0, .int .i64 0, .slice none 0 0, .slice none 0 0, .slice none 0 0, .bool false] 55) := ⟨_, rfl⟩
  have b0 : Below w.heap.size w W0 := by rw [hW0]; exact bl_alloc (bl_alloc (bl_alloc (Below.refl _ _) _) _) _
  have s0 : W0.heap.size = w.heap.size + 3 := by rw [hW0]; simp
  have X1 : BoxL (w.heap.size + 1) [.string ⟨#[]⟩, .int .i64 0, .int .i64 0, .slice none 0 0, .int .i64 0, .slice none 0 0, .slice none 0 0, .slice none 0 0, .bool false] W0 := by
    rw [hW0]
    have h := (BoxL.new (w.alloc (.cells #[.string x.nm, .int .i64 x.v.cp, .int .i64 x.v.se, .slice x.M.ia x.M.i x.M.ic, .int .i64 x.v.nx, .slice x.M.sa x.M.s x.M.sc, .slice x.M.la x.M.l x.M.lc, .slice x.M.ga x.M.g x.M.gc, .bool x.v.cl] 45)) [.string ⟨#[]⟩, .int .i64 0, .int .i64 0, .slice none 0 0, .int .i64 0, .slice none 0 0, .slice none 0 0, .slice none 0 0, .bool false] 55).alloc (.cells #[.string x.nm, .int .i64 0, .int .i64 0, .slice none 0 0, .int .i64 0, .slice none 0 0, .slice none 0 0, .slice none 0 0, .bool false] 55)
    simpa using h
  have X2 : BoxL (w.heap.size + 1 + 1) [.string x.nm, .int .i64 0, .int .i64 0, .slice none 0 0, .int .i64 0, .slice none 0 0, .slice none 0 0, .slice none 0 0, .bool false] W0 := by
    rw [hW0]
    have h := BoxL.new ((w.alloc (.cells #[.string x.nm, .int .i64 x.v.cp, .int .i64 x.v.se, .slice x.M.ia x.M.i x.M.ic, .int .i64 x.v.nx, .slice x.M.sa x.M.s x.M.sc, .slice x.M.la x.M.l x.M.lc, .slice x.M.ga x.M.g x.M.gc, .bool x.v.cl] 45)).alloc (.cells #[.string ⟨#[]⟩, .int .i64 0, .int .i64 0, .slice none 0 0, .int .i64 0, .slice none 0 0, .slice none 0 0, .slice none 0 0, .bool false] 55)) [.string x.nm, .int .i64 0, .int .i64 0, .slice none 0 0, .int .i64 0, .slice none 0 0, .slice none 0 0, .slice none 0 0, .bool false] 55
    simpa using h
  have HC := hidOf (toRing_any x.M x.v W0 (hI.keep b0) hm)
  clear hI
  go_enter Tryz.func17, Tryz.ntmps17
  go_wp2_with fail
  rw [← hW0]
  clear hW0
  refine (HC.out).mono ?_
  rintro e w1 ⟨M', rfl, ho, hle, hcap, hb1⟩
  have hB := bl_trans b0 hb1
  have hge : w.heap.size + 3 ≤ W0.heap.size := by omega
  generalize hG : W0.heap.size = G at *
  have x1 := X1.keep (w' := w1) (by rw [hG]; exact hb1)
  have x2 := X2.keep (w' := w1) (by rw [hG]; exact hb1)
  generalize hN1 : w.heap.size + 1 = N1 at x1 x2 ⊢
  generalize hN2 : N1 + 1 = N2 at x2 ⊢
  have n12 : N1 ≠ N2 := by omega
  have l1 : w.heap.size ≤ N1 := by omega
  have l2 : w.heap.size ≤ N2 := by omega
  have g1 : N1 < G := by omega
  have g2 : N2 < G := by omega
  have HN := hidOf (And.intro hN1 hN2)
  clear hN1 hN2 X1 X2 b0 s0 hG HC
  have y2 : BoxL N2 [.string x.nm, .int .i64 x.v.cp, .int .i64 x.v.se, .slice M'.ia M'.i M'.ic, .int .i64 x.v.nx, .slice M'.sa M'.s M'.sc, .slice M'.la M'.l M'.lc, .slice M'.ga M'.g M'.gc, .bool x.v.cl] (((((((((w1).setCell ⟨N2, 1, none⟩ (.int .i64 x.v.cp)).setCell ⟨N2, 2, none⟩ (.int .i64 x.v.se)).setCell ⟨N2, 3, none⟩ (.slice M'.ia M'.i M'.ic)).setCell ⟨N2, 4, none⟩ (.int .i64 x.v.nx)).setCell ⟨N2, 5, none⟩ (.slice M'.sa M'.s M'.sc)).setCell ⟨N2, 6, none⟩ (.slice M'.la M'.l M'.lc)).setCell ⟨N2, 7, none⟩ (.slice M'.ga M'.g M'.gc)).setCell ⟨N2, 8, none⟩ (.bool x.v.cl)) := by
    have h := x2
    exact ((((((((h.set 1 (by simp) (.int .i64 x.v.cp)).set 2 (by simp) (.int .i64 x.v.se)).set 3 (by simp) (.slice M'.ia M'.i M'.ic)).set 4 (by simp) (.int .i64 x.v.nx)).set 5 (by simp) (.slice M'.sa M'.s M'.sc)).set 6 (by simp) (.slice M'.la M'.l M'.lc)).set 7 (by simp) (.slice M'.ga M'.g M'.gc)).set 8 (by simp) (.bool x.v.cl))
  have y1 : BoxL N1 [.string ⟨#[]⟩, .int .i64 0, .int .i64 0, .slice none 0 0, .int .i64 0, .slice none 0 0, .slice none 0 0, .slice none 0 0, .bool false] (((((((((w1).setCell ⟨N2, 1, none⟩ (.int .i64 x.v.cp)).setCell ⟨N2, 2, none⟩ (.int .i64 x.v.se)).setCell ⟨N2, 3, none⟩ (.slice M'.ia M'.i M'.ic)).setCell ⟨N2, 4, none⟩ (.int .i64 x.v.nx)).setCell ⟨N2, 5, none⟩ (.slice M'.sa M'.s M'.sc)).setCell ⟨N2, 6, none⟩ (.slice M'.la M'.l M'.lc)).setCell ⟨N2, 7, none⟩ (.slice M'.ga M'.g M'.gc)).setCell ⟨N2, 8, none⟩ (.bool x.v.cl)) := ((((((((x1.far N2 1 n12 (.int .i64 x.v.cp)).far N2 2 n12 (.int .i64 x.v.se)).far N2 3 n12 (.slice M'.ia M'.i M'.ic)).far N2 4 n12 (.int .i64 x.v.nx)).far N2 5 n12 (.slice M'.sa M'.s M'.sc)).far N2 6 n12 (.slice M'.la M'.l M'.lc)).far N2 7 n12 (.slice M'.ga M'.g M'.gc)).far N2 8 n12 (.bool x.v.cl))
  obtain ⟨U, hU⟩ : ∃ U, ((((((((w1).setCell ⟨N2, 1, none⟩ (.int .i64 x.v.cp)).setCell ⟨N2, 2, none⟩ (.int .i64 x.v.se)).setCell ⟨N2, 3, none⟩ (.slice M'.ia M'.i M'.ic)).setCell ⟨N2, 4, none⟩ (.int .i64 x.v.nx)).setCell ⟨N2, 5, none⟩ (.slice M'.sa M'.s M'.sc)).setCell ⟨N2, 6, none⟩ (.slice M'.la M'.l M'.lc)).setCell ⟨N2, 7, none⟩ (.slice M'.ga M'.g M'.gc)).setCell ⟨N2, 8, none⟩ (.bool x.v.cl) = U := ⟨_, rfl⟩
  have BU : Below w.heap.size w U := by rw [← hU]; exact bl_setB (bl_setB (bl_setB (bl_setB (bl_setB (bl_setB (bl_setB (bl_setB (hB) N2 1 l2 (.int .i64 x.v.cp)) N2 2 l2 (.int .i64 x.v.se)) N2 3 l2 (.slice M'.ia M'.i M'.ic)) N2 4 l2 (.int .i64 x.v.nx)) N2 5 l2 (.slice M'.sa M'.s M'.sc)) N2 6 l2 (.slice M'.la M'.l M'.lc)) N2 7 l2 (.slice M'.ga M'.g M'.gc)) N2 8 l2 (.bool x.v.cl)
  have OU : ROwn G U M' x.v := by rw [← hU]; exact ((((((((ho).far N2 1 g2 (.int .i64 x.v.cp)).far N2 2 g2 (.int .i64 x.v.se)).far N2 3 g2 (.slice M'.ia M'.i M'.ic)).far N2 4 g2 (.int .i64 x.v.nx)).far N2 5 g2 (.slice M'.sa M'.s M'.sc)).far N2 6 g2 (.slice M'.la M'.l M'.lc)).far N2 7 g2 (.slice M'.ga M'.g M'.gc)).far N2 8 g2 (.bool x.v.cl)
  rw [hU] at y1 y2
  have z1 : BoxL N1 [.string x.nm, .int .i64 x.v.cp, .int .i64 x.v.se, .slice M'.ia M'.i M'.ic, .int .i64 x.v.nx, .slice M'.sa M'.s M'.sc, .slice M'.la M'.l M'.lc, .slice M'.ga M'.g M'.gc, .bool x.v.cl] ((((((((((U).setCell ⟨N1, 0, none⟩ (.string x.nm)).setCell ⟨N1, 1, none⟩ (.int .i64 x.v.cp)).setCell ⟨N1, 2, none⟩ (.int .i64 x.v.se)).setCell ⟨N1, 3, none⟩ (.slice M'.ia M'.i M'.ic)).setCell ⟨N1, 4, none⟩ (.int .i64 x.v.nx)).setCell ⟨N1, 5, none⟩ (.slice M'.sa M'.s M'.sc)).setCell ⟨N1, 6, none⟩ (.slice M'.la M'.l M'.lc)).setCell ⟨N1, 7, none⟩ (.slice M'.ga M'.g M'.gc)).setCell ⟨N1, 8, none⟩ (.bool x.v.cl)) := (((((((((y1).set 0 (by simp) (.string x.nm)).set 1 (by simp) (.int .i64 x.v.cp)).set 2 (by simp) (.int .i64 x.v.se)).set 3 (by simp) (.slice M'.ia M'.i M'.ic)).set 4 (by simp) (.int .i64 x.v.nx)).set 5 (by simp) (.slice M'.sa M'.s M'.sc)).set 6 (by simp) (.slice M'.la M'.l M'.lc)).set 7 (by simp) (.slice M'.ga M'.g M'.gc)).set 8 (by simp) (.bool x.v.cl)
  have BZ := bl_setB (bl_setB (bl_setB (bl_setB (bl_setB (bl_setB (bl_setB (bl_setB (bl_setB (BU) N1 0 l1 (.string x.nm)) N1 1 l1 (.int .i64 x.v.cp)) N1 2 l1 (.int .i64 x.v.se)) N1 3 l1 (.slice M'.ia M'.i M'.ic)) N1 4 l1 (.int .i64 x.v.nx)) N1 5 l1 (.slice M'.sa M'.s M'.sc)) N1 6 l1 (.slice M'.la M'.l M'.lc)) N1 7 l1 (.slice M'.ga M'.g M'.gc)) N1 8 l1 (.bool x.v.cl)
  have OZ := (((((((((OU).far N1 0 g1 (.string x.nm)).far N1 1 g1 (.int .i64 x.v.cp)).far N1 2 g1 (.int .i64 x.v.se)).far N1 3 g1 (.slice M'.ia M'.i M'.ic)).far N1 4 g1 (.int .i64 x.v.nx)).far N1 5 g1 (.slice M'.sa M'.s M'.sc)).far N1 6 g1 (.slice M'.la M'.l M'.lc)).far N1 7 g1 (.slice M'.ga M'.g M'.gc)).far N1 8 g1 (.bool x.v.cl)
  obtain ⟨a0, a1, a2, a3, a4, a5, a6, a7, a8⟩ := x2.c9T
  have af := x2.fr
  obtain ⟨d0, d1, d2, d3, d4, d5, d6, d7, d8⟩ := y2.c9T
  obtain ⟨e0, e1, e2, e3, e4, e5, e6, e7, e8⟩ := y1.c9T
  have ef := y1.fr
  obtain ⟨t0, t1, t2, t3, t4, t5, t6, t7, t8⟩ := z1.c9T
  have HF := hidOf (And.intro OZ BZ)
  have HGe := hidOf hge
  have HLe := hidOf hle
  have HCp := hidOf hcap
  clear OZ BZ OU BU z1 y1 y2 x1 x2 ho hB hb1 hge hle hcap
  go_upto_region 4 with fail
  try rw [hU]
  clear hU a0 a1 a2 a3 a4 a5 a6 a7 a8 af
  go_wp2
  exact bodyPost_ret (v := .agg #[.string x.nm, .int .i64 x.v.cp, .int .i64 x.v.se, .slice M'.ia M'.i M'.ic, .int .i64 x.v.nx, .slice M'.sa M'.s M'.sc, .slice M'.la M'.l M'.lc, .slice M'.ga M'.g M'.gc, .bool x.v.cl]) (by simp [results, Tryz.results17, go_sem, t0, t1, t2, t3, t4, t5, t6, t7, t8]) rfl ⟨M', rfl, HF.out.1.mono (by have := HGe.out; omega), HLe.out, HCp.out, HF.out.2⟩
end Go.Proofs.YtffpecdjfcgadaaGreatDoor
