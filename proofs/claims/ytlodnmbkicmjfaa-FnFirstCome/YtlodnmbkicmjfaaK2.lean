/-
  Walks of the specification's draws: any line, who joins it.
-/
import Derived.Test.YtlodnmbkicmjfaaK1
namespace Go.Proofs.Ytlodnmbkicmjfaa
open Go.RowKit Pl Dr Il

/-- A line that is drawn, and the cursor behind it. -/
structure Lined (c : Nat) (a : Option Addr) (len cap : Nat) (w : World) (g m cp : Nat) (w' : World) : Prop where
  ex : ∃ xs, Owns w.heap.size w' g m cp xs ∧ wfL xs
  le : m ≤ 250
  dr : Drawn c a len cap w w'

theorem wfs : (Lit.int .i64 (-1)).wf = true ∧ (Lit.int .i64 64).wf = true ∧ (Lit.int .i64 3).wf = true := by decide

/-- The last part of l2Some: one more, or none. -/
theorem some_row (w : World) : ∀ i, i < 4 → ∃ v : Int, (w.alloc (.cells #[.int .i64 (-1), .int .i64 64, .int .i64 3, .int .i64 3] 3)).cell? ⟨w.heap.size, i, none⟩ = some (.int .i64 v) ∧ (Lit.int .i64 v).wf = true := by
  intro i hi
  rw [World.cell?_alloc_new]
  match i, hi with
  | 0, _ => exact ⟨_, rfl, wfs.1⟩
  | 1, _ => exact ⟨_, rfl, wfs.2.1⟩
  | 2, _ => exact ⟨_, rfl, wfs.2.2⟩
  | 3, _ => exact ⟨_, rfl, wfs.2.2⟩
theorem who_row (w : World) : ∀ i, i < 2 → ∃ v : Int, (w.alloc (.cells #[.int .i64 (-1), .int .i64 64] 3)).cell? ⟨w.heap.size, i, none⟩ = some (.int .i64 v) ∧ (Lit.int .i64 v).wf = true := by
  intro i hi
  rw [World.cell?_alloc_new]
  match i, hi with
  | 0, _ => exact ⟨_, rfl, wfs.1⟩
  | 1, _ => exact ⟨_, rfl, wfs.2.1⟩

theorem l2Some_any (a : Option Addr) (len cap : Nat) (c : Nat) (w : World) (hC : Cur c a len cap w) :
    Calls Try.prog 28 #[.pointer (some ⟨c, 0, none⟩)] w fun e w' => ∃ (g m cp : Nat), e = .returned (.slice (some ⟨g, 0, none⟩) m cp) ∧ Lined c a len cap w g m cp w' := by
  have hlt := hC.lt
  go_enter Try.func28, Try.ntmps28
  go_wp2_with fail
  refine (l2Line_any a len cap c 6 _ hC (by omega) (by omega)).mono ?_
  rintro e w1 ⟨g, m, cp, xs, rfl, ho1, hw1, hm1, hd1⟩
  go_wp2_with fail
  refine (once_any a len cap c 10 _ hd1.cur (by omega) (by omega)).mono ?_
  rintro e w2 ⟨y, rfl, hd2⟩
  have hdA := hd1.trans hd2
  have hoA := owns_ex ho1 hd2.ex hlt
  clear hd1 hd2 ho1
  cases y
  · go_wp2_with fail
    refine (once_any a len cap c 8 _ hdA.cur (by omega) (by omega)).mono ?_
    rintro e w3 ⟨z, rfl, hd3⟩
    have hdB := hdA.trans hd3
    have hoB := owns_ex hoA hd3.ex hlt
    clear hd3 hdA hoA
    cases z
    · have HL := hidOf (Lined.mk ⟨xs, hoB, hw1⟩ (by omega) hdB)
      clear hoB hdB
      go_wp2
      go_ret
      exact ⟨_, _, _, rfl, HL.out⟩
    · go_wp2_with fail
      refine (pickP_any (fun v => (Lit.int .i64 v).wf = true) a len cap c w3.heap.size 4 _ (hdB.cur.alloc _) (by simp) (by have := hdB.cur.lt; omega) (by omega) (by omega) (some_row w3)).mono ?_
      rintro e w4 ⟨x, rfl, hx, hd4⟩
      have hdC := (hdB.alloc _).trans hd4
      have hoC := owns_ex (hoB.alloc _) hd4.ex hlt
      obtain ⟨g', c', w', hr, ho', hd'⟩ := append_draw x hC hdC hoC (by omega)
      have Hr := hidOf hr
      have HL := hidOf (Lined.mk ⟨_, ho', wf_snoc hw1 hx⟩ (by omega) hd')
      clear hr ho' hd' hdC hoC hdB hoB hd4
      go_wp2_with (first | (at_builtin; refine wpList_append_run rfl _ _ 24 rfl _ _ _ rfl rfl Hr.out ?_) | go_in)
      go_ret
      exact ⟨_, _, _, rfl, HL.out⟩
  · have hdS := hdA.alloc (.cells #[] 3)
    have hoS : Owns w.heap.size (w2.alloc (.cells #[] 3)) w2.heap.size 0 0 [] := owns_mono (owns_empty w2) hdA.ex.size
    clear hdA hoA
    go_wp2
    go_loopw [3, 4] (fun v i wr => ∃ (k g cp : Nat) (xs : List Int), k ≤ 32 ∧ i = .int .i64 k ∧ v = .slice (some ⟨g, 0, none⟩) k cp ∧ wfL xs ∧ Owns w.heap.size wr g k cp xs ∧ Drawn c a len cap w wr) (fun _ i _ => 32 - (intOf i).toNat)
    case atStart => exact ⟨0, _, 0, [], Nat.zero_le _, rfl, rfl, wf_nil, hoS, hdS⟩
    case round =>
      obtain ⟨k, g, cp, xs, hk, rfl, rfl, hw, hor, hdr⟩ := hrel
      clear hdS hoS
      go_wp2_with fail
      refine (below_any a len cap c 2 _ hdr.cur (by omega) (by omega)).mono ?_
      rintro e w3 ⟨x, rfl, x0, x1, hd3⟩
      have hdB := hdr.trans hd3
      have hoB := owns_ex hor hd3.ex hlt
      clear hd3 hdr hor
      by_cases hkn : (k : Int) < 32 - x
      · obtain ⟨g', c', w', hr, ho', hd'⟩ := append_draw (k : Int) hC hdB hoB (by omega)
        have Hr := hidOf hr
        have Ho := hidOf ho'
        clear hr ho' hdB hoB
        go_wp2_with (first | (at_builtin; refine wpList_append_run rfl _ _ 24 rfl _ _ _ rfl rfl Hr.out ?_) | go_in)
        go_roundw
        case rel => exact ⟨k + 1, g', c', xs ++ [(k : Int)], by omega, by go_num, rfl, wf_snoc hw (WalkArith.wf_i64 (by omega)), Ho.out, hd'⟩
        case measure => simp [intOf]; omega
      · go_wp2_with fail
        refine (once_any a len cap c 8 _ hdB.cur (by omega) (by omega)).mono ?_
        rintro e w4 ⟨z, rfl, hd4⟩
        have hdC := hdB.trans hd4
        have hoC := owns_ex hoB hd4.ex hlt
        clear hd4 hdB hoB
        cases z
        · have HL := hidOf (Lined.mk ⟨xs, hoC, hw⟩ (by omega) hdC)
          clear hoC hdC
          go_wp2
          go_ret
          exact ⟨_, _, _, rfl, HL.out⟩
        · go_wp2_with fail
          refine (pickP_any (fun v => (Lit.int .i64 v).wf = true) a len cap c w4.heap.size 4 _ (hdC.cur.alloc _) (by simp) (by have := hdC.cur.lt; omega) (by omega) (by omega) (some_row w4)).mono ?_
          rintro e w5 ⟨x', rfl, hx, hd5⟩
          have hdD := (hdC.alloc _).trans hd5
          have hoD := owns_ex (hoC.alloc _) hd5.ex hlt
          obtain ⟨g', c', w', hr, ho', hd'⟩ := append_draw x' hC hdD hoD (by omega)
          have Hr := hidOf hr
          have HL := hidOf (Lined.mk ⟨_, ho', wf_snoc hw hx⟩ (by omega) hd')
          clear hr ho' hd' hdD hoD hdC hoC hd5
          go_wp2_with (first | (at_builtin; refine wpList_append_run rfl _ _ 24 rfl _ _ _ rfl rfl Hr.out ?_) | go_in)
          go_ret
          exact ⟨_, _, _, rfl, HL.out⟩

theorem l2Who_any (a : Option Addr) (len cap : Nat) (c : Nat) (g m cp : Nat) (w0 w : World) (hL : Lined c a len cap w0 g m cp w) (hC : Cur c a len cap w0) :
    Calls Try.prog 29 #[.pointer (some ⟨c, 0, none⟩), .slice (some ⟨g, 0, none⟩) m cp] w fun e w' => ∃ x : Int, e = .returned (.int .i64 x) ∧ (Lit.int .i64 x).wf = true ∧ Drawn c a len cap w w' := by
  obtain ⟨⟨xs, ho, hw⟩, hm, hd⟩ := hL
  have hlt := hC.lt
  have hC1 := hd.cur
  have hgc : g ≠ c := by have := (owns_parts ho).2.1; omega
  have hI := (owns_parts ho).2.2.2.2.2.ints
  have hgl := (owns_parts ho).2.2.1
  have HI := hidOf hI
  clear hd ho hI
  by_cases h0 : m = 0
  · have hm0 : ¬ 0 < (m : Int) := by omega
    go_enter Try.func29, Try.ntmps29
    go_wp2_with fail
    refine (once_any a len cap c 12 _ hC1 (by omega) (by omega)).mono ?_
    rintro e w2 ⟨z, rfl, hd2⟩
    cases z
    · go_wp2_with fail
      refine (below_any a len cap c 64 _ hd2.cur (by omega) (by omega)).mono ?_
      rintro e w3 ⟨x, rfl, x0, x1, hd3⟩
      go_wp2
      go_ret
      exact ⟨_, rfl, WalkArith.wf_i64 (by omega), hd2.trans hd3⟩
    · go_wp2_with fail
      refine (pickP_any (fun v => (Lit.int .i64 v).wf = true) a len cap c w2.heap.size 2 _ (hd2.cur.alloc _) (by simp) (by have := hd2.cur.lt; omega) (by omega) (by omega) (who_row w2)).mono ?_
      rintro e w3 ⟨x, rfl, hx, hd3⟩
      go_wp2
      go_ret
      exact ⟨_, rfl, hx, (hd2.alloc _).trans hd3⟩
  · have hm0 : 0 < (m : Int) := by omega
    go_enter Try.func29, Try.ntmps29
    go_wp2_with fail
    refine (once_any a len cap c 2 _ hC1 (by omega) (by omega)).mono ?_
    rintro e w1 ⟨y, rfl, hd1⟩
    cases y
    · go_wp2_with fail
      refine (once_any a len cap c 12 _ hd1.cur (by omega) (by omega)).mono ?_
      rintro e w2 ⟨z, rfl, hd2'⟩
      have hd2 := hd1.trans hd2'
      clear hd1 hd2'
      cases z
      · go_wp2_with fail
        refine (below_any a len cap c 64 _ hd2.cur (by omega) (by omega)).mono ?_
        rintro e w3 ⟨x, rfl, x0, x1, hd3⟩
        go_wp2
        go_ret
        exact ⟨_, rfl, WalkArith.wf_i64 (by omega), hd2.trans hd3⟩
      · go_wp2_with fail
        refine (pickP_any (fun v => (Lit.int .i64 v).wf = true) a len cap c w2.heap.size 2 _ (hd2.cur.alloc _) (by simp) (by have := hd2.cur.lt; omega) (by omega) (by omega) (who_row w2)).mono ?_
        rintro e w3 ⟨x, rfl, hx, hd3⟩
        go_wp2
        go_ret
        exact ⟨_, rfl, hx, (hd2.alloc _).trans hd3⟩
    · go_wp2_with fail
      refine (below_any a len cap c (m : Int) _ hd1.cur (by omega) (by omega)).mono ?_
      rintro e w2 ⟨x, rfl, x0, x1, hd2⟩
      obtain ⟨k, rfl⟩ := Int.eq_ofNat_of_zero_le x0
      have hdB := hd1.trans hd2
      have hk : k < m := by omega
      obtain ⟨hl, h0' | ⟨b, off, e, hb, hc⟩⟩ := HI.out
      · omega
      · cases e
        have hcc := hc k hk
        rw [Nat.zero_add] at hcc
        have hwk := wf_at hw (k := k) (by omega)
        generalize xs.getD k 0 = y at hcc hwk
        have hv : w2.cell? ⟨g, k, none⟩ = some (.int .i64 y) := by rw [hdB.ex.cell hgl hgc]; exact hcc
        clear hc hcc HI hd1 hd2
        go_wp2
        go_ret
        exact ⟨_, rfl, hwk, hdB⟩
end Go.Proofs.Ytlodnmbkicmjfaa
