/-
  Walks of the specification's draws: a term, a filter.
-/
import Derived.Test.YtedaleonmcllkaaE4
import Derived.Test.YtedaleonmcllkaaFO
namespace Go.Proofs.Ytedaleonmcllkaa
open Go.RowKit Pl Il Dr

set_option maxHeartbeats 4000000 in
theorem l8Leaf_any (a : Option Addr) (len cap : Nat) (c : Nat) (w : World) (hC : Cur c a len cap w) :
    Calls Try.prog 56 #[.pointer (some ⟨c, 0, none⟩)] w fun e w' => ∃ t : Tm, e = .returned (.agg #[.int .i64 t.1, .int .i64 t.2.1, .string t.2.2]) ∧ t.2.2.size ≤ 40 ∧ Drawn c a len cap w w' := by
  have hlt := hC.lt
  have hne : w.heap.size ≠ c := by omega
  have HC := hidOf hC
  clear hC
  go_enter Try.func56, Try.ntmps56
  go_wp2_with fail
  refine (below_any a len cap c _ _ (HC.out.alloc _) (by omega) (by omega)).mono ?_
  rintro e w1 ⟨x, rfl, x0, x1, hd1⟩
  have b1 := (Box3.new w (.int .i64 0) (.int .i64 0) (.string ⟨#[]⟩) 57).drawn hd1 hne
  have hD1 : Drawn c a len cap w w1 := ((Drawn.start HC.out).alloc _).trans hd1
  clear hd1
  by_cases h0 : x = 0
  · subst h0
    have HD := hidOf (((hD1.store HC.out ⟨w.heap.size, 0, none⟩ (Nat.le_refl _) (.int .i64 1)).store HC.out ⟨w.heap.size, 1, none⟩ (Nat.le_refl _) (.int .i64 0)).store HC.out ⟨w.heap.size, 2, none⟩ (Nat.le_refl _) (.string ⟨#[]⟩))
    obtain ⟨_, p0, p1, p2, pf⟩ := id b1
    clear hD1 b1
    go_wp2
    exact bodyPost_ret (v := .agg #[.int .i64 1, .int .i64 0, .string ⟨#[]⟩]) (by simp [results, Try.results56, go_sem, p0, p1, p2]) rfl ⟨(1, 0, ⟨#[]⟩), rfl, (by exact (by decide : (0 : Nat) ≤ 40)), HD.out⟩
  by_cases h1 : x = 1
  · subst h1
    have HD := hidOf (((hD1.store HC.out ⟨w.heap.size, 0, none⟩ (Nat.le_refl _) (.int .i64 2)).store HC.out ⟨w.heap.size, 1, none⟩ (Nat.le_refl _) (.int .i64 0)).store HC.out ⟨w.heap.size, 2, none⟩ (Nat.le_refl _) (.string ⟨#[]⟩))
    obtain ⟨_, p0, p1, p2, pf⟩ := id b1
    clear hD1 b1
    go_wp2
    exact bodyPost_ret (v := .agg #[.int .i64 2, .int .i64 0, .string ⟨#[]⟩]) (by simp [results, Try.results56, go_sem, p0, p1, p2]) rfl ⟨(2, 0, ⟨#[]⟩), rfl, (by exact (by decide : (0 : Nat) ≤ 40)), HD.out⟩
  by_cases h2 : x = 2
  · subst h2
    have HD := hidOf (((hD1.store HC.out ⟨w.heap.size, 0, none⟩ (Nat.le_refl _) (.int .i64 3)).store HC.out ⟨w.heap.size, 1, none⟩ (Nat.le_refl _) (.int .i64 0)).store HC.out ⟨w.heap.size, 2, none⟩ (Nat.le_refl _) (.string ⟨#[]⟩))
    obtain ⟨_, p0, p1, p2, pf⟩ := id b1
    clear hD1 b1
    go_wp2
    exact bodyPost_ret (v := .agg #[.int .i64 3, .int .i64 0, .string ⟨#[]⟩]) (by simp [results, Try.results56, go_sem, p0, p1, p2]) rfl ⟨(3, 0, ⟨#[]⟩), rfl, (by exact (by decide : (0 : Nat) ≤ 40)), HD.out⟩
  by_cases h3 : x = 3
  · subst h3
    go_wp2_with fail
    refine (below_any a len cap c _ _ hD1.cur (by omega) (by omega)).mono ?_
    rintro e w2 ⟨y, rfl, y0, y1, hd2⟩
    have b2 := b1.drawn hd2 hne
    have hD2 := hD1.trans hd2
    have HD := hidOf (((hD2.store HC.out ⟨w.heap.size, 0, none⟩ (Nat.le_refl _) (.int .i64 4)).store HC.out ⟨w.heap.size, 1, none⟩ (Nat.le_refl _) (.int .i64 (y - 6))).store HC.out ⟨w.heap.size, 2, none⟩ (Nat.le_refl _) (.string ⟨#[]⟩))
    obtain ⟨_, p0, p1, p2, pf⟩ := id b2
    clear hD1 b1 hd2 hD2 b2
    go_wp2
    exact bodyPost_ret (v := .agg #[.int .i64 4, .int .i64 (y - 6), .string ⟨#[]⟩]) (by simp [results, Try.results56, go_sem, p0, p1, p2]) rfl ⟨(4, (y - 6), ⟨#[]⟩), rfl, (by exact (by decide : (0 : Nat) ≤ 40)), HD.out⟩
  by_cases h4 : x = 4
  · subst h4
    go_wp2_with fail
    refine (below_any a len cap c _ _ hD1.cur (by omega) (by omega)).mono ?_
    rintro e w2 ⟨y, rfl, y0, y1, hd2⟩
    have b2 := b1.drawn hd2 hne
    have hD2 := hD1.trans hd2
    have HD := hidOf (((hD2.store HC.out ⟨w.heap.size, 0, none⟩ (Nat.le_refl _) (.int .i64 5)).store HC.out ⟨w.heap.size, 1, none⟩ (Nat.le_refl _) (.int .i64 (1 + y))).store HC.out ⟨w.heap.size, 2, none⟩ (Nat.le_refl _) (.string ⟨#[]⟩))
    obtain ⟨_, p0, p1, p2, pf⟩ := id b2
    clear hD1 b1 hd2 hD2 b2
    go_wp2
    exact bodyPost_ret (v := .agg #[.int .i64 5, .int .i64 (1 + y), .string ⟨#[]⟩]) (by simp [results, Try.results56, go_sem, p0, p1, p2]) rfl ⟨(5, (1 + y), ⟨#[]⟩), rfl, (by exact (by decide : (0 : Nat) ≤ 40)), HD.out⟩
  have e0 : (x == 0) = false := by simp [h0]
  have e1 : (x == 1) = false := by simp [h1]
  have e2 : (x == 2) = false := by simp [h2]
  have e3 : (x == 3) = false := by simp [h3]
  have e4 : (x == 4) = false := by simp [h4]
  by_cases h5 : x = 5
  · subst h5
    go_wp2_with fail
    refine (pick_any a len cap c w1.heap.size 3 _ (hD1.cur.alloc _) (by simp) (by have := hD1.cur.lt; omega) (by omega) (by omega) (row_strs _ _ _ _ (by decide))).mono ?_
    rintro e w2 ⟨t, rfl, ht, hd2⟩
    have b2 := (b1.alloc _).drawn hd2 hne
    have hD2 := (hD1.alloc _).trans hd2
    have HD := hidOf (((hD2.store HC.out ⟨w.heap.size, 0, none⟩ (Nat.le_refl _) (.int .i64 6)).store HC.out ⟨w.heap.size, 1, none⟩ (Nat.le_refl _) (.int .i64 0)).store HC.out ⟨w.heap.size, 2, none⟩ (Nat.le_refl _) (.string t))
    obtain ⟨_, p0, p1, p2, pf⟩ := id b2
    clear hD1 b1 hd2 hD2 b2
    go_wp2
    exact bodyPost_ret (v := .agg #[.int .i64 6, .int .i64 0, .string t]) (by simp [results, Try.results56, go_sem, p0, p1, p2]) rfl ⟨(6, 0, t), rfl, ht, HD.out⟩
  · have e5 : (x == 5) = false := by simp [h5]
    go_wp2_with fail
    refine (pick_any a len cap c w1.heap.size 4 _ (hD1.cur.alloc _) (by simp) (by have := hD1.cur.lt; omega) (by omega) (by omega) (row_strs _ _ _ _ (by decide))).mono ?_
    rintro e w2 ⟨t, rfl, ht, hd2⟩
    have b2 := (b1.alloc _).drawn hd2 hne
    have hD2 := (hD1.alloc _).trans hd2
    have HD := hidOf (((hD2.store HC.out ⟨w.heap.size, 0, none⟩ (Nat.le_refl _) (.int .i64 7)).store HC.out ⟨w.heap.size, 1, none⟩ (Nat.le_refl _) (.int .i64 0)).store HC.out ⟨w.heap.size, 2, none⟩ (Nat.le_refl _) (.string t))
    obtain ⟨_, p0, p1, p2, pf⟩ := id b2
    clear hD1 b1 hd2 hD2 b2
    go_wp2
    exact bodyPost_ret (v := .agg #[.int .i64 7, .int .i64 0, .string t]) (by simp [results, Try.results56, go_sem, p0, p1, p2]) rfl ⟨(7, 0, t), rfl, ht, HD.out⟩
end Go.Proofs.Ytedaleonmcllkaa
