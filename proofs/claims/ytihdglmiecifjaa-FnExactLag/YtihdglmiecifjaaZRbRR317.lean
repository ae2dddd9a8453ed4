/-
  The program's RingOk.
  Rings: Balance, of both sides.
-/
import Derived.Test.YtihdglmiecifjaaZRbRR316
import Derived.Test.YtihdglmiecifjaaZRbRR315
import Derived.Test.YtihdglmiecifjaaZRbRR311
import Derived.OwnWalk
namespace Go.Proofs.Ytihdglmiecifjaa
open Go.RowKit Pl Il

set_option maxRecDepth 100000 in
set_option maxHeartbeats 8000000 in
theorem implRingOk_any : ImplRingOk (okR restR) := by
  intro M v w hI hm _ hw
  rw [← okI_eq]
  obtain ⟨W0, hW0⟩ : ∃ W, W = w.alloc (.cells #[.int .i64 v.cp, .int .i64 v.se, .slice M.ia M.i M.ic, .int .i64 v.nx, .slice M.sa M.s M.sc, .slice M.la M.l M.lc, .slice M.ga M.g M.gc, .bool v.cl] 32) := ⟨_, rfl⟩
  have hX : RHold w M v W0 := by
    have b0 : Below w.heap.size w W0 := by rw [hW0]; exact bl_alloc (Below.refl _ _) _
    exact ⟨by rw [hW0]; exact BoxL.new w (rC M v) _, hI.keep b0, b0⟩
  have hm2 := hm.mono (k' := 2097152) (by omega)
  obtain ⟨q, hq⟩ : ∃ q, okI v = q := ⟨_, rfl⟩
  rw [hq]
  have HQ := hidOf (show (headI v && (subsI v && (itemsI v && waitI v))) = q by rw [← hq]; rfl)
  have p0 := hX.box.cs 0 (by simp)
  have p1 := hX.box.cs 1 (by simp)
  have p3 := hX.box.cs 3 (by simp)
  simp at p0 p1 p3
  have HX := hidOf hX
  have HM := hidOf hm
  have HM2 := hidOf hm2
  have HW := hidOf hw
  clear hI hm hX hq hw hm2
  go_enter Try.func9, Try.ntmps9
  go_upto_region 1 with fail
  rw [← hW0]
  clear hW0
  by_cases h0 : v.cp < 1
  · have HV := hidOf (show q = false by rw [← HQ.out, show headI v = false from decide_eq_false (by omega)]; rfl)
    go_wp2
    go_ret
    rw [HV.out]
    exact ⟨rfl, HX.out.below⟩
  by_cases h1 : 16 < v.cp
  · have HV := hidOf (show q = false by rw [← HQ.out, show headI v = false from decide_eq_false (by omega)]; rfl)
    go_wp2
    go_ret
    rw [HV.out]
    exact ⟨rfl, HX.out.below⟩
  by_cases h2 : v.se < 0
  · have HV := hidOf (show q = false by rw [← HQ.out, show headI v = false from decide_eq_false (by omega)]; rfl)
    go_wp2
    go_ret
    rw [HV.out]
    exact ⟨rfl, HX.out.below⟩
  by_cases h3 : 1000000000 < v.se
  · have HV := hidOf (show q = false by rw [← HQ.out, show headI v = false from decide_eq_false (by omega)]; rfl)
    go_wp2
    go_ret
    rw [HV.out]
    exact ⟨rfl, HX.out.below⟩
  have hC : 1 ≤ v.cp ∧ v.cp ≤ 16 := by omega
  have hS : 0 ≤ v.se ∧ v.se ≤ 1000000000 := by omega
  have HCC := hidOf hC
  have HSS := hidOf hS
  clear hC hS
  cases hn : cnt v.nx
  · have HV := hidOf (show q = false by
      rw [← HQ.out, show headI v = false from decide_eq_false (by simp only [cnt, Bool.and_eq_false_iff, decide_eq_false_iff_not] at hn; omega)]
      rfl)
    go_wp2_with (go_at_call 28; refine (isCount_any _ _).mono ?_; rintro e w' ⟨rfl, rfl⟩; rw [hn])
    go_ret
    rw [HV.out]
    exact ⟨rfl, HX.out.below⟩
  have HNx := hidOf (show 0 ≤ v.nx ∧ v.nx ≤ 1000000000 by simpa [cnt] using hn)
  have HQ2 := hidOf (show (subsI v && (itemsI v && waitI v)) = q by
    have h1 := HCC.out
    have h2 := HSS.out
    have h3 := HNx.out
    rw [← HQ.out, show headI v = true from decide_eq_true (by omega)]
    rfl)
  have H1 := hidOf (fun (u : World) (hu : RHold w M v u) => subsOk_any M v u hu.rin HM2.out HSS.out HNx.out)
  have H2 := hidOf (fun (u : World) (hu : RHold w M v u) => itemsOk_any M v u hu.rin HM2.out HSS.out HCC.out)
  have H3 := hidOf (fun (u : World) (hu : RHold w M v u) => ringWaitersOk_any M v u hu.rin HM.out HW.out)
  go_upto_region 3 with (go_at_call 28; refine (isCount_any _ _).mono ?_; rintro e w' ⟨rfl, rfl⟩; rw [hn])
  have hX := HX.out
  have c2 := hX.box.cs 2 (by simp)
  have c4 := hX.box.cs 4 (by simp)
  have c5 := hX.box.cs 5 (by simp)
  have c6 := hX.box.cs 6 (by simp)
  have c7 := hX.box.cs 7 (by simp)
  simp at c2 c4 c5 c6 c7
  clear hX hn HQ HNx HSS HCC h0 h1 h2 h3
  go_wp2_with fail
  refine (H1.out _ HX.out).mono ?_
  rintro e w5 ⟨rfl, hb5⟩
  have hX := HX.out.keep hb5
  clear hb5 HX p0 p1 p3 c2 c4 c5 c6 c7
  obtain ⟨s, hs⟩ : ∃ s, subsI v = s := ⟨_, rfl⟩
  rw [hs]
  rw [hs] at HQ2
  clear hs
  cases s
  · have HX := hidOf hX
    clear hX
    go_wp2
    go_ret
    rw [← HQ2.out]
    exact ⟨rfl, HX.out.below⟩
  have p0 := hX.box.cs 0 (by simp)
  have p1 := hX.box.cs 1 (by simp)
  have p2 := hX.box.cs 2 (by simp)
  have p3 := hX.box.cs 3 (by simp)
  have p4 := hX.box.cs 4 (by simp)
  have p5 := hX.box.cs 5 (by simp)
  have p6 := hX.box.cs 6 (by simp)
  have p7 := hX.box.cs 7 (by simp)
  simp at p0 p1 p2 p3 p4 p5 p6 p7
  have HX := hidOf hX
  clear hX
  go_wp2_with fail
  refine (H2.out _ HX.out).mono ?_
  rintro e w6 ⟨rfl, hb6⟩
  have hX := HX.out.keep hb6
  clear hb6 HX p0 p1 p2 p3 p4 p5 p6 p7
  obtain ⟨s, hs⟩ : ∃ s, itemsI v = s := ⟨_, rfl⟩
  rw [hs]
  rw [hs] at HQ2
  clear hs
  cases s
  · have HX := hidOf hX
    clear hX
    go_wp2
    go_ret
    rw [← HQ2.out]
    exact ⟨rfl, HX.out.below⟩
  have p0 := hX.box.cs 0 (by simp)
  have p1 := hX.box.cs 1 (by simp)
  have p2 := hX.box.cs 2 (by simp)
  have p3 := hX.box.cs 3 (by simp)
  have p4 := hX.box.cs 4 (by simp)
  have p5 := hX.box.cs 5 (by simp)
  have p6 := hX.box.cs 6 (by simp)
  have p7 := hX.box.cs 7 (by simp)
  simp at p0 p1 p2 p3 p4 p5 p6 p7
  have HX := hidOf hX
  clear hX
  go_wp2_with fail
  refine (H3.out _ HX.out).mono ?_
  rintro e w7 ⟨rfl, hb7⟩
  have HX7 := hidOf (HX.out.keep hb7)
  clear hb7 HX p0 p1 p2 p3 p4 p5 p6 p7
  go_wp2
  go_ret
  rw [← HQ2.out]
  exact ⟨rfl, HX7.out.below⟩
end Go.Proofs.Ytihdglmiecifjaa
namespace Go.Proofs.Ytihdglmiecifjaa
open Go.RowKit Pl Il

/-- The sum of a number over subscribers. -/
def sumR (p : Sb → Int) (sb : List Sb) : Int := sb.foldl (fun a s => a + p s) 0
theorem sum_next (p : Sb → Int) {sb : List Sb} {k : Nat} (hk : k < sb.length) : sumR p (sb.take (k + 1)) = sumR p (sb.take k) + p (sb.getD k ⟨0, 0, 0, 0, 0, 0, []⟩) := by
  unfold sumR
  rw [List.take_succ_eq_append_getElem hk, List.foldl_append, List.getD_eq_getElem?_getD, List.getElem?_eq_getElem hk]
  rfl
theorem sum_bd (p : Sb → Int) {sb : List Sb} (h : ∀ s, s ∈ sb → 0 ≤ p s ∧ p s ≤ 1000000000) : ∀ k : Nat, 0 ≤ sumR p (sb.take k) ∧ sumR p (sb.take k) ≤ (k : Int) * 1000000000
  | 0 => by simp [sumR]
  | k + 1 => by
    have ih := sum_bd p h k
    rcases Nat.lt_or_ge k sb.length with hk | hk
    · rw [sum_next p hk]
      have := h (sb.getD k ⟨0, 0, 0, 0, 0, 0, []⟩) (by rw [List.getD_eq_getElem?_getD, List.getElem?_eq_getElem hk]; exact List.getElem_mem hk)
      omega
    · rw [List.take_of_length_le (by omega)]
      rw [List.take_of_length_le hk] at ih
      omega
theorem ok_bounds {v : Rv} (h : okR restR v = true) : v.sb.length ≤ 12 ∧ ∀ s, s ∈ v.sb → (0 ≤ s.cu ∧ s.cu ≤ v.se) ∧ (0 ≤ s.gt ∧ s.gt ≤ 1000000000) ∧ (0 ≤ s.lo ∧ s.lo ≤ 1000000000) ∧ (0 ≤ s.pa ∧ s.pa ≤ 1000000000) := by
  simp only [okR, headR, Bool.and_eq_true, decide_eq_true_eq] at h
  obtain ⟨⟨⟨⟨⟨_, hse⟩, _⟩, h12⟩, _⟩, hs, _⟩ := h
  refine ⟨h12, fun s hm => ?_⟩
  obtain ⟨j, hj, rfl⟩ := List.getElem_of_mem hm
  unfold subsTo at hs
  rw [List.all_eq_true] at hs
  have := hs j (List.mem_range.2 hj)
  rw [List.getD_eq_getElem?_getD, List.getElem?_eq_getElem hj, Option.getD_some] at this
  simp only [subR, subHead, subSums, Bool.and_eq_true, decide_eq_true_eq] at this
  obtain ⟨⟨⟨⟨⟨⟨⟨⟨_, _⟩, a⟩, b⟩, c⟩, d⟩, e⟩, f⟩, ⟨⟨⟨g, i⟩, l⟩, _⟩, _⟩ := this.1
  omega
theorem ok_head {v : Rv} (h : okR restR v = true) : (1 ≤ v.cp ∧ v.cp ≤ 16) ∧ (0 ≤ v.se ∧ v.se ≤ 1000000000) := by
  simp only [okR, headR, Bool.and_eq_true, decide_eq_true_eq] at h
  exact ⟨h.1.1.1.1.1, h.1.1.1.1.2⟩
/-- What Balance tells. -/
def balR (p : Sb → Int) (v : Rv) : Int := if okR restR v = true then sumR p v.sb else 0
def BalanceDone (F : Nat) : Prop := ∀ (M : Rm) (v : Rv) (w : World), RIn w M v → RLe M 1048576 → RCap M → RWf v →
  Calls Try.prog F #[.agg #[.int .i64 v.cp, .int .i64 v.se, .slice M.ia M.i M.ic, .int .i64 v.nx, .slice M.sa M.s M.sc, .slice M.la M.l M.lc, .slice M.ga M.g M.gc, .bool v.cl]] w fun e w' => e = .returned (.tuple #[.int .i64 (balR (·.gt) v), .int .i64 (balR (·.lo) v), .int .i64 (balR (·.pa) v)]) ∧ Below w.heap.size w w'
set_option maxRecDepth 100000 in
set_option maxHeartbeats 8000000 in
theorem specBalance_any : BalanceDone 13 := by
  intro M v w hI hm hcap hw
  obtain ⟨W0, hW0⟩ : ∃ W, W = w.alloc (.cells #[.int .i64 v.cp, .int .i64 v.se, .slice M.ia M.i M.ic, .int .i64 v.nx, .slice M.sa M.s M.sc, .slice M.la M.l M.lc, .slice M.ga M.g M.gc, .bool v.cl] 32) := ⟨_, rfl⟩
  have hX : RHold w M v W0 := by
    have b0 : Below w.heap.size w W0 := by rw [hW0]; exact bl_alloc (Below.refl _ _) _
    exact ⟨by rw [hW0]; exact BoxL.new w (rC M v) _, hI.keep b0, b0⟩
  have hsl : v.sb.length = M.s := by
    have h1 := hI.sb.len
    have h2 := congrArg List.length hI.sv
    simp [svs] at h2
    omega
  have HSl := hidOf hsl
  have HOk := hidOf (fun (h : okR restR v = true) => ok_bounds h)
  have HC := hidOf (fun (u : World) (hu : RHold w M v u) => specRingOk_any M v u hu.rin hm hcap hw)
  have p0 := hX.box.cs 0 (by simp)
  have p1 := hX.box.cs 1 (by simp)
  have p2 := hX.box.cs 2 (by simp)
  have p3 := hX.box.cs 3 (by simp)
  have p4 := hX.box.cs 4 (by simp)
  have p5 := hX.box.cs 5 (by simp)
  have p6 := hX.box.cs 6 (by simp)
  have p7 := hX.box.cs 7 (by simp)
  simp at p0 p1 p2 p3 p4 p5 p6 p7
  have hMs := hm.s
  have HX := hidOf hX
  obtain ⟨q, hq⟩ : ∃ q, okR restR v = q := ⟨_, rfl⟩
  unfold balR
  rw [hq] at HC ⊢
  have HQ := hidOf hq
  clear hI hm hX hcap hw hsl hq
  go_enter Try.func13, Try.ntmps13
  go_upto_region 1 with fail
  rw [← hW0]
  clear hW0
  go_wp2_with fail
  refine (HC.out _ HX.out).mono ?_
  rintro e w1 ⟨rfl, hb1⟩
  have hX := HX.out.keep hb1
  clear hb1 HX p0 p1 p2 p3 p4 p5 p6 p7
  cases q
  · have HX := hidOf hX
    clear hX
    go_wp2
    go_ret3
    exact ⟨rfl, HX.out.below⟩
  have hp4 := hX.box.cs 4 (by simp)
  simp at hp4
  have HX := hidOf hX
  clear hX
  simp only []
  go_wp2_with fail
  clear hp4
  go_loopw [5, 6, 7, 8] (fun a b c i wr => ∃ k : Nat, k ≤ M.s ∧ i = .int .i64 k ∧ a = .int .i64 (sumR (·.gt) (v.sb.take k)) ∧ b = .int .i64 (sumR (·.lo) (v.sb.take k)) ∧ c = .int .i64 (sumR (·.pa) (v.sb.take k)) ∧ RHold w M v wr) (fun _ _ _ i _ => M.s - (intOf i).toNat)
  case atStart => exact ⟨0, Nat.zero_le _, rfl, rfl, rfl, rfl, HX.out⟩
  case round =>
    rename World => wr
    obtain ⟨k, hk, rfl, rfl, rfl, rfl, hX⟩ := hrel
    clear HX
    by_cases hlt : k < M.s
    · have hkl : k < M.xs.length := by rw [hX.rin.sb.len]; exact hlt
      have hkv : k < v.sb.length := by rw [HSl.out]; exact hlt
      obtain hr | ⟨b, off, ea, hb, hcell⟩ := hX.rin.sb.row
      · omega
      obtain ⟨c0, c1, c2, c3, c4, c5, c6⟩ := hcell k hlt
      have hsg := sb_get hX.rin.sv hkl
      have hbd := HOk.out HQ.out
      have hn12 := hbd.1
      have HS1 := hidOf (sum_next (·.gt) hkv)
      have HS2 := hidOf (sum_next (·.lo) hkv)
      have HS3 := hidOf (sum_next (·.pa) hkv)
      have h1 := sum_bd (·.gt) (fun s hs => (hbd.2 s hs).2.1) k
      have h2 := sum_bd (·.lo) (fun s hs => (hbd.2 s hs).2.2.1) k
      have h3 := sum_bd (·.pa) (fun s hs => (hbd.2 s hs).2.2.2) k
      have g1 := sum_bd (·.gt) (fun s hs => (hbd.2 s hs).2.1) (k + 1)
      have g2 := sum_bd (·.lo) (fun s hs => (hbd.2 s hs).2.2.1) (k + 1)
      have g3 := sum_bd (·.pa) (fun s hs => (hbd.2 s hs).2.2.2) (k + 1)
      rw [HS1.out] at g1
      rw [HS2.out] at g2
      rw [HS3.out] at g3
      rw [hsg] at HS1 HS2 HS3 g1 g2 g3
      obtain ⟨x, hx⟩ : ∃ x, sg M.xs k = x := ⟨_, rfl⟩
      rw [hx] at c0 c1 c2 c3 c4 c5 c6 HS1 HS2 HS3 g1 g2 g3
      obtain ⟨A, hA⟩ : ∃ A, sumR (·.gt) (v.sb.take k) = A := ⟨_, rfl⟩
      obtain ⟨B, hB⟩ : ∃ B, sumR (·.lo) (v.sb.take k) = B := ⟨_, rfl⟩
      obtain ⟨C, hC⟩ : ∃ C, sumR (·.pa) (v.sb.take k) = C := ⟨_, rfl⟩
      rw [hA] at HS1 g1 h1
      rw [hB] at HS2 g2 h2
      rw [hC] at HS3 g3 h3
      rw [hA, hB, hC]
      have w1 : IntKind.i64.wrap (A + x.s.gt) = A + x.s.gt := by rw [IntKind.wrap_i64]; omega
      have w2 : IntKind.i64.wrap (B + x.s.lo) = B + x.s.lo := by rw [IntKind.wrap_i64]; omega
      have w3 : IntKind.i64.wrap (C + x.s.pa) = C + x.s.pa := by rw [IntKind.wrap_i64]; omega
      have hp4 := hX.box.cs 4 (by simp)
      simp at hp4
      rw [ea] at hp4 ⊢
      have HX := hidOf hX
      clear hX hcell hsg hx hA hB hC ea hkl hkv hb hbd h1 h2 h3 g1 g2 g3 hn12
      go_wp2_with fail
      refine ⟨⟨k + 1, by omega, by go_num, by rw [HS1.out], by rw [HS2.out], by rw [HS3.out], HX.out⟩, ?_⟩
      simp [intOf]
      omega
    · have HT := hidOf (show v.sb.take k = v.sb from List.take_of_length_le (by have := HSl.out; omega))
      have hp4 := hX.box.cs 4 (by simp)
      simp at hp4
      have HX := hidOf hX
      clear hX
      rw [HT.out]
      go_wp2
      go_ret3
      exact ⟨rfl, HX.out.below⟩
set_option maxRecDepth 100000 in
set_option maxHeartbeats 8000000 in
theorem implBalance_any : BalanceDone 14 := by
  intro M v w hI hm hcap hw
  obtain ⟨W0, hW0⟩ : ∃ W, W = w.alloc (.cells #[.int .i64 v.cp, .int .i64 v.se, .slice M.ia M.i M.ic, .int .i64 v.nx, .slice M.sa M.s M.sc, .slice M.la M.l M.lc, .slice M.ga M.g M.gc, .bool v.cl] 32) := ⟨_, rfl⟩
  have hX : RHold w M v W0 := by
    have b0 : Below w.heap.size w W0 := by rw [hW0]; exact bl_alloc (Below.refl _ _) _
    exact ⟨by rw [hW0]; exact BoxL.new w (rC M v) _, hI.keep b0, b0⟩
  have hsl : v.sb.length = M.s := by
    have h1 := hI.sb.len
    have h2 := congrArg List.length hI.sv
    simp [svs] at h2
    omega
  have HSl := hidOf hsl
  have HOk := hidOf (fun (h : okR restR v = true) => ok_bounds h)
  have HC := hidOf (fun (u : World) (hu : RHold w M v u) => implRingOk_any M v u hu.rin hm hcap hw)
  have p0 := hX.box.cs 0 (by simp)
  have p1 := hX.box.cs 1 (by simp)
  have p2 := hX.box.cs 2 (by simp)
  have p3 := hX.box.cs 3 (by simp)
  have p4 := hX.box.cs 4 (by simp)
  have p5 := hX.box.cs 5 (by simp)
  have p6 := hX.box.cs 6 (by simp)
  have p7 := hX.box.cs 7 (by simp)
  simp at p0 p1 p2 p3 p4 p5 p6 p7
  have hMs := hm.s
  have HX := hidOf hX
  obtain ⟨q, hq⟩ : ∃ q, okR restR v = q := ⟨_, rfl⟩
  unfold balR
  rw [hq] at HC ⊢
  have HQ := hidOf hq
  clear hI hm hX hcap hw hsl hq
  go_enter Try.func14, Try.ntmps14
  go_upto_region 1 with fail
  rw [← hW0]
  clear hW0
  go_wp2_with fail
  refine (HC.out _ HX.out).mono ?_
  rintro e w1 ⟨rfl, hb1⟩
  have hX := HX.out.keep hb1
  clear hb1 HX p0 p1 p2 p3 p4 p5 p6 p7
  cases q
  · have HX := hidOf hX
    clear hX
    go_wp2
    go_ret3
    exact ⟨rfl, HX.out.below⟩
  have hp4 := hX.box.cs 4 (by simp)
  simp at hp4
  have HX := hidOf hX
  clear hX
  simp only []
  go_wp2_with fail
  clear hp4
  go_loopw [5, 6, 7, 16] (fun a b c i wr => ∃ k : Nat, k ≤ M.s ∧ i = .int .i64 k ∧ a = .int .i64 (sumR (·.gt) (v.sb.take k)) ∧ b = .int .i64 (sumR (·.lo) (v.sb.take k)) ∧ c = .int .i64 (sumR (·.pa) (v.sb.take k)) ∧ RHold w M v wr) (fun _ _ _ i _ => M.s - (intOf i).toNat)
  case atStart => exact ⟨0, Nat.zero_le _, rfl, rfl, rfl, rfl, HX.out⟩
  case round =>
    rename World => wr
    obtain ⟨k, hk, rfl, rfl, rfl, rfl, hX⟩ := hrel
    clear HX
    by_cases hlt : k < M.s
    · have hkl : k < M.xs.length := by rw [hX.rin.sb.len]; exact hlt
      have hkv : k < v.sb.length := by rw [HSl.out]; exact hlt
      obtain hr | ⟨b, off, ea, hb, hcell⟩ := hX.rin.sb.row
      · omega
      obtain ⟨c0, c1, c2, c3, c4, c5, c6⟩ := hcell k hlt
      have hsg := sb_get hX.rin.sv hkl
      have hbd := HOk.out HQ.out
      have hn12 := hbd.1
      have HS1 := hidOf (sum_next (·.gt) hkv)
      have HS2 := hidOf (sum_next (·.lo) hkv)
      have HS3 := hidOf (sum_next (·.pa) hkv)
      have h1 := sum_bd (·.gt) (fun s hs => (hbd.2 s hs).2.1) k
      have h2 := sum_bd (·.lo) (fun s hs => (hbd.2 s hs).2.2.1) k
      have h3 := sum_bd (·.pa) (fun s hs => (hbd.2 s hs).2.2.2) k
      have g1 := sum_bd (·.gt) (fun s hs => (hbd.2 s hs).2.1) (k + 1)
      have g2 := sum_bd (·.lo) (fun s hs => (hbd.2 s hs).2.2.1) (k + 1)
      have g3 := sum_bd (·.pa) (fun s hs => (hbd.2 s hs).2.2.2) (k + 1)
      rw [HS1.out] at g1
      rw [HS2.out] at g2
      rw [HS3.out] at g3
      rw [hsg] at HS1 HS2 HS3 g1 g2 g3
      obtain ⟨x, hx⟩ : ∃ x, sg M.xs k = x := ⟨_, rfl⟩
      rw [hx] at c0 c1 c2 c3 c4 c5 c6 HS1 HS2 HS3 g1 g2 g3
      obtain ⟨A, hA⟩ : ∃ A, sumR (·.gt) (v.sb.take k) = A := ⟨_, rfl⟩
      obtain ⟨B, hB⟩ : ∃ B, sumR (·.lo) (v.sb.take k) = B := ⟨_, rfl⟩
      obtain ⟨C, hC⟩ : ∃ C, sumR (·.pa) (v.sb.take k) = C := ⟨_, rfl⟩
      rw [hA] at HS1 g1 h1
      rw [hB] at HS2 g2 h2
      rw [hC] at HS3 g3 h3
      rw [hA, hB, hC]
      have w1 : IntKind.i64.wrap (A + x.s.gt) = A + x.s.gt := by rw [IntKind.wrap_i64]; omega
      have w2 : IntKind.i64.wrap (B + x.s.lo) = B + x.s.lo := by rw [IntKind.wrap_i64]; omega
      have w3 : IntKind.i64.wrap (C + x.s.pa) = C + x.s.pa := by rw [IntKind.wrap_i64]; omega
      have hp4 := hX.box.cs 4 (by simp)
      simp at hp4
      rw [ea] at hp4 ⊢
      have HX := hidOf hX
      clear hX hcell hsg hx hA hB hC ea hkl hkv hb hbd h1 h2 h3 g1 g2 g3 hn12
      go_wp2_with fail
      refine ⟨⟨k + 1, by omega, by go_num, by rw [HS1.out], by rw [HS2.out], by rw [HS3.out], HX.out.keep (bl_alloc (Below.refl _ _) _)⟩, ?_⟩
      simp [intOf]
      omega
    · have HT := hidOf (show v.sb.take k = v.sb from List.take_of_length_le (by have := HSl.out; omega))
      have hp4 := hX.box.cs 4 (by simp)
      simp at hp4
      have HX := hidOf hX
      clear hX
      rw [HT.out]
      go_wp2
      go_ret3
      exact ⟨rfl, HX.out.below⟩
end Go.Proofs.Ytihdglmiecifjaa
