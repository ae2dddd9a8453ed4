/-
  The program's RingOk.
  The program's Unwait.
  The plain mathematics of skipping: who skips, what is lost, what goes.
  The program's round of messages: those of the first numbers are let go, their places cleared.
  The program's round of messages: dropUpTo.
  The program's ring: its oldest, and what is let go.
  The program's ring: its oldest, and what is let go.
-/
import Derived.Test.YtclfdfefimdjdaaGreatZFnExactSubscribe35
import Derived.Test.YtclfdfefimdjdaaGreatZFnExactSubscribe16
import Derived.Test.YtclfdfefimdjdaaGreatZFnExactSubscribe28
import Derived.Test.YtclfdfefimdjdaaGreatZFnExactSubscribe19
import Derived.Test.YtclfdfefimdjdaaGreatZFnExactSubscribe29
import Derived.Test.YtclfdfefimdjdaaGreatZFnExactSubscribe30
import Derived.Test.YtclfdfefimdjdaaGreatZFnExactSubscribe25
import Derived.Test.YtclfdfefimdjdaaGreatZFnExactSubscribe17
import Derived.Test.YtclfdfefimdjdaaGreatZFnExactSubscribe33
import Derived.Deep.RegionHeld3
namespace Go.Proofs.YtclfdfefimdjdaaGreat
open Go.RowKit Pl Il

set_option maxRecDepth 100000 in
set_option maxHeartbeats 8000000 in
theorem implRingOk_any : ImplRingOk (okR restR) := by
  intro M v w hI hm _ hw
  rw [← okI_eq]
  obtain ⟨W0, hW0⟩ : ∃ W, W = w.alloc (.cells #[.int .i64 v.cp, .int .i64 v.se, .slice M.ia M.i M.ic, .int .i64 v.nx, .slice M.sa M.s M.sc, .slice M.la M.l M.lc, .slice M.ga M.g M.gc, .bool v.cl] 28) := ⟨_, rfl⟩
  have hX : RHold w M v W0 := by
    have b0 : Below w.heap.size w W0 := by rw [hW0]; exact bl_alloc (Below.refl _ _) _
    exact ⟨by rw [hW0]; exact BoxL.new w (rC M v) _, hI.keep b0, b0⟩
  have hm2 := hm.mono (k' := 2097152) (by omega)
  obtain ⟨q, hq⟩ : ∃ q, okI v = q := ⟨_, rfl⟩
  rw [hq]
  have HQ := hidOf (show (headI v && (subsI v && (itemsI v && waitI v))) = q by rw [← hq]; rfl)
  have p0 := hX.box.cs 0 (by simp)
  have p1 := hX.box.cs 1 (by simp)
  have p3 := hX.box.cs 3 (by simp)
  simp at p0 p1 p3
  have HX := hidOf hX
  have HM := hidOf hm
  have HM2 := hidOf hm2
  have HW := hidOf hw
  clear hI hm hX hq hw hm2
  go_enter Tryz.func25, Tryz.ntmps25
  go_upto_region 1 with fail
  rw [← hW0]
  clear hW0
  by_cases h0 : v.cp < 1
  · have HV := hidOf (show q = false by rw [← HQ.out, show headI v = false from decide_eq_false (by omega)]; rfl)
    go_wp2
    go_ret
    rw [HV.out]
    exact ⟨rfl, HX.out.below⟩
  by_cases h1 : 16 < v.cp
  · have HV := hidOf (show q = false by rw [← HQ.out, show headI v = false from decide_eq_false (by omega)]; rfl)
    go_wp2
    go_ret
    rw [HV.out]
    exact ⟨rfl, HX.out.below⟩
  by_cases h2 : v.se < 0
  · have HV := hidOf (show q = false by rw [← HQ.out, show headI v = false from decide_eq_false (by omega)]; rfl)
    go_wp2
    go_ret
    rw [HV.out]
    exact ⟨rfl, HX.out.below⟩
  by_cases h3 : 1000000000 < v.se
  · have HV := hidOf (show q = false by rw [← HQ.out, show headI v = false from decide_eq_false (by omega)]; rfl)
    go_wp2
    go_ret
    rw [HV.out]
    exact ⟨rfl, HX.out.below⟩
  have hC : 1 ≤ v.cp ∧ v.cp ≤ 16 := by omega
  have hS : 0 ≤ v.se ∧ v.se ≤ 1000000000 := by omega
  have HCC := hidOf hC
  have HSS := hidOf hS
  clear hC hS
  cases hn : cnt v.nx
  · have HV := hidOf (show q = false by
      rw [← HQ.out, show headI v = false from decide_eq_false (by simp only [cnt, Bool.and_eq_false_iff, decide_eq_false_iff_not] at hn; omega)]
      rfl)
    go_wp2_with (go_at_call 87; refine (isCount_any _ _).mono ?_; rintro e w' ⟨rfl, rfl⟩; rw [hn])
    go_ret
    rw [HV.out]
    exact ⟨rfl, HX.out.below⟩
  have HNx := hidOf (show 0 ≤ v.nx ∧ v.nx ≤ 1000000000 by simpa [cnt] using hn)
  have HQ2 := hidOf (show (subsI v && (itemsI v && waitI v)) = q by
    have h1 := HCC.out
    have h2 := HSS.out
    have h3 := HNx.out
    rw [← HQ.out, show headI v = true from decide_eq_true (by omega)]
    rfl)
  have H1 := hidOf (fun (u : World) (hu : RHold w M v u) => subsOk_any M v u hu.rin HM2.out HSS.out HNx.out)
  have H2 := hidOf (fun (u : World) (hu : RHold w M v u) => itemsOk_any M v u hu.rin HM2.out HSS.out HCC.out)
  have H3 := hidOf (fun (u : World) (hu : RHold w M v u) => ringWaitersOk_any M v u hu.rin HM.out HW.out)
  go_upto_region 3 with (go_at_call 87; refine (isCount_any _ _).mono ?_; rintro e w' ⟨rfl, rfl⟩; rw [hn])
  have hX := HX.out
  have c2 := hX.box.cs 2 (by simp)
  have c4 := hX.box.cs 4 (by simp)
  have c5 := hX.box.cs 5 (by simp)
  have c6 := hX.box.cs 6 (by simp)
  have c7 := hX.box.cs 7 (by simp)
  simp at c2 c4 c5 c6 c7
  clear hX hn HQ HNx HSS HCC h0 h1 h2 h3
  go_wp2_with fail
  refine (H1.out _ HX.out).mono ?_
  rintro e w5 ⟨rfl, hb5⟩
  have hX := HX.out.keep hb5
  clear hb5 HX p0 p1 p3 c2 c4 c5 c6 c7
  obtain ⟨s, hs⟩ : ∃ s, subsI v = s := ⟨_, rfl⟩
  rw [hs]
  rw [hs] at HQ2
  clear hs
  cases s
  · have HX := hidOf hX
    clear hX
    go_wp2
    go_ret
    rw [← HQ2.out]
    exact ⟨rfl, HX.out.below⟩
  have p0 := hX.box.cs 0 (by simp)
  have p1 := hX.box.cs 1 (by simp)
  have p2 := hX.box.cs 2 (by simp)
  have p3 := hX.box.cs 3 (by simp)
  have p4 := hX.box.cs 4 (by simp)
  have p5 := hX.box.cs 5 (by simp)
  have p6 := hX.box.cs 6 (by simp)
  have p7 := hX.box.cs 7 (by simp)
  simp at p0 p1 p2 p3 p4 p5 p6 p7
  have HX := hidOf hX
  clear hX
  go_wp2_with fail
  refine (H2.out _ HX.out).mono ?_
  rintro e w6 ⟨rfl, hb6⟩
  have hX := HX.out.keep hb6
  clear hb6 HX p0 p1 p2 p3 p4 p5 p6 p7
  obtain ⟨s, hs⟩ : ∃ s, itemsI v = s := ⟨_, rfl⟩
  rw [hs]
  rw [hs] at HQ2
  clear hs
  cases s
  · have HX := hidOf hX
    clear hX
    go_wp2
    go_ret
    rw [← HQ2.out]
    exact ⟨rfl, HX.out.below⟩
  have p0 := hX.box.cs 0 (by simp)
  have p1 := hX.box.cs 1 (by simp)
  have p2 := hX.box.cs 2 (by simp)
  have p3 := hX.box.cs 3 (by simp)
  have p4 := hX.box.cs 4 (by simp)
  have p5 := hX.box.cs 5 (by simp)
  have p6 := hX.box.cs 6 (by simp)
  have p7 := hX.box.cs 7 (by simp)
  simp at p0 p1 p2 p3 p4 p5 p6 p7
  have HX := hidOf hX
  clear hX
  go_wp2_with fail
  refine (H3.out _ HX.out).mono ?_
  rintro e w7 ⟨rfl, hb7⟩
  have HX7 := hidOf (HX.out.keep hb7)
  clear hb7 HX p0 p1 p2 p3 p4 p5 p6 p7
  go_wp2
  go_ret
  rw [← HQ2.out]
  exact ⟨rfl, HX7.out.below⟩
end Go.Proofs.YtclfdfefimdjdaaGreat
namespace Go.Proofs.YtclfdfefimdjdaaGreat
open Go.RowKit Go.Maps Pl Il

theorem RBody.quit {B b : Nat} {A A' : Na} {P : Nat → Tm} {f : Nat} {v : Rv} {sa : Option Addr} {s sc : Nat} {ys : List Sa} {w w' : World} (id : Int) (h : RBody B b A P f v sa s sc ys w) (hW : WSt B b A' (lessL v.ln id) (lessL v.gs id) w') (hT : WTo B b w w') (ht : TurnB b w w' ∧ Shp b w w') (hA : A' = A ∨ NewA A' w.heap.size) : RBody B b A' P f (goneR v id) sa s sc ys w' where
  wst := hW
  rnd := by
    refine ⟨?_, fun j hj => ?_⟩
    · obtain ⟨cur, t, hg, hs⟩ := h.rnd.blk
      obtain ⟨cur', hg', hs'⟩ := ht.2 cur t hg
      exact ⟨cur', t, hg', by omega⟩
    · obtain ⟨h1, h2, h3⟩ := h.rnd.pl j hj
      exact ⟨by rw [hT.cells _ (by omega)]; exact h1, by rw [hT.cells _ (by omega)]; exact h2, by rw [hT.cells _ (by omega)]; exact h3⟩
  c2 := by rw [hT.cells _ (by omega)]; exact h.c2
  fst := by rw [hT.cells _ (by omega)]; exact h.fst
  nxt := by rw [hT.cells _ (by omega)]; exact h.nxt
  c56 := by rw [hT.cells _ (by omega)]; exact h.c56
  c57 := by rw [hT.cells _ (by omega)]; exact h.c57
  c58 := by rw [hT.cells _ (by omega)]; exact h.c58
  srow := ⟨rowTurn h.srow.sb ht.1 h.nb.1, fun x hx => rowTurn (h.srow.fl x hx) ht.1 (h.nb.2 x hx), h.srow.fls, h.srow.apt⟩
  sv := h.sv
  its := h.its
  sh := h.sh
  se := h.se
  few := h.few
  nb := h.nb
  ap := fun q hq => by
    rcases hA with rfl | hN
    · exact h.ap q hq
    · have hge : w.heap.size ≤ q := hq.elim (hN.1 q) (hN.2 q)
      exact ⟨fun e => by have := (row_lt h.srow.sb e).2; omega, fun x hx e => by have := (row_lt (h.srow.fl x hx) e).2; omega⟩
theorem ok_first {v : Rv} (h : okR restR v = true) : ∃ f : Nat, v.se = ((f + v.it.length : Nat) : Int) ∧ v.it.length ≤ 16 ∧ f + v.it.length ≤ 1000000000 := by
  have h0 := h
  simp only [okR, headR, lenR, Bool.and_eq_true, decide_eq_true_eq] at h0
  obtain ⟨⟨⟨⟨⟨hcp, hse⟩, _⟩, _⟩, h16⟩, _, ⟨hlen, _⟩, _⟩ := h0
  have := oldR_bd hse.1 hcp.1
  exact ⟨(oldR v).toNat, by omega, h16, by omega⟩
theorem ok_nodup {v : Rv} (h : okR restR v = true) : v.ln.Nodup ∧ v.gs.Nodup := by
  rw [← okI_eq] at h
  simp only [okI, waitI, Bool.and_eq_true, decide_eq_true_eq] at h
  have := dist_nodup h.2.2.2.2.2.2
  rw [List.nodup_append] at this
  exact ⟨this.1, this.2.1⟩
theorem turn_has (ln gs : List Int) (id : Int) : (if turnL ln gs id = 3 then (3 : Int) else 0) = if (hasL ln id || hasL gs id) = true then 0 else 3 := by
  rcases turn_cases ln gs id with ⟨h0, h1⟩ | ⟨h0, h1, h2⟩ | ⟨h0, h1, h2⟩
  · rw [h0, h1]; rfl
  · rw [h0, h1, h2]; rfl
  · rw [h0, h1, h2]; rfl
theorem gone_none {v : Rv} {id : Int} (h : ¬ (hasL v.ln id || hasL v.gs id) = true) : goneR v id = v := by
  simp only [Bool.or_eq_true, not_or, Bool.not_eq_true] at h
  have e1 : lessL v.ln id = v.ln := List.erase_of_not_mem (by simpa [hasL] using h.1)
  have e2 : lessL v.gs id = v.gs := List.erase_of_not_mem (by simpa [hasL] using h.2)
  unfold goneR
  rw [e1, e2]
end Go.Proofs.YtclfdfefimdjdaaGreat
namespace Go.Proofs.YtclfdfefimdjdaaGreat
open Go.RowKit Go.Maps Pl Il

abbrev Sb0 : Sb := ⟨0, 0, 0, 0, 0, 0, []⟩
theorem least_iff : ∀ (sb : List Sb) (m x : Int), x ≤ leastR m sb ↔ x ≤ m ∧ ∀ s, s ∈ sb → x ≤ s.cu
  | [], m, x => by simp [leastR]
  | s :: sb, m, x => by
    have e : leastR m (s :: sb) = leastR (if s.cu < m then s.cu else m) sb := rfl
    rw [e, least_iff sb]
    simp only [List.mem_cons, forall_eq_or_imp]
    constructor
    · rintro ⟨h1, h2⟩
      split at h1
      · exact ⟨by omega, h1, h2⟩
      · exact ⟨h1, by omega, h2⟩
    · rintro ⟨h1, h2, h3⟩
      refine ⟨?_, h3⟩
      split
      · exact h2
      · exact h1
theorem old_mono {v v' : Rv} (hs : v'.se = v.se) (hc : v'.cp = v.cp) (h : leastR v.se v.sb ≤ leastR v.se v'.sb) : oldR v ≤ oldR v' := by
  unfold oldR
  simp only [hs, hc]
  repeat' split
  all_goals omega
theorem putV_len (sb : List Sb) (k r : Nat) (z : Int) : (putV sb k r z).length = sb.length := by simp [putV]
theorem putV_get {sb : List Sb} {k r : Nat} {z : Int} (hk : k < sb.length) : (putV sb k r z).getD k Sb0 = subPut (sb.getD k Sb0) r z := by
  unfold putV
  rw [List.getD, List.getElem?_set, if_pos rfl, if_pos hk, Option.getD_some]
theorem putV_mem {sb : List Sb} {k r : Nat} {z : Int} {s : Sb} (h : s ∈ putV sb k r z) : s ∈ sb ∨ s = subPut (sb.getD k Sb0) r z := List.mem_or_eq_of_mem_set h
/-- What is lost of what is skipped. -/
def goneS (v : Rv) (s : Sb) (num : Int) : Int := if (if num < v.se - v.cp then num else v.se - v.cp) - s.cu < 0 then 0 else (if num < v.se - v.cp then num else v.se - v.cp) - s.cu
def skipV (v : Rv) (k : Nat) (num : Int) : Rv :=
  { v with sb := putV (putV (putV v.sb k 4 ((v.sb.getD k Sb0).lo + goneS v (v.sb.getD k Sb0) num)) k 5 ((v.sb.getD k Sb0).pa + (num - (v.sb.getD k Sb0).cu - goneS v (v.sb.getD k Sb0) num))) k 2 num }
theorem skip_mem {v : Rv} {k : Nat} {num : Int} (hk : k < v.sb.length) {s : Sb} (h : s ∈ (skipV v k num).sb) : s ∈ v.sb ∨ s.cu = num ∨ s.cu = (v.sb.getD k Sb0).cu := by
  have hgk : v.sb.getD k Sb0 ∈ v.sb := by
    rw [List.getD, List.getElem?_eq_getElem hk, Option.getD_some]; exact List.getElem_mem _
  rcases putV_mem h with h | h
  · rcases putV_mem h with h | h
    · rcases putV_mem h with h | h
      · exact .inl h
      · exact .inr (.inr (by rw [h]; rfl))
    · right; right
      rw [h, putV_get hk]
      rfl
  · exact .inr (.inl (by rw [h]; rfl))
theorem skip_old {v : Rv} {k : Nat} {num : Int} (hk : k < v.sb.length) (hn : (v.sb.getD k Sb0).cu ≤ num) : oldR v ≤ oldR (skipV v k num) := by
  refine old_mono rfl rfl ?_
  rw [least_iff]
  have hgk : v.sb.getD k Sb0 ∈ v.sb := by
    rw [List.getD, List.getElem?_eq_getElem hk, Option.getD_some]; exact List.getElem_mem _
  have hl := (least_iff v.sb v.se (leastR v.se v.sb)).1 (Int.le_refl _)
  refine ⟨hl.1, fun s hs => ?_⟩
  rcases skip_mem hk hs with h | h | h
  · exact hl.2 s h
  · have := hl.2 _ hgk; omega
  · have := hl.2 _ hgk; omega
/-- What is known of a right ring. -/
theorem ok_head {v : Rv} (h : okR restR v = true) : (1 ≤ v.cp ∧ v.cp ≤ 16) ∧ (0 ≤ v.se ∧ v.se ≤ 1000000000) ∧ v.sb.length ≤ 12 ∧ v.it.length ≤ 16 ∧ (v.it.length : Int) = v.se - oldR v ∧ v.ln.length ≤ 12 ∧ v.gs.length ≤ 12 := by
  simp only [okR, headR, lenR, Bool.and_eq_true, decide_eq_true_eq] at h
  obtain ⟨⟨⟨⟨⟨hcp, hse⟩, _⟩, h12⟩, h16⟩, _, ⟨hlen, hw, _⟩, _⟩ := h
  exact ⟨hcp, hse, h12, h16, hlen, by omega, by omega⟩
theorem ok_sub {v : Rv} (h : okR restR v = true) {k : Nat} (hk : k < v.sb.length) : subR v (v.sb.getD k Sb0) = true := by
  simp only [okR, Bool.and_eq_true] at h
  have h1 := h.2.1
  unfold subsTo at h1
  rw [List.all_eq_true] at h1
  have := h1 k (List.mem_range.2 hk)
  simp only [Bool.and_eq_true] at this
  exact this.1
theorem ok_nums {v : Rv} (h : okR restR v = true) {k : Nat} (hk : k < v.sb.length) : 0 ≤ (v.sb.getD k Sb0).cu ∧ (v.sb.getD k Sb0).cu ≤ v.se ∧ 0 ≤ (v.sb.getD k Sb0).gt ∧ (v.sb.getD k Sb0).gt ≤ 1000000000 ∧ 0 ≤ (v.sb.getD k Sb0).lo ∧ (v.sb.getD k Sb0).lo ≤ 1000000000 ∧ 0 ≤ (v.sb.getD k Sb0).pa ∧ (v.sb.getD k Sb0).pa ≤ 1000000000 := by
  have h1 := ok_sub h hk
  have h2 := (ok_head h).2.1
  simp only [subR, subHead, subSums, Bool.and_eq_true, decide_eq_true_eq] at h1
  omega
/-- The first number of a right ring. -/
theorem ok_fst {v : Rv} (h : okR restR v = true) : ∃ f : Nat, oldR v = (f : Int) ∧ v.se = ((f + v.it.length : Nat) : Int) ∧ v.it.length ≤ 16 ∧ f + v.it.length ≤ 1000000000 := by
  obtain ⟨hcp, hse, _, h16, hlen, _⟩ := ok_head h
  have := oldR_bd (v := v) hse.1 hcp.1
  exact ⟨(oldR v).toNat, by omega, by omega, h16, by omega⟩
/-- How many go. -/
theorem skip_first {v : Rv} (h : okR restR v = true) {k : Nat} {num : Int} (hk : k < v.sb.length) (hn : (v.sb.getD k Sb0).cu ≤ num) {f : Nat} (hf : v.se = ((f + v.it.length : Nat) : Int)) : ∃ d : Nat, d ≤ v.it.length ∧ oldR (skipV v k num) = ((f + d : Nat) : Int) ∧ trimR (skipV v k num) = { skipV v k num with it := v.it.drop d } := by
  obtain ⟨hcp, hse, _, h16, hlen, _⟩ := ok_head h
  have h1 := skip_old hk hn
  have h2 := oldR_bd (v := skipV v k num) hse.1 hcp.1
  have e1 : (skipV v k num).se = v.se := rfl
  have e2 : (skipV v k num).it = v.it := rfl
  rw [e1] at h2
  obtain ⟨d, hd⟩ : ∃ d : Nat, oldR (skipV v k num) = ((f + d : Nat) : Int) := ⟨(oldR (skipV v k num) - f).toNat, by omega⟩
  refine ⟨d, by omega, hd, ?_⟩
  unfold trimR
  rw [e1, e2]
  by_cases h0 : d = 0
  · subst h0
    rw [if_neg (by omega), List.drop_zero]
    rfl
  · rw [if_pos (by omega), show v.it.length - (v.se - oldR (skipV v k num)).toNat = d by omega]
    first | done | rfl
/-- What SkipTo leaves, and its code. -/
def skipG (v : Rv) (id num : Int) : Rv := if okR restR v = true then (if atR v.sb id < 0 then v else if (hasL v.ln id || hasL v.gs id) = true then v else if num < (v.sb.getD (atR v.sb id).toNat Sb0).cu ∨ v.se < num then v else trimR (skipV v (atR v.sb id).toNat num)) else v
def skipC (v : Rv) (id num : Int) : Int := if okR restR v = true then (if atR v.sb id < 0 then 3 else if (hasL v.ln id || hasL v.gs id) = true then 5 else if num < (v.sb.getD (atR v.sb id).toNat Sb0).cu ∨ v.se < num then 6 else 0) else 1
def SkipDone (F : Nat) : Prop := ∀ (M : Rm) (v : Rv) (id num : Int) (w : World), RIn w M v → RLe M 1048576 → RCap M → RWf v → (Lit.int .i64 id).wf = true → (Lit.int .i64 num).wf = true →
  Calls Tryz.prog F #[.agg #[.int .i64 v.cp, .int .i64 v.se, .slice M.ia M.i M.ic, .int .i64 v.nx, .slice M.sa M.s M.sc, .slice M.la M.l M.lc, .slice M.ga M.g M.gc, .bool v.cl], .int .i64 id, .int .i64 num] w fun e w' => RgP w (skipG v id num) (skipC v id num) e w'
theorem at_lt {sb : List Sb} {id : Int} (h : ¬ atR sb id < 0) : (atR sb id).toNat < sb.length ∧ atR sb id = ((atR sb id).toNat : Int) := by
  unfold atR at h ⊢
  split
  · rename_i i hi
    rw [List.findIdx?_eq_some_iff_getElem] at hi
    obtain ⟨h1, _⟩ := hi
    exact ⟨by simpa using h1, by simp⟩
  · rename_i hi
    rw [hi] at h
    simp at h
end Go.Proofs.YtclfdfefimdjdaaGreat
namespace Go.Proofs.YtclfdfefimdjdaaGreat
open Go.RowKit Pl Il

def zTm : Tm := (0, 0, ⟨#[]⟩)
theorem zero_flat (n : Nat) : (Builtin.zeroCells (Value.agg #[.int .i64 0, .int .i64 0, .string ⟨#[]⟩]).cells n).toList = qflat (List.replicate n zTm) := by
  have hz : (Value.agg #[.int .i64 0, .int .i64 0, .string ⟨#[]⟩]).cells = #[.int .i64 0, .int .i64 0, .string ⟨#[]⟩] := rfl
  rw [hz]
  refine List.ext_getElem? fun i => ?_
  by_cases hi : i < n * 3
  · have h := qflat_at (List.replicate n zTm) (i / 3) (i % 3) (by simp; omega) (by omega)
    rw [show i / 3 * 3 + i % 3 = i by omega, qg_eq (by simp; omega), List.getElem_replicate] at h
    rw [h]
    rw [List.getElem?_eq_getElem (by simp [Builtin.zeroCells]; omega)]
    simp only [Builtin.zeroCells, Array.getElem_toList, Array.getElem_map, Array.getElem_range]
    have : i % 3 = 0 ∨ i % 3 = 1 ∨ i % 3 = 2 := by omega
    rcases this with e | e | e <;> simp [e, qC, zTm]
  · rw [List.getElem?_eq_none (by simp [Builtin.zeroCells]; omega), List.getElem?_eq_none (by rw [length_qflat]; simp; omega)]
/-- Messages are cleared. -/
theorem clear_msgs (w : World) (b d n c : Nat) (cur : Array Value) (t : TypeId) (hn : 0 < n) (hg : w.heap[b]? = some (.cells cur t (0, 0))) (hs : d + n * 3 ≤ cur.size) :
    ∃ w', (∀ ty, (Builtin.clear_ #[24] ty #[.slice (some ⟨b, d, none⟩) n c]).run Tryz.prog w = .ok (.tuple #[]) w') ∧ CpyP b d n (List.replicate n zTm) w w' := by
  have hzl : (qflat (List.replicate n zTm)).length = n * 3 := by rw [length_qflat]; simp
  have hst := run_storeCells_at Tryz.prog b d t (qflat (List.replicate n zTm)) 0 cur w hg (by rw [hzl]; omega) (one_qflat _)
  simp only [Nat.add_zero] at hst
  refine ⟨w.setRow b (cur.toList.take d ++ qflat (List.replicate n zTm) ++ cur.toList.drop (d + (qflat (List.replicate n zTm)).length)).toArray, ?_, ⟨fun cur2 t2 h2 => ?_, grown_setRow _ _ _, fun j => ?_⟩⟩
  · intro ty
    obtain ⟨m, rfl⟩ : ∃ m, n = m + 1 := ⟨n - 1, by omega⟩
    have hst2 := hst
    rw [← zero_flat] at hst2
    simp only [Builtin.clear_]
    simp [run_underlying Tryz.underlying24, hst2]
    rw [zero_flat, hzl, ← Array.length_toList, zero_flat, hzl]
  · rw [hg] at h2
    cases h2
    refine ⟨_, setRow_heap w b cur _ t _ hg, ?_⟩
    simp only [List.size_toArray, List.length_append, List.length_take, List.length_drop, Array.length_toList, hzl]
    omega
  · rw [cell_setRow_same w b j cur _ t _ hg]
    have h := seg_at (l := cur.toList) (cs := qflat (List.replicate n zTm)) (d := d) (j := j) (by rw [hzl, Array.length_toList]; omega)
    rw [List.getElem?_toArray, h, hzl]
    split
    · rfl
    · simp [World.cell?, hg]
theorem clear_none (w : World) (ty : TypeId) (a : Option Addr) (c : Nat) : (Builtin.clear_ #[24] ty #[.slice a 0 c]).run Tryz.prog w = .ok (.tuple #[]) w := by
  cases a <;> simp [Builtin.clear_, run_underlying Tryz.underlying24]
/-- The first d of the n messages from number f on are let go. -/
structure DropP (b o f d n : Nat) (P P' : Nat → Tm) (w w' : World) : Prop where
  rnd : RndB b o P' w'
  grown : w.grownBy w' (some b)
  cells : ∀ j, (j < o ∨ o + 51 < j) → w'.cell? ⟨b, j, none⟩ = w.cell? ⟨b, j, none⟩
  fst : w'.cell? ⟨b, o + 51, none⟩ = some (.int .i64 ((f + d : Nat) : Int))
  same : ∀ i, d ≤ i → i < n → P' ((f + i) % 17) = P ((f + i) % 17)
  short : (∀ j, (P j).2.2.size ≤ maxLen) → ∀ j, (P' j).2.2.size ≤ maxLen
end Go.Proofs.YtclfdfefimdjdaaGreat
namespace Go.Proofs.YtclfdfefimdjdaaGreat
open Go.RowKit Pl Il

theorem grown_of {w u : World} {b : Nat} (h : Below w.heap.size w u) : w.grownBy u (some b) := ⟨h.os, h.tape, h.output, h.size, fun k hk _ => h.block k hk⟩
theorem grown_set (w : World) (b p : Nat) (v : Value) : w.grownBy (w.setCell ⟨b, p, none⟩ v) (some b) := ⟨rfl, rfl, rfl, by simp, fun k _ hk => Below.heap_setCell _ _ _ _ (by rintro rfl; exact hk rfl)⟩
theorem qg_rep {n i : Nat} (h : i < n) : qg (List.replicate n zTm) i = zTm := by rw [qg_eq (by simpa using h), List.getElem_replicate]
/-- What stands in a place behind the clearing of k places from s on. -/
def clrP (P : Nat → Tm) (s k : Nat) (j : Nat) : Tm := if s ≤ j ∧ j < s + k then zTm else P j
theorem RndB.clear {b o s k : Nat} {P : Nat → Tm} {w w' : World} (h : RndB b o P w) (hc : CpyP b (o + s * 3) k (List.replicate k zTm) w w') : RndB b o (clrP P s k) w' :=
  (h.copied hc (by simp)).ext fun j _ => by
    unfold clrP
    split
    · rename_i h1; rw [qg_rep (by omega)]
    · rfl
theorem clr_short {P : Nat → Tm} {s k : Nat} (h : ∀ j, (P j).2.2.size ≤ maxLen) : ∀ j, (clrP P s k j).2.2.size ≤ maxLen := fun j => by
  unfold clrP
  split
  · exact Nat.zero_le _
  · exact h j
/-- The end of dropUpTo: the first number is written. -/
theorem DropP.mk' {b o f d n : Nat} {P P' : Nat → Tm} {w w1 w2 : World} (hb : Below w.heap.size w w1) (hlt : b < w.heap.size) (hR : RndB b o P' w2) (hg : w1.grownBy w2 (some b)) (hc : ∀ j, (j < o ∨ o + 51 ≤ j) → w2.cell? ⟨b, j, none⟩ = w1.cell? ⟨b, j, none⟩)
    (hs : ∀ i, d ≤ i → i < n → P' ((f + i) % 17) = P ((f + i) % 17)) (hsh : (∀ j, (P j).2.2.size ≤ maxLen) → ∀ j, (P' j).2.2.size ≤ maxLen) {u : Value} (h51 : w.cell? ⟨b, o + 51, none⟩ = some u) :
    DropP b o f d n P P' w (w2.setCell ⟨b, o + 51, none⟩ (.int .i64 ((f + d : Nat) : Int))) := by
  refine ⟨hR.set _ (Nat.le_refl _) _, World.grownBy.trans (grown_of hb) (World.grownBy.trans hg (grown_set _ _ _ _)), fun j hj => ?_, ?_, hs, hsh⟩
  · rw [World.cell?_setCell_other _ _ _ _ (by intro e; injection e with _ e2; omega), hc j (by omega), hb.cell (p := ⟨b, j, none⟩) hlt]
  · exact World.cell?_setCell_same _ _ _ (by rw [hc _ (by omega), hb.cell (p := ⟨b, o + 51, none⟩) hlt]; exact h51)
set_option maxRecDepth 100000 in
set_option maxHeartbeats 4000000 in
theorem dropUpTo_any (b o f d n : Nat) (P : Nat → Tm) (w : World) (hR : RndB b o P w) (c51 : w.cell? ⟨b, o + 51, none⟩ = some (.int .i64 (f : Int))) (hd : d ≤ n) (hn : n ≤ 17) (hf : f + n ≤ 2000000000) :
    Calls Tryz.prog 164 #[.pointer (some ⟨b, o, none⟩), .int .i64 ((f + d : Nat) : Int)] w fun e w' => e = .returned (.tuple #[]) ∧ ∃ P', DropP b o f d n P P' w w' := by
  have hlt := hR.lt
  have HC := hidOf (span_any b o f d w (by omega) (by omega))
  have hs17 : f % 17 < 17 := Nat.mod_lt _ (by omega)
  have HR := hidOf hR
  have H51 := hidOf c51
  obtain ⟨s, hs⟩ : ∃ s, f % 17 = s := ⟨_, rfl⟩
  rw [hs] at HC hs17
  have HS := hidOf hs
  obtain ⟨fd, hfd⟩ : ∃ fd : Int, ((f + d : Nat) : Int) = fd := ⟨_, rfl⟩
  have HFD := hidOf hfd
  rw [hfd] at HC ⊢
  clear hs hR hfd
  by_cases hA : s + d ≤ 17
  · simp only [spanA, spanB, if_pos hA] at HC
    by_cases hd0 : d = 0
    · subst hd0
      go_enter Tryz.func164, Tryz.ntmps164
      go_wp2_with fail
      refine HC.out.mono ?_
      rintro e w1 ⟨rfl, hb1⟩
      have HB1 := hidOf hb1
      have q51 : w1.cell? ⟨b, o + 51, none⟩ = some (.int .i64 (f : Int)) := by rw [hb1.cell (p := ⟨b, o + 51, none⟩) hlt]; exact H51.out
      have f51 : w1.frozen? ⟨b, o + 51, none⟩ = false := (HR.out.keep hb1).fr _
      have k1 := fun ty => clear_none w1 ty (some ⟨b, o + s * 3, none⟩) (17 - s)
      have k2 := fun ty => clear_none w1 ty none 0
      clear HC c51 hb1
      go_wp2_with fail
      go_end0
      rw [← HFD.out]
      exact ⟨rfl, P, DropP.mk' HB1.out hlt (HR.out.keep HB1.out) ⟨rfl, rfl, rfl, Nat.le_refl _, fun _ _ _ => rfl⟩ (fun _ _ => rfl) (fun _ _ _ => rfl) (fun h => h) H51.out⟩
    · go_enter Tryz.func164, Tryz.ntmps164
      go_wp2_with fail
      refine HC.out.mono ?_
      rintro e w1 ⟨rfl, hb1⟩
      have HB1 := hidOf hb1
      have hR1 := HR.out.keep hb1
      obtain ⟨cur, t, hg, hsz⟩ := hR1.blk
      obtain ⟨w2, hr2, hc2⟩ := clear_msgs w1 b (o + s * 3) d (17 - s) cur t (by omega) hg (by omega)
      have hR2 := hR1.clear hc2
      have k2 := fun ty => clear_none w2 ty none 0
      have q51 : w2.cell? ⟨b, o + 51, none⟩ = some (.int .i64 (f : Int)) := by rw [hc2.cells, if_neg (by omega), hb1.cell (p := ⟨b, o + 51, none⟩) hlt]; exact H51.out
      have f51 : w2.frozen? ⟨b, o + 51, none⟩ = false := hR2.fr _
      have HR2 := hidOf hR2
      have HC2 := hidOf hc2
      clear HC c51 hb1 hR1 hR2 hc2 hg hsz
      go_wp2_with fail
      go_end0
      rw [← HFD.out]
      refine ⟨rfl, clrP P s d, DropP.mk' HB1.out hlt HR2.out HC2.out.grown (fun j hj => by rw [HC2.out.cells, if_neg (by omega)]) (fun i h1 h2 => ?_) clr_short H51.out⟩
      have := HS.out
      unfold clrP
      rw [if_neg (by omega)]
  · simp only [spanA, spanB, if_neg hA] at HC
    go_enter Tryz.func164, Tryz.ntmps164
    go_wp2_with fail
    refine HC.out.mono ?_
    rintro e w1 ⟨rfl, hb1⟩
    have HB1 := hidOf hb1
    have hR1 := HR.out.keep hb1
    obtain ⟨cur, t, hg, hsz⟩ := hR1.blk
    obtain ⟨w2, hr2, hc2⟩ := clear_msgs w1 b (o + s * 3) (17 - s) (17 - s) cur t (by omega) hg (by omega)
    have hR2 := hR1.clear hc2
    obtain ⟨cur2, t2, hg2, hsz2⟩ := hR2.blk
    obtain ⟨w3, hr3, hc3⟩ := clear_msgs w2 b (o + 0 * 3) (s + d - 17) 17 cur2 t2 (by omega) hg2 (by omega)
    have hR3 := hR2.clear hc3
    rw [Nat.zero_mul, Nat.add_zero] at hr3
    have q51 : w3.cell? ⟨b, o + 51, none⟩ = some (.int .i64 (f : Int)) := by rw [hc3.cells, if_neg (by omega), hc2.cells, if_neg (by omega), hb1.cell (p := ⟨b, o + 51, none⟩) hlt]; exact H51.out
    have f51 : w3.frozen? ⟨b, o + 51, none⟩ = false := hR3.fr _
    have HR3 := hidOf hR3
    have HC2 := hidOf hc2
    have HC3 := hidOf hc3
    clear HC c51 hb1 hR1 hR2 hR3 hc2 hc3 hg hsz hg2 hsz2
    go_wp2_with fail
    go_end0
    rw [← HFD.out]
    refine ⟨rfl, clrP (clrP P s (17 - s)) 0 (s + d - 17), DropP.mk' HB1.out hlt HR3.out (HC2.out.grown.trans HC3.out.grown) (fun j hj => by rw [HC3.out.cells, if_neg (by omega), HC2.out.cells, if_neg (by omega)]) (fun i h1 h2 => ?_) (fun h => clr_short (clr_short h)) H51.out⟩
    have := HS.out
    unfold clrP
    rw [if_neg (by omega), if_neg (by omega)]
end Go.Proofs.YtclfdfefimdjdaaGreat
namespace Go.Proofs.YtclfdfefimdjdaaGreat
open Go.RowKit Pl Il

theorem RBody.drop {B b : Nat} {A : Na} {P P' : Nat → Tm} {f d : Nat} {v : Rv} {sa : Option Addr} {s sc : Nat} {ys : List Sa} {w w' : World} (h : RBody B b A P f v sa s sc ys w) (hD : DropP b 3 f d v.it.length P P' w w') (hd : d ≤ v.it.length) : RBody B b A P' (f + d) { v with it := v.it.drop d } sa s sc ys w' := by
  have hg := hD.grown
  have ct : ∀ j, (j < 3 ∨ 3 + 51 < j) → ∀ {u : Value}, w.cell? ⟨b, j, none⟩ = some u → w'.cell? ⟨b, j, none⟩ = some u := fun j hj u e => by rw [hD.cells j hj]; exact e
  have hl : (v.it.drop d).length = v.it.length - d := List.length_drop
  refine ⟨⟨Nat.lt_of_lt_of_le h.wst.lt hg.size, h.wst.ge, ct 0 (by omega) h.wst.c0, ct 1 (by omega) h.wst.c1, fun o => hD.rnd.fr o, ⟨rowG h.wst.rows.one hg (fun q e => by injection e with e; rw [← e]; exact h.wst.ne1), rowG h.wst.rows.two hg (fun q e => by injection e with e; rw [← e]; exact h.wst.ne2), h.wst.rows.ne⟩, h.wst.ne1, h.wst.ne2⟩, hD.rnd, ct 2 (by omega) h.c2, hD.fst, ?_, ct 56 (by omega) h.c56, ct 57 (by omega) h.c57, ct 58 (by omega) h.c58, ⟨rowG h.srow.sb hg (fun q e => by injection e with e; rw [← e]; exact h.nb.1), fun x hx => rowG (h.srow.fl x hx) hg (fun q e => by injection e with e; rw [← e]; exact h.nb.2 x hx), h.srow.fls, h.srow.apt⟩, h.sv, ?_, hD.short h.sh, ?_, ?_, h.nb, h.ap⟩
  · have := ct (3 + 52) (by omega) h.nxt
    rw [this]
    show some (Value.int .i64 ((f + v.it.length : Nat) : Int)) = some (.int .i64 ((f + d + (v.it.drop d).length : Nat) : Int))
    rw [hl, show f + d + (v.it.length - d) = f + v.it.length by omega]
  · show itemsP P' (f + d) (v.it.drop d).length = v.it.drop d
    have e := h.its
    refine List.ext_getElem (by rw [itemsP_len]) fun i h1 h2 => ?_
    rw [itemsP_len, hl] at h1
    have e2 : (v.it.drop d)[i]'h2 = (itemsP P f v.it.length)[d + i]'(by rw [itemsP_len]; omega) := by
      rw [List.getElem_drop]
      congr 1
      exact e.symm
    rw [e2]
    simp only [itemsP, List.getElem_map, List.getElem_range]
    rw [show f + d + i = f + (d + i) by omega]
    exact hD.same (d + i) (by omega) (by omega)
  · show v.se = ((f + d + (v.it.drop d).length : Nat) : Int)
    rw [hl, show f + d + (v.it.length - d) = f + v.it.length by omega]
    exact h.se
  · have := h.few
    show (v.it.drop d).length ≤ 17 ∧ f + d + (v.it.drop d).length ≤ 2000000000
    omega
end Go.Proofs.YtclfdfefimdjdaaGreat
namespace Go.Proofs.YtclfdfefimdjdaaGreat
open Go.RowKit Pl Il

theorem SRow.sub {B : Nat} {w : World} {a : Option Addr} {n c : Nat} {ys : List Sa} (h : SRow B w a n c ys) : SubAt w a n ys := by
  have hfl : ∀ x, x ∈ ys → OwnF B w x.a x.n x.s.fl := fun x hx => by
    obtain ⟨a1, c1, e1, _, h1⟩ := ownF_of (h.fl x hx) x.s.fl rfl (h.fls x hx)
    cases e1
    exact h1
  obtain ⟨hl, _, hr⟩ := rowS h.sb
  refine ⟨hl, fun x hx => (hfl x hx).tm, ?_⟩
  rcases hr with k | ⟨b, e, _, hlt, _, hc⟩
  · exact .inl k
  · exact .inr ⟨b, 0, e, hlt, hc⟩
set_option maxRecDepth 100000 in
set_option maxHeartbeats 4000000 in
theorem oldest_any (B b : Nat) (A : Na) (P : Nat → Tm) (f : Nat) (v : Rv) (sa : Option Addr) (s sc : Nat) (ys : List Sa) (w : World) (hR : RBody B b A P f v sa s sc ys w) (hs : s ≤ 2097152) (hse : 0 ≤ v.se ∧ v.se ≤ 1000000000) (hcp : 1 ≤ v.cp ∧ v.cp ≤ 16) :
    Calls Tryz.prog 120 #[.pointer (some ⟨b, 0, none⟩)] w fun e w' => e = .returned (.int .i64 (oldR v)) ∧ Below w.heap.size w w' := by
  have hH := hR.s
  have HC := hidOf (oldestOf_any ⟨none, 0, 0, sa, s, sc, ys, none, 0, 0, none, 0, 0⟩ v w.drew (hR.srow.keep (Below.refl _ _).drew).sub hR.sv hs hse hcp)
  simp only at HC
  clear hR hs hse hcp
  go_enter Tryz.func120, Tryz.ntmps120
  go_upto_region 1 with fail
  refine wp_region_noPanic ?_
  refine wp_region_held_drew (S := fun w' => RbS b A v sa s sc w') (by kernel_rfl) hH.drew (fun hHeld => ?_)
  refine wpAnyH_take (i := 0) (v := ?_) rfl (by kernel_rfl) (by kernel_rfl) (by kernel_rfl) (fun _ _ _ h => h) (Or.inl ⟨by rfl, ?_⟩) (by assumption) ?_
  case refine_2 => (intro w hSw; (try dsimp only at hSw); go_simp; try with_reducible rfl)
  simp only [Act.put, List.getElem_toArray, List.getElem_cons_zero, List.setIfInBounds_toArray, List.set_cons_zero, List.set_cons_succ]
  refine wpAnyH_take (i := 1) (v := ?_) rfl (by kernel_rfl) (by kernel_rfl) (by kernel_rfl) (fun _ _ _ h => h) (Or.inl ⟨by rfl, ?_⟩) (by assumption) ?_
  case refine_2 => (intro w hSw; (try dsimp only at hSw); go_simp; try with_reducible rfl)
  simp only [Act.put, List.getElem_toArray, List.getElem_cons_zero, List.getElem_cons_succ, List.setIfInBounds_toArray, List.set_cons_zero, List.set_cons_succ]
  refine wpAnyH_take (i := 2) (v := ?_) rfl (by kernel_rfl) (by kernel_rfl) (by kernel_rfl) (fun _ _ _ h => h) (Or.inl ⟨by rfl, ?_⟩) (by assumption) ?_
  case refine_2 => (intro w hSw; (try dsimp only at hSw); go_simp; try with_reducible rfl)
  simp only [Act.put, List.getElem_toArray, List.getElem_cons_zero, List.getElem_cons_succ, List.setIfInBounds_toArray, List.set_cons_zero, List.set_cons_succ]
  refine wpAnyH_take (i := 3) (v := ?_) rfl (by kernel_rfl) (by kernel_rfl) (by kernel_rfl) (fun _ _ _ h => h) (Or.inl ⟨by rfl, ?_⟩) (by assumption) ?_
  case refine_2 => (intro w hSw; (try dsimp only at hSw); go_simp; try with_reducible rfl)
  simp only [Act.put, List.getElem_toArray, List.getElem_cons_zero, List.getElem_cons_succ, List.setIfInBounds_toArray, List.set_cons_zero, List.set_cons_succ]
  refine wpAnyH_take (i := 4) (v := ?_) rfl (by kernel_rfl) (by kernel_rfl) (by kernel_rfl) (fun _ _ _ h => h) (Or.inl ⟨by rfl, ?_⟩) (by assumption) ?_
  case refine_2 => (intro w hSw; (try dsimp only at hSw); go_simp; try with_reducible rfl)
  simp only [Act.put, List.getElem_toArray, List.getElem_cons_zero, List.getElem_cons_succ, List.setIfInBounds_toArray, List.set_cons_zero, List.set_cons_succ]
  refine wpAnyH_take (i := 5) (v := ?_) rfl (by kernel_rfl) (by kernel_rfl) (by kernel_rfl) (fun _ _ _ h => h) (Or.inl ⟨by rfl, ?_⟩) (by assumption) ?_
  case refine_2 => (intro w hSw; (try dsimp only at hSw); go_simp; try with_reducible rfl)
  simp only [Act.put, List.getElem_toArray, List.getElem_cons_zero, List.getElem_cons_succ, List.setIfInBounds_toArray, List.set_cons_zero, List.set_cons_succ]
  refine wpAnyH_take (i := 6) (v := ?_) rfl (by kernel_rfl) (by kernel_rfl) (by kernel_rfl) (fun _ _ _ h => h) (Or.inl ⟨by rfl, ?_⟩) (by assumption) ?_
  case refine_2 => (intro w hSw; (try dsimp only at hSw); go_simp; try with_reducible rfl)
  simp only [Act.put, List.getElem_toArray, List.getElem_cons_zero, List.getElem_cons_succ, List.setIfInBounds_toArray, List.set_cons_zero, List.set_cons_succ]
  refine wpAnyH_take (i := 7) (v := ?_) rfl (by kernel_rfl) (by kernel_rfl) (by kernel_rfl) (fun _ _ _ h => h) (Or.inl ⟨by rfl, ?_⟩) (by assumption) ?_
  case refine_2 => (intro w hSw; (try dsimp only at hSw); go_simp; try with_reducible rfl)
  simp only [Act.put, List.getElem_toArray, List.getElem_cons_zero, List.getElem_cons_succ, List.setIfInBounds_toArray, List.set_cons_zero, List.set_cons_succ]
  refine wpAnyH_take (i := 8) (v := ?_) rfl (by kernel_rfl) (by kernel_rfl) (by kernel_rfl) (fun _ _ _ h => h) (Or.inl ⟨by rfl, ?_⟩) (by assumption) ?_
  case refine_2 => (intro w hSw; (try dsimp only at hSw); go_simp; try with_reducible rfl)
  simp only [Act.put, List.getElem_toArray, List.getElem_cons_zero, List.getElem_cons_succ, List.setIfInBounds_toArray, List.set_cons_zero, List.set_cons_succ]
  refine wpAnyH_take (i := 9) (v := ?_) rfl (by kernel_rfl) (by kernel_rfl) (by kernel_rfl) (fun _ _ _ h => h) (Or.inl ⟨by rfl, ?_⟩) (by assumption) ?_
  case refine_2 => (intro w hSw; (try dsimp only at hSw); go_simp; try with_reducible rfl)
  simp only [Act.put, List.getElem_toArray, List.getElem_cons_zero, List.getElem_cons_succ, List.setIfInBounds_toArray, List.set_cons_zero, List.set_cons_succ]
  refine wpAnyH_take (i := 10) (v := ?_) rfl (by kernel_rfl) (by kernel_rfl) (by kernel_rfl) (fun _ _ _ h => h) (Or.inl ⟨by rfl, ?_⟩) (by assumption) ?_
  case refine_2 => (intro w hSw; (try dsimp only at hSw); go_simp; try with_reducible rfl)
  simp only [Act.put, List.getElem_toArray, List.getElem_cons_zero, List.getElem_cons_succ, List.setIfInBounds_toArray, List.set_cons_zero, List.set_cons_succ]
  refine wpAnyH_take (i := 11) (v := ?_) rfl (by kernel_rfl) (by kernel_rfl) (by kernel_rfl) (fun _ _ _ h => h) (Or.inl ⟨by rfl, ?_⟩) (by assumption) ?_
  case refine_2 => (intro w hSw; (try dsimp only at hSw); go_simp; try with_reducible rfl)
  simp only [Act.put, List.getElem_toArray, List.getElem_cons_zero, List.getElem_cons_succ, List.setIfInBounds_toArray, List.set_cons_zero, List.set_cons_succ]
  refine wpAnyH_take (i := 12) (v := ?_) rfl (by kernel_rfl) (by kernel_rfl) (by kernel_rfl) (fun _ _ _ h => h) (Or.inl ⟨by rfl, ?_⟩) (by assumption) ?_
  case refine_2 => (intro w hSw; (try dsimp only at hSw); go_simp; try with_reducible rfl)
  simp only [Act.put, List.getElem_toArray, List.getElem_cons_zero, List.getElem_cons_succ, List.setIfInBounds_toArray, List.set_cons_zero, List.set_cons_succ]
  refine wpAnyH_ready (rs := [13]) (by kernel_rfl) (by simp) ?_
  refine AllReadyH.cons rfl (fun K hK => ?_) AllReadyH.nil
  go_simp
  refine (HC.out).mono ?_
  rintro e w5 ⟨rfl, hb5⟩
  go_wp2_with fail
  have hS5 := RbS.keep hHeld hb5
  refine hK.out _ _ hS5 (fun hHeld => ?_)
  clear hK K
  refine wpAnyH_take (i := 14) (v := ?_) rfl (by kernel_rfl) (by kernel_rfl) (by kernel_rfl) (fun _ _ _ h => h) (Or.inl ⟨by rfl, ?_⟩) (by assumption) ?_
  case refine_2 => (intro w hSw; (try dsimp only at hSw); go_simp; try with_reducible rfl)
  simp only [Act.put, List.getElem_toArray, List.getElem_cons_zero, List.getElem_cons_succ, List.setIfInBounds_toArray, List.set_cons_zero, List.set_cons_succ]
  refine wpAnyH_done (by kernel_rfl) ?_ _
  refine NoPanic.normal ?_
  go_wp2_with fail
  go_ret
  exact ⟨rfl, bl_trans (Below.refl _ _).drew hb5⟩
/-- What is older than the oldest has gone. -/
def DropD (B b : Nat) (A : Na) (f d : Nat) (v : Rv) (sa : Option Addr) (s sc : Nat) (ys : List Sa) (w : World) (e : Ending) (w' : World) : Prop := e = .returned (.tuple #[]) ∧ ∃ P', RBody B b A P' (f + d) { v with it := v.it.drop d } sa s sc ys w' ∧ w.grownBy w' (some b)
set_option maxRecDepth 100000 in
set_option maxHeartbeats 4000000 in
theorem dropOld_any (B b : Nat) (A : Na) (P : Nat → Tm) (f : Nat) (v : Rv) (sa : Option Addr) (s sc : Nat) (ys : List Sa) (w : World) (hR : RBody B b A P f v sa s sc ys w) (hs : s ≤ 2097152) (hse : 0 ≤ v.se ∧ v.se ≤ 1000000000) (hcp : 1 ≤ v.cp ∧ v.cp ≤ 16) (d : Nat) (hd : d ≤ v.it.length) (ho : oldR v = ((f + d : Nat) : Int)) :
    Calls Tryz.prog 136 #[.pointer (some ⟨b, 0, none⟩)] w fun e w' => DropD B b A f d v sa s sc ys w e w' := by
  have HRd := hidOf (hR.keep (Below.refl _ _).drew)
  have HR := hidOf hR
  have HC := hidOf (oldest_any B b A P f v sa s sc ys w.drew HRd.out hs hse hcp)
  have HO := hidOf ho.symm
  clear hR hs hse hcp ho
  generalize hov : oldR v = ov at *
  have HOv := hidOf hov
  clear hov
  go_enter Tryz.func136, Tryz.ntmps136
  go_upto_region 0 with fail
  refine wp_region_noPanic ?_
  refine wp_region_held_drew (S := fun _ => True) (by kernel_rfl) True.intro (fun hHeld => ?_)
  refine wpAnyH_take (i := 0) (v := ?_) rfl (by kernel_rfl) (by kernel_rfl) (by kernel_rfl) (fun _ _ _ h => h) (Or.inl ⟨by rfl, ?_⟩) (by assumption) ?_
  case refine_2 => (intro w hSw; (try dsimp only at hSw); go_simp; try with_reducible rfl)
  simp only [Act.put, List.getElem_toArray, List.getElem_cons_zero, List.setIfInBounds_toArray, List.set_cons_zero, List.set_cons_succ]
  refine wpAnyH_take (i := 1) (v := ?_) rfl (by kernel_rfl) (by kernel_rfl) (by kernel_rfl) (fun _ _ _ h => h) (Or.inl ⟨by rfl, ?_⟩) (by assumption) ?_
  case refine_2 => (intro w hSw; (try dsimp only at hSw); go_simp; try with_reducible rfl)
  simp only [Act.put, List.getElem_toArray, List.getElem_cons_zero, List.getElem_cons_succ, List.setIfInBounds_toArray, List.set_cons_zero, List.set_cons_succ]
  refine wpAnyH_take (i := 2) (v := ?_) rfl (by kernel_rfl) (by kernel_rfl) (by kernel_rfl) (fun _ _ _ h => h) (Or.inl ⟨by rfl, ?_⟩) (by assumption) ?_
  case refine_2 => (intro w hSw; (try dsimp only at hSw); go_simp; try with_reducible rfl)
  simp only [Act.put, List.getElem_toArray, List.getElem_cons_zero, List.getElem_cons_succ, List.setIfInBounds_toArray, List.set_cons_zero, List.set_cons_succ]
  refine wpAnyH_take (i := 3) (v := ?_) rfl (by kernel_rfl) (by kernel_rfl) (by kernel_rfl) (fun _ _ _ h => h) (Or.inl ⟨by rfl, ?_⟩) (by assumption) ?_
  case refine_2 => (intro w hSw; (try dsimp only at hSw); go_simp; try with_reducible rfl)
  simp only [Act.put, List.getElem_toArray, List.getElem_cons_zero, List.getElem_cons_succ, List.setIfInBounds_toArray, List.set_cons_zero, List.set_cons_succ]
  refine wpAnyH_ready (rs := [4]) (by kernel_rfl) (by simp) ?_
  refine AllReadyH.cons rfl (fun K hK => ?_) AllReadyH.nil
  go_simp
  refine (HC.out).mono ?_
  rintro e w5 ⟨rfl, hb5⟩
  go_wp2_with fail
  refine hK.out _ _ True.intro (fun hHeld => ?_)
  clear hK K
  have body5 := HRd.out.keep hb5
  have HD := hidOf (dropUpTo_any b 3 f d v.it.length P w5 body5.rnd body5.fst hd (by have := HR.out.few.1; omega) (by have := HR.out.few.2; omega))
  rw [HO.out] at HD
  refine wpAnyH_ready (rs := [5]) (by kernel_rfl) (by simp) ?_
  refine AllReadyH.cons rfl (fun K hK => ?_) AllReadyH.nil
  go_simp
  refine (HD.out).mono ?_
  rintro e w6 ⟨rfl, P', hD6⟩
  go_wp2_with fail
  refine hK.out _ _ True.intro (fun hHeld => ?_)
  clear hK K
  refine wpAnyH_done (by kernel_rfl) ?_ _
  refine NoPanic.normal ?_
  go_wp2_with fail
  go_end0
  have bd : Below w.heap.size w w5 := bl_trans (Below.refl _ _).drew hb5
  exact ⟨rfl, P', body5.drop hD6 hd, (grown_of bd).trans hD6.grown⟩
end Go.Proofs.YtclfdfefimdjdaaGreat
