/-
  The program's RingOk.
  The program's Unwait.
  The plain mathematics of skipping: who skips, what is lost, what goes.
  The program's round of messages: those of the first numbers are let go, their places cleared.
  The program's round of messages: dropUpTo.
  The program's ring: its oldest, and what is let go.
  The program's ring: its oldest, and what is let go.
  The program's ring: a body to read, and its subscriber.
  The program's TopicsOk, TopicAt: a name's place; which lists are right.
-/
import Derived.Test.YtffpecdjfcgadaaGreatDoorZTm35
import Derived.Test.YtffpecdjfcgadaaGreatDoorZTm24
import Derived.Test.YtffpecdjfcgadaaGreatDoorZTm31
import Derived.Test.YtffpecdjfcgadaaGreatDoorZTm29
import Derived.Test.YtffpecdjfcgadaaGreatDoorZTm26
import Derived.Test.YtffpecdjfcgadaaGreatDoorZTm33
import Derived.Deep.RegionHeld3
import Derived.Test.YtffpecdjfcgadaaGreatDoorZTm22
namespace Go.Proofs.YtffpecdjfcgadaaGreatDoor
open Go.RowKit Pl Il

set_option maxRecDepth 100000 in
set_option maxHeartbeats 8000000 in
theorem implRingOk_any : ImplRingOk (okR restR) := by
  intro M v w hI hm _ hw
  rw [← okI_eq]
  obtain ⟨W0, hW0⟩ : ∃ W, W = w.alloc (.cells #[.int .i64 v.cp, .int .i64 v.se, .slice M.ia M.i M.ic, .int .i64 v.nx, .slice M.sa M.s M.sc, .slice M.la M.l M.lc, .slice M.ga M.g M.gc, .bool v.cl] 53) := ⟨_, rfl⟩
  have hX : RHold w M v W0 := by
    have b0 : Below w.heap.size w W0 := by rw [hW0]; exact bl_alloc (Below.refl _ _) _
    exact ⟨by rw [hW0]; exact BoxL.new w (rC M v) _, hI.keep b0, b0⟩
  have hm2 := hm.mono (k' := 2097152) (by omega)
  obtain ⟨q, hq⟩ : ∃ q, okI v = q := ⟨_, rfl⟩
  rw [hq]
  have HQ := hidOf (show (headI v && (subsI v && (itemsI v && waitI v))) = q by rw [← hq]; rfl)
  have p0 := hX.box.cs 0 (by simp)
  have p1 := hX.box.cs 1 (by simp)
  have p3 := hX.box.cs 3 (by simp)
  simp at p0 p1 p3
  have HX := hidOf hX
  have HM := hidOf hm
  have HM2 := hidOf hm2
  have HW := hidOf hw
  clear hI hm hX hq hw hm2
  go_enter Tryz.func36, Tryz.ntmps36
  go_upto_region 1 with fail
  rw [← hW0]
  clear hW0
  by_cases h0 : v.cp < 1
  · have HV := hidOf (show q = false by rw [← HQ.out, show headI v = false from decide_eq_false (by omega)]; rfl)
    go_wp2
    go_ret
    rw [HV.out]
    exact ⟨rfl, HX.out.below⟩
  by_cases h1 : 16 < v.cp
  · have HV := hidOf (show q = false by rw [← HQ.out, show headI v = false from decide_eq_false (by omega)]; rfl)
    go_wp2
    go_ret
    rw [HV.out]
    exact ⟨rfl, HX.out.below⟩
  by_cases h2 : v.se < 0
  · have HV := hidOf (show q = false by rw [← HQ.out, show headI v = false from decide_eq_false (by omega)]; rfl)
    go_wp2
    go_ret
    rw [HV.out]
    exact ⟨rfl, HX.out.below⟩
  by_cases h3 : 1000000000 < v.se
  · have HV := hidOf (show q = false by rw [← HQ.out, show headI v = false from decide_eq_false (by omega)]; rfl)
    go_wp2
    go_ret
    rw [HV.out]
    exact ⟨rfl, HX.out.below⟩
  have hC : 1 ≤ v.cp ∧ v.cp ≤ 16 := by omega
  have hS : 0 ≤ v.se ∧ v.se ≤ 1000000000 := by omega
  have HCC := hidOf hC
  have HSS := hidOf hS
  clear hC hS
  cases hn : cnt v.nx
  · have HV := hidOf (show q = false by
      rw [← HQ.out, show headI v = false from decide_eq_false (by simp only [cnt, Bool.and_eq_false_iff, decide_eq_false_iff_not] at hn; omega)]
      rfl)
    go_wp2_with (go_at_call 57; refine (isCount_any _ _).mono ?_; rintro e w' ⟨rfl, rfl⟩; rw [hn])
    go_ret
    rw [HV.out]
    exact ⟨rfl, HX.out.below⟩
  have HNx := hidOf (show 0 ≤ v.nx ∧ v.nx ≤ 1000000000 by simpa [cnt] using hn)
  have HQ2 := hidOf (show (subsI v && (itemsI v && waitI v)) = q by
    have h1 := HCC.out
    have h2 := HSS.out
    have h3 := HNx.out
    rw [← HQ.out, show headI v = true from decide_eq_true (by omega)]
    rfl)
  have H1 := hidOf (fun (u : World) (hu : RHold w M v u) => subsOk_any M v u hu.rin HM2.out HSS.out HNx.out)
  have H2 := hidOf (fun (u : World) (hu : RHold w M v u) => itemsOk_any M v u hu.rin HM2.out HSS.out HCC.out)
  have H3 := hidOf (fun (u : World) (hu : RHold w M v u) => ringWaitersOk_any M v u hu.rin HM.out HW.out)
  go_upto_region 3 with (go_at_call 57; refine (isCount_any _ _).mono ?_; rintro e w' ⟨rfl, rfl⟩; rw [hn])
  have hX := HX.out
  have c2 := hX.box.cs 2 (by simp)
  have c4 := hX.box.cs 4 (by simp)
  have c5 := hX.box.cs 5 (by simp)
  have c6 := hX.box.cs 6 (by simp)
  have c7 := hX.box.cs 7 (by simp)
  simp at c2 c4 c5 c6 c7
  clear hX hn HQ HNx HSS HCC h0 h1 h2 h3
  go_wp2_with fail
  refine (H1.out _ HX.out).mono ?_
  rintro e w5 ⟨rfl, hb5⟩
  have hX := HX.out.keep hb5
  clear hb5 HX p0 p1 p3 c2 c4 c5 c6 c7
  obtain ⟨s, hs⟩ : ∃ s, subsI v = s := ⟨_, rfl⟩
  rw [hs]
  rw [hs] at HQ2
  clear hs
  cases s
  · have HX := hidOf hX
    clear hX
    go_wp2
    go_ret
    rw [← HQ2.out]
    exact ⟨rfl, HX.out.below⟩
  have p0 := hX.box.cs 0 (by simp)
  have p1 := hX.box.cs 1 (by simp)
  have p2 := hX.box.cs 2 (by simp)
  have p3 := hX.box.cs 3 (by simp)
  have p4 := hX.box.cs 4 (by simp)
  have p5 := hX.box.cs 5 (by simp)
  have p6 := hX.box.cs 6 (by simp)
  have p7 := hX.box.cs 7 (by simp)
  simp at p0 p1 p2 p3 p4 p5 p6 p7
  have HX := hidOf hX
  clear hX
  go_wp2_with fail
  refine (H2.out _ HX.out).mono ?_
  rintro e w6 ⟨rfl, hb6⟩
  have hX := HX.out.keep hb6
  clear hb6 HX p0 p1 p2 p3 p4 p5 p6 p7
  obtain ⟨s, hs⟩ : ∃ s, itemsI v = s := ⟨_, rfl⟩
  rw [hs]
  rw [hs] at HQ2
  clear hs
  cases s
  · have HX := hidOf hX
    clear hX
    go_wp2
    go_ret
    rw [← HQ2.out]
    exact ⟨rfl, HX.out.below⟩
  have p0 := hX.box.cs 0 (by simp)
  have p1 := hX.box.cs 1 (by simp)
  have p2 := hX.box.cs 2 (by simp)
  have p3 := hX.box.cs 3 (by simp)
  have p4 := hX.box.cs 4 (by simp)
  have p5 := hX.box.cs 5 (by simp)
  have p6 := hX.box.cs 6 (by simp)
  have p7 := hX.box.cs 7 (by simp)
  simp at p0 p1 p2 p3 p4 p5 p6 p7
  have HX := hidOf hX
  clear hX
  go_wp2_with fail
  refine (H3.out _ HX.out).mono ?_
  rintro e w7 ⟨rfl, hb7⟩
  have HX7 := hidOf (HX.out.keep hb7)
  clear hb7 HX p0 p1 p2 p3 p4 p5 p6 p7
  go_wp2
  go_ret
  rw [← HQ2.out]
  exact ⟨rfl, HX7.out.below⟩
end Go.Proofs.YtffpecdjfcgadaaGreatDoor
namespace Go.Proofs.YtffpecdjfcgadaaGreatDoor
open Go.RowKit Go.Maps Pl Il

theorem RBody.quit {B b : Nat} {A A' : Na} {P : Nat → Tm} {f : Nat} {v : Rv} {sa : Option Addr} {s sc : Nat} {ys : List Sa} {w w' : World} (id : Int) (h : RBody B b A P f v sa s sc ys w) (hW : WSt B b A' (lessL v.ln id) (lessL v.gs id) w') (hT : WTo B b w w') (ht : TurnB b w w' ∧ Shp b w w') (hA : A' = A ∨ NewA A' w.heap.size) : RBody B b A' P f (goneR v id) sa s sc ys w' where
  wst := hW
  rnd := by
    refine ⟨?_, fun j hj => ?_⟩
    · obtain ⟨cur, t, hg, hs⟩ := h.rnd.blk
      obtain ⟨cur', hg', hs'⟩ := ht.2 cur t hg
      exact ⟨cur', t, hg', by omega⟩
    · obtain ⟨h1, h2, h3⟩ := h.rnd.pl j hj
      exact ⟨by rw [hT.cells _ (by omega)]; exact h1, by rw [hT.cells _ (by omega)]; exact h2, by rw [hT.cells _ (by omega)]; exact h3⟩
  c2 := by rw [hT.cells _ (by omega)]; exact h.c2
  fst := by rw [hT.cells _ (by omega)]; exact h.fst
  nxt := by rw [hT.cells _ (by omega)]; exact h.nxt
  c56 := by rw [hT.cells _ (by omega)]; exact h.c56
  c57 := by rw [hT.cells _ (by omega)]; exact h.c57
  c58 := by rw [hT.cells _ (by omega)]; exact h.c58
  srow := ⟨rowTurn h.srow.sb ht.1 h.nb.1, fun x hx => rowTurn (h.srow.fl x hx) ht.1 (h.nb.2 x hx), h.srow.fls, h.srow.apt⟩
  sv := h.sv
  its := h.its
  sh := h.sh
  se := h.se
  few := h.few
  nb := h.nb
  ap := fun q hq => by
    rcases hA with rfl | hN
    · exact h.ap q hq
    · have hge : w.heap.size ≤ q := hq.elim (hN.1 q) (hN.2 q)
      exact ⟨fun e => by have := (row_lt h.srow.sb e).2; omega, fun x hx e => by have := (row_lt (h.srow.fl x hx) e).2; omega⟩
theorem ok_first {v : Rv} (h : okR restR v = true) : ∃ f : Nat, v.se = ((f + v.it.length : Nat) : Int) ∧ v.it.length ≤ 16 ∧ f + v.it.length ≤ 1000000000 := by
  have h0 := h
  simp only [okR, headR, lenR, Bool.and_eq_true, decide_eq_true_eq] at h0
  obtain ⟨⟨⟨⟨⟨hcp, hse⟩, _⟩, _⟩, h16⟩, _, ⟨hlen, _⟩, _⟩ := h0
  have := oldR_bd hse.1 hcp.1
  exact ⟨(oldR v).toNat, by omega, h16, by omega⟩
theorem ok_nodup {v : Rv} (h : okR restR v = true) : v.ln.Nodup ∧ v.gs.Nodup := by
  rw [← okI_eq] at h
  simp only [okI, waitI, Bool.and_eq_true, decide_eq_true_eq] at h
  have := dist_nodup h.2.2.2.2.2.2
  rw [List.nodup_append] at this
  exact ⟨this.1, this.2.1⟩
theorem turn_has (ln gs : List Int) (id : Int) : (if turnL ln gs id = 3 then (3 : Int) else 0) = if (hasL ln id || hasL gs id) = true then 0 else 3 := by
  rcases turn_cases ln gs id with ⟨h0, h1⟩ | ⟨h0, h1, h2⟩ | ⟨h0, h1, h2⟩
  · rw [h0, h1]; rfl
  · rw [h0, h1, h2]; rfl
  · rw [h0, h1, h2]; rfl
theorem gone_none {v : Rv} {id : Int} (h : ¬ (hasL v.ln id || hasL v.gs id) = true) : goneR v id = v := by
  simp only [Bool.or_eq_true, not_or, Bool.not_eq_true] at h
  have e1 : lessL v.ln id = v.ln := List.erase_of_not_mem (by simpa [hasL] using h.1)
  have e2 : lessL v.gs id = v.gs := List.erase_of_not_mem (by simpa [hasL] using h.2)
  unfold goneR
  rw [e1, e2]
end Go.Proofs.YtffpecdjfcgadaaGreatDoor
namespace Go.Proofs.YtffpecdjfcgadaaGreatDoor
open Go.RowKit Go.Maps Pl Il

abbrev Sb0 : Sb := ⟨0, 0, 0, 0, 0, 0, []⟩
theorem least_iff : ∀ (sb : List Sb) (m x : Int), x ≤ leastR m sb ↔ x ≤ m ∧ ∀ s, s ∈ sb → x ≤ s.cu
  | [], m, x => by simp [leastR]
  | s :: sb, m, x => by
    have e : leastR m (s :: sb) = leastR (if s.cu < m then s.cu else m) sb := rfl
    rw [e, least_iff sb]
    simp only [List.mem_cons, forall_eq_or_imp]
    constructor
    · rintro ⟨h1, h2⟩
      split at h1
      · exact ⟨by omega, h1, h2⟩
      · exact ⟨h1, by omega, h2⟩
    · rintro ⟨h1, h2, h3⟩
      refine ⟨?_, h3⟩
      split
      · exact h2
      · exact h1
theorem old_mono {v v' : Rv} (hs : v'.se = v.se) (hc : v'.cp = v.cp) (h : leastR v.se v.sb ≤ leastR v.se v'.sb) : oldR v ≤ oldR v' := by
  unfold oldR
  simp only [hs, hc]
  repeat' split
  all_goals omega
theorem putV_len (sb : List Sb) (k r : Nat) (z : Int) : (putV sb k r z).length = sb.length := by simp [putV]
theorem putV_get {sb : List Sb} {k r : Nat} {z : Int} (hk : k < sb.length) : (putV sb k r z).getD k Sb0 = subPut (sb.getD k Sb0) r z := by
  unfold putV
  rw [List.getD, List.getElem?_set, if_pos rfl, if_pos hk, Option.getD_some]
theorem putV_mem {sb : List Sb} {k r : Nat} {z : Int} {s : Sb} (h : s ∈ putV sb k r z) : s ∈ sb ∨ s = subPut (sb.getD k Sb0) r z := List.mem_or_eq_of_mem_set h
/-- What is lost of what is skipped. -/
def goneS (v : Rv) (s : Sb) (num : Int) : Int := if (if num < v.se - v.cp then num else v.se - v.cp) - s.cu < 0 then 0 else (if num < v.se - v.cp then num else v.se - v.cp) - s.cu
def skipV (v : Rv) (k : Nat) (num : Int) : Rv :=
  { v with sb := putV (putV (putV v.sb k 4 ((v.sb.getD k Sb0).lo + goneS v (v.sb.getD k Sb0) num)) k 5 ((v.sb.getD k Sb0).pa + (num - (v.sb.getD k Sb0).cu - goneS v (v.sb.getD k Sb0) num))) k 2 num }
theorem skip_mem {v : Rv} {k : Nat} {num : Int} (hk : k < v.sb.length) {s : Sb} (h : s ∈ (skipV v k num).sb) : s ∈ v.sb ∨ s.cu = num ∨ s.cu = (v.sb.getD k Sb0).cu := by
  have hgk : v.sb.getD k Sb0 ∈ v.sb := by
    rw [List.getD, List.getElem?_eq_getElem hk, Option.getD_some]; exact List.getElem_mem _
  rcases putV_mem h with h | h
  · rcases putV_mem h with h | h
    · rcases putV_mem h with h | h
      · exact .inl h
      · exact .inr (.inr (by rw [h]; rfl))
    · right; right
      rw [h, putV_get hk]
      rfl
  · exact .inr (.inl (by rw [h]; rfl))
theorem skip_old {v : Rv} {k : Nat} {num : Int} (hk : k < v.sb.length) (hn : (v.sb.getD k Sb0).cu ≤ num) : oldR v ≤ oldR (skipV v k num) := by
  refine old_mono rfl rfl ?_
  rw [least_iff]
  have hgk : v.sb.getD k Sb0 ∈ v.sb := by
    rw [List.getD, List.getElem?_eq_getElem hk, Option.getD_some]; exact List.getElem_mem _
  have hl := (least_iff v.sb v.se (leastR v.se v.sb)).1 (Int.le_refl _)
  refine ⟨hl.1, fun s hs => ?_⟩
  rcases skip_mem hk hs with h | h | h
  · exact hl.2 s h
  · have := hl.2 _ hgk; omega
  · have := hl.2 _ hgk; omega
/-- What is known of a right ring. -/
theorem ok_head {v : Rv} (h : okR restR v = true) : (1 ≤ v.cp ∧ v.cp ≤ 16) ∧ (0 ≤ v.se ∧ v.se ≤ 1000000000) ∧ v.sb.length ≤ 12 ∧ v.it.length ≤ 16 ∧ (v.it.length : Int) = v.se - oldR v ∧ v.ln.length ≤ 12 ∧ v.gs.length ≤ 12 := by
  simp only [okR, headR, lenR, Bool.and_eq_true, decide_eq_true_eq] at h
  obtain ⟨⟨⟨⟨⟨hcp, hse⟩, _⟩, h12⟩, h16⟩, _, ⟨hlen, hw, _⟩, _⟩ := h
  exact ⟨hcp, hse, h12, h16, hlen, by omega, by omega⟩
theorem ok_sub {v : Rv} (h : okR restR v = true) {k : Nat} (hk : k < v.sb.length) : subR v (v.sb.getD k Sb0) = true := by
  simp only [okR, Bool.and_eq_true] at h
  have h1 := h.2.1
  unfold subsTo at h1
  rw [List.all_eq_true] at h1
  have := h1 k (List.mem_range.2 hk)
  simp only [Bool.and_eq_true] at this
  exact this.1
theorem ok_nums {v : Rv} (h : okR restR v = true) {k : Nat} (hk : k < v.sb.length) : 0 ≤ (v.sb.getD k Sb0).cu ∧ (v.sb.getD k Sb0).cu ≤ v.se ∧ 0 ≤ (v.sb.getD k Sb0).gt ∧ (v.sb.getD k Sb0).gt ≤ 1000000000 ∧ 0 ≤ (v.sb.getD k Sb0).lo ∧ (v.sb.getD k Sb0).lo ≤ 1000000000 ∧ 0 ≤ (v.sb.getD k Sb0).pa ∧ (v.sb.getD k Sb0).pa ≤ 1000000000 := by
  have h1 := ok_sub h hk
  have h2 := (ok_head h).2.1
  simp only [subR, subHead, subSums, Bool.and_eq_true, decide_eq_true_eq] at h1
  omega
/-- The first number of a right ring. -/
theorem ok_fst {v : Rv} (h : okR restR v = true) : ∃ f : Nat, oldR v = (f : Int) ∧ v.se = ((f + v.it.length : Nat) : Int) ∧ v.it.length ≤ 16 ∧ f + v.it.length ≤ 1000000000 := by
  obtain ⟨hcp, hse, _, h16, hlen, _⟩ := ok_head h
  have := oldR_bd (v := v) hse.1 hcp.1
  exact ⟨(oldR v).toNat, by omega, by omega, h16, by omega⟩
/-- How many go. -/
theorem skip_first {v : Rv} (h : okR restR v = true) {k : Nat} {num : Int} (hk : k < v.sb.length) (hn : (v.sb.getD k Sb0).cu ≤ num) {f : Nat} (hf : v.se = ((f + v.it.length : Nat) : Int)) : ∃ d : Nat, d ≤ v.it.length ∧ oldR (skipV v k num) = ((f + d : Nat) : Int) ∧ trimR (skipV v k num) = { skipV v k num with it := v.it.drop d } := by
  obtain ⟨hcp, hse, _, h16, hlen, _⟩ := ok_head h
  have h1 := skip_old hk hn
  have h2 := oldR_bd (v := skipV v k num) hse.1 hcp.1
  have e1 : (skipV v k num).se = v.se := rfl
  have e2 : (skipV v k num).it = v.it := rfl
  rw [e1] at h2
  obtain ⟨d, hd⟩ : ∃ d : Nat, oldR (skipV v k num) = ((f + d : Nat) : Int) := ⟨(oldR (skipV v k num) - f).toNat, by omega⟩
  refine ⟨d, by omega, hd, ?_⟩
  unfold trimR
  rw [e1, e2]
  by_cases h0 : d = 0
  · subst h0
    rw [if_neg (by omega), List.drop_zero]
    rfl
  · rw [if_pos (by omega), show v.it.length - (v.se - oldR (skipV v k num)).toNat = d by omega]
    first | done | rfl
/-- What SkipTo leaves, and its code. -/
def skipG (v : Rv) (id num : Int) : Rv := if okR restR v = true then (if atR v.sb id < 0 then v else if (hasL v.ln id || hasL v.gs id) = true then v else if num < (v.sb.getD (atR v.sb id).toNat Sb0).cu ∨ v.se < num then v else trimR (skipV v (atR v.sb id).toNat num)) else v
def skipC (v : Rv) (id num : Int) : Int := if okR restR v = true then (if atR v.sb id < 0 then 3 else if (hasL v.ln id || hasL v.gs id) = true then 5 else if num < (v.sb.getD (atR v.sb id).toNat Sb0).cu ∨ v.se < num then 6 else 0) else 1
def SkipDone (F : Nat) : Prop := ∀ (M : Rm) (v : Rv) (id num : Int) (w : World), RIn w M v → RLe M 1048576 → RCap M → RWf v → (Lit.int .i64 id).wf = true → (Lit.int .i64 num).wf = true →
  Calls Tryz.prog F #[.agg #[.int .i64 v.cp, .int .i64 v.se, .slice M.ia M.i M.ic, .int .i64 v.nx, .slice M.sa M.s M.sc, .slice M.la M.l M.lc, .slice M.ga M.g M.gc, .bool v.cl], .int .i64 id, .int .i64 num] w fun e w' => RgP w (skipG v id num) (skipC v id num) e w'
theorem at_lt {sb : List Sb} {id : Int} (h : ¬ atR sb id < 0) : (atR sb id).toNat < sb.length ∧ atR sb id = ((atR sb id).toNat : Int) := by
  unfold atR at h ⊢
  split
  · rename_i i hi
    rw [List.findIdx?_eq_some_iff_getElem] at hi
    obtain ⟨h1, _⟩ := hi
    exact ⟨by simpa using h1, by simp⟩
  · rename_i hi
    rw [hi] at h
    simp at h
end Go.Proofs.YtffpecdjfcgadaaGreatDoor
namespace Go.Proofs.YtffpecdjfcgadaaGreatDoor
open Go.RowKit Pl Il

def zTm : Tm := (0, 0, ⟨#[]⟩)
theorem zero_flat (n : Nat) : (Builtin.zeroCells (Value.agg #[.int .i64 0, .int .i64 0, .string ⟨#[]⟩]).cells n).toList = qflat (List.replicate n zTm) := by
  have hz : (Value.agg #[.int .i64 0, .int .i64 0, .string ⟨#[]⟩]).cells = #[.int .i64 0, .int .i64 0, .string ⟨#[]⟩] := rfl
  rw [hz]
  refine List.ext_getElem? fun i => ?_
  by_cases hi : i < n * 3
  · have h := qflat_at (List.replicate n zTm) (i / 3) (i % 3) (by simp; omega) (by omega)
    rw [show i / 3 * 3 + i % 3 = i by omega, qg_eq (by simp; omega), List.getElem_replicate] at h
    rw [h]
    rw [List.getElem?_eq_getElem (by simp [Builtin.zeroCells]; omega)]
    simp only [Builtin.zeroCells, Array.getElem_toList, Array.getElem_map, Array.getElem_range]
    have : i % 3 = 0 ∨ i % 3 = 1 ∨ i % 3 = 2 := by omega
    rcases this with e | e | e <;> simp [e, qC, zTm]
  · rw [List.getElem?_eq_none (by simp [Builtin.zeroCells]; omega), List.getElem?_eq_none (by rw [length_qflat]; simp; omega)]
/-- Messages are cleared. -/
theorem clear_msgs (w : World) (b d n c : Nat) (cur : Array Value) (t : TypeId) (hn : 0 < n) (hg : w.heap[b]? = some (.cells cur t (0, 0))) (hs : d + n * 3 ≤ cur.size) :
    ∃ w', (∀ ty, (Builtin.clear_ #[50] ty #[.slice (some ⟨b, d, none⟩) n c]).run Tryz.prog w = .ok (.tuple #[]) w') ∧ CpyP b d n (List.replicate n zTm) w w' := by
  have hzl : (qflat (List.replicate n zTm)).length = n * 3 := by rw [length_qflat]; simp
  have hst := run_storeCells_at Tryz.prog b d t (qflat (List.replicate n zTm)) 0 cur w hg (by rw [hzl]; omega) (one_qflat _)
  simp only [Nat.add_zero] at hst
  refine ⟨w.setRow b (cur.toList.take d ++ qflat (List.replicate n zTm) ++ cur.toList.drop (d + (qflat (List.replicate n zTm)).length)).toArray, ?_, ⟨fun cur2 t2 h2 => ?_, grown_setRow _ _ _, fun j => ?_⟩⟩
  · intro ty
    obtain ⟨m, rfl⟩ : ∃ m, n = m + 1 := ⟨n - 1, by omega⟩
    have hst2 := hst
    rw [← zero_flat] at hst2
    simp only [Builtin.clear_]
    simp [run_underlying Tryz.underlying50, hst2]
    rw [zero_flat, hzl, ← Array.length_toList, zero_flat, hzl]
  · rw [hg] at h2
    cases h2
    refine ⟨_, setRow_heap w b cur _ t _ hg, ?_⟩
    simp only [List.size_toArray, List.length_append, List.length_take, List.length_drop, Array.length_toList, hzl]
    omega
  · rw [cell_setRow_same w b j cur _ t _ hg]
    have h := seg_at (l := cur.toList) (cs := qflat (List.replicate n zTm)) (d := d) (j := j) (by rw [hzl, Array.length_toList]; omega)
    rw [List.getElem?_toArray, h, hzl]
    split
    · rfl
    · simp [World.cell?, hg]
theorem clear_none (w : World) (ty : TypeId) (a : Option Addr) (c : Nat) : (Builtin.clear_ #[50] ty #[.slice a 0 c]).run Tryz.prog w = .ok (.tuple #[]) w := by
  cases a <;> simp [Builtin.clear_, run_underlying Tryz.underlying50]
/-- The first d of the n messages from number f on are let go. -/
structure DropP (b o f d n : Nat) (P P' : Nat → Tm) (w w' : World) : Prop where
  rnd : RndB b o P' w'
  grown : w.grownBy w' (some b)
  cells : ∀ j, (j < o ∨ o + 51 < j) → w'.cell? ⟨b, j, none⟩ = w.cell? ⟨b, j, none⟩
  fst : w'.cell? ⟨b, o + 51, none⟩ = some (.int .i64 ((f + d : Nat) : Int))
  same : ∀ i, d ≤ i → i < n → P' ((f + i) % 17) = P ((f + i) % 17)
  short : (∀ j, (P j).2.2.size ≤ maxLen) → ∀ j, (P' j).2.2.size ≤ maxLen
end Go.Proofs.YtffpecdjfcgadaaGreatDoor
namespace Go.Proofs.YtffpecdjfcgadaaGreatDoor
open Go.RowKit Pl Il

theorem grown_of {w u : World} {b : Nat} (h : Below w.heap.size w u) : w.grownBy u (some b) := ⟨h.os, h.tape, h.output, h.size, fun k hk _ => h.block k hk⟩
theorem grown_set (w : World) (b p : Nat) (v : Value) : w.grownBy (w.setCell ⟨b, p, none⟩ v) (some b) := ⟨rfl, rfl, rfl, by simp, fun k _ hk => Below.heap_setCell _ _ _ _ (by rintro rfl; exact hk rfl)⟩
theorem qg_rep {n i : Nat} (h : i < n) : qg (List.replicate n zTm) i = zTm := by rw [qg_eq (by simpa using h), List.getElem_replicate]
/-- What stands in a place behind the clearing of k places from s on. -/
def clrP (P : Nat → Tm) (s k : Nat) (j : Nat) : Tm := if s ≤ j ∧ j < s + k then zTm else P j
theorem RndB.clear {b o s k : Nat} {P : Nat → Tm} {w w' : World} (h : RndB b o P w) (hc : CpyP b (o + s * 3) k (List.replicate k zTm) w w') : RndB b o (clrP P s k) w' :=
  (h.copied hc (by simp)).ext fun j _ => by
    unfold clrP
    split
    · rename_i h1; rw [qg_rep (by omega)]
    · rfl
theorem clr_short {P : Nat → Tm} {s k : Nat} (h : ∀ j, (P j).2.2.size ≤ maxLen) : ∀ j, (clrP P s k j).2.2.size ≤ maxLen := fun j => by
  unfold clrP
  split
  · exact Nat.zero_le _
  · exact h j
/-- The end of dropUpTo: the first number is written. -/
theorem DropP.mk' {b o f d n : Nat} {P P' : Nat → Tm} {w w1 w2 : World} (hb : Below w.heap.size w w1) (hlt : b < w.heap.size) (hR : RndB b o P' w2) (hg : w1.grownBy w2 (some b)) (hc : ∀ j, (j < o ∨ o + 51 ≤ j) → w2.cell? ⟨b, j, none⟩ = w1.cell? ⟨b, j, none⟩)
    (hs : ∀ i, d ≤ i → i < n → P' ((f + i) % 17) = P ((f + i) % 17)) (hsh : (∀ j, (P j).2.2.size ≤ maxLen) → ∀ j, (P' j).2.2.size ≤ maxLen) {u : Value} (h51 : w.cell? ⟨b, o + 51, none⟩ = some u) :
    DropP b o f d n P P' w (w2.setCell ⟨b, o + 51, none⟩ (.int .i64 ((f + d : Nat) : Int))) := by
  refine ⟨hR.set _ (Nat.le_refl _) _, World.grownBy.trans (grown_of hb) (World.grownBy.trans hg (grown_set _ _ _ _)), fun j hj => ?_, ?_, hs, hsh⟩
  · rw [World.cell?_setCell_other _ _ _ _ (by intro e; injection e with _ e2; omega), hc j (by omega), hb.cell (p := ⟨b, j, none⟩) hlt]
  · exact World.cell?_setCell_same _ _ _ (by rw [hc _ (by omega), hb.cell (p := ⟨b, o + 51, none⟩) hlt]; exact h51)
end Go.Proofs.YtffpecdjfcgadaaGreatDoor
namespace Go.Proofs.YtffpecdjfcgadaaGreatDoor
open Go.RowKit Pl Il

theorem RBody.drop {B b : Nat} {A : Na} {P P' : Nat → Tm} {f d : Nat} {v : Rv} {sa : Option Addr} {s sc : Nat} {ys : List Sa} {w w' : World} (h : RBody B b A P f v sa s sc ys w) (hD : DropP b 3 f d v.it.length P P' w w') (hd : d ≤ v.it.length) : RBody B b A P' (f + d) { v with it := v.it.drop d } sa s sc ys w' := by
  have hg := hD.grown
  have ct : ∀ j, (j < 3 ∨ 3 + 51 < j) → ∀ {u : Value}, w.cell? ⟨b, j, none⟩ = some u → w'.cell? ⟨b, j, none⟩ = some u := fun j hj u e => by rw [hD.cells j hj]; exact e
  have hl : (v.it.drop d).length = v.it.length - d := List.length_drop
  refine ⟨⟨Nat.lt_of_lt_of_le h.wst.lt hg.size, h.wst.ge, ct 0 (by omega) h.wst.c0, ct 1 (by omega) h.wst.c1, fun o => hD.rnd.fr o, ⟨rowG h.wst.rows.one hg (fun q e => by injection e with e; rw [← e]; exact h.wst.ne1), rowG h.wst.rows.two hg (fun q e => by injection e with e; rw [← e]; exact h.wst.ne2), h.wst.rows.ne⟩, h.wst.ne1, h.wst.ne2⟩, hD.rnd, ct 2 (by omega) h.c2, hD.fst, ?_, ct 56 (by omega) h.c56, ct 57 (by omega) h.c57, ct 58 (by omega) h.c58, ⟨rowG h.srow.sb hg (fun q e => by injection e with e; rw [← e]; exact h.nb.1), fun x hx => rowG (h.srow.fl x hx) hg (fun q e => by injection e with e; rw [← e]; exact h.nb.2 x hx), h.srow.fls, h.srow.apt⟩, h.sv, ?_, hD.short h.sh, ?_, ?_, h.nb, h.ap⟩
  · have := ct (3 + 52) (by omega) h.nxt
    rw [this]
    show some (Value.int .i64 ((f + v.it.length : Nat) : Int)) = some (.int .i64 ((f + d + (v.it.drop d).length : Nat) : Int))
    rw [hl, show f + d + (v.it.length - d) = f + v.it.length by omega]
  · show itemsP P' (f + d) (v.it.drop d).length = v.it.drop d
    have e := h.its
    refine List.ext_getElem (by rw [itemsP_len]) fun i h1 h2 => ?_
    rw [itemsP_len, hl] at h1
    have e2 : (v.it.drop d)[i]'h2 = (itemsP P f v.it.length)[d + i]'(by rw [itemsP_len]; omega) := by
      rw [List.getElem_drop]
      congr 1
      exact e.symm
    rw [e2]
    simp only [itemsP, List.getElem_map, List.getElem_range]
    rw [show f + d + i = f + (d + i) by omega]
    exact hD.same (d + i) (by omega) (by omega)
  · show v.se = ((f + d + (v.it.drop d).length : Nat) : Int)
    rw [hl, show f + d + (v.it.length - d) = f + v.it.length by omega]
    exact h.se
  · have := h.few
    show (v.it.drop d).length ≤ 17 ∧ f + d + (v.it.drop d).length ≤ 2000000000
    omega
end Go.Proofs.YtffpecdjfcgadaaGreatDoor
namespace Go.Proofs.YtffpecdjfcgadaaGreatDoor
open Go.RowKit Pl Il

theorem SRow.sub {B : Nat} {w : World} {a : Option Addr} {n c : Nat} {ys : List Sa} (h : SRow B w a n c ys) : SubAt w a n ys := by
  have hfl : ∀ x, x ∈ ys → OwnF B w x.a x.n x.s.fl := fun x hx => by
    obtain ⟨a1, c1, e1, _, h1⟩ := ownF_of (h.fl x hx) x.s.fl rfl (h.fls x hx)
    cases e1
    exact h1
  obtain ⟨hl, _, hr⟩ := rowS h.sb
  refine ⟨hl, fun x hx => (hfl x hx).tm, ?_⟩
  rcases hr with k | ⟨b, e, _, hlt, _, hc⟩
  · exact .inl k
  · exact .inr ⟨b, 0, e, hlt, hc⟩
/-- What is older than the oldest has gone. -/
def DropD (B b : Nat) (A : Na) (f d : Nat) (v : Rv) (sa : Option Addr) (s sc : Nat) (ys : List Sa) (w : World) (e : Ending) (w' : World) : Prop := e = .returned (.tuple #[]) ∧ ∃ P', RBody B b A P' (f + d) { v with it := v.it.drop d } sa s sc ys w' ∧ w.grownBy w' (some b)
end Go.Proofs.YtffpecdjfcgadaaGreatDoor
namespace Go.Proofs.YtffpecdjfcgadaaGreatDoor
open Go.RowKit Go.Maps Pl Il

/-- A subscriber's place in memory. -/
theorem RBody.sub_row {B b : Nat} {A : Na} {P : Nat → Tm} {f : Nat} {v : Rv} {sa : Option Addr} {s sc : Nat} {ys : List Sa} {w : World} (h : RBody B b A P f v sa s sc ys w) {k : Nat} (hk : k < v.sb.length) : ∃ g, sa = some ⟨g, 0, none⟩ ∧ s = ys.length ∧ k < ys.length := by
  have hl : ys.length = v.sb.length := by rw [← h.sv]; simp [svs]
  obtain ⟨h1, ⟨e, e0⟩ | ⟨g, cp, cur, e, _⟩⟩ := h.srow.sb
  · rw [e0, length_sflat] at h1; omega
  · injection e with e1
    exact ⟨g, e1, by rw [length_sflat] at h1; omega, by omega⟩
theorem RBody.mono {B B' b : Nat} {A : Na} {P : Nat → Tm} {f : Nat} {v : Rv} {sa : Option Addr} {s sc : Nat} {ys : List Sa} {w : World} (h : RBody B b A P f v sa s sc ys w) (hb : B' ≤ B) : RBody B' b A P f v sa s sc ys w :=
  ⟨⟨h.wst.lt, Nat.le_trans hb h.wst.ge, h.wst.c0, h.wst.c1, h.wst.fr, ⟨rowM h.wst.rows.one hb, rowM h.wst.rows.two hb, h.wst.rows.ne⟩, h.wst.ne1, h.wst.ne2⟩, h.rnd, h.c2, h.fst, h.nxt, h.c56, h.c57, h.c58, h.srow.mono hb, h.sv, h.its, h.sh, h.se, h.few, h.nb, h.ap⟩
/-- What bodyToRead hands back. -/
def BtrP (w : World) (M : Rm) (v : Rv) (id : Int) (e : Ending) (w' : World) : Prop :=
  (okR restR v = false ∧ e = .returned (.tuple #[.pointer none, .int .i64 1]) ∧ Below w.heap.size w w') ∨
  (okR restR v = true ∧ atR v.sb id < 0 ∧ e = .returned (.tuple #[.pointer none, .int .i64 3]) ∧ Below w.heap.size w w') ∨
  (okR restR v = true ∧ ¬ atR v.sb id < 0 ∧ (hasL v.ln id || hasL v.gs id) = true ∧ e = .returned (.tuple #[.pointer none, .int .i64 5]) ∧ Below w.heap.size w w') ∨
  (okR restR v = true ∧ ¬ atR v.sb id < 0 ∧ (hasL v.ln id || hasL v.gs id) = false ∧ ∃ (b : Nat) (A : Na) (P : Nat → Tm) (f : Nat) (sa : Option Addr) (sc : Nat) (ys : List Sa), e = .returned (.tuple #[.pointer (some ⟨b, 0, none⟩), .int .i64 0]) ∧ RBody w.heap.size b A P f v sa M.s sc ys w' ∧ A.n = M.l ∧ A.n' = M.g ∧ (∀ y, y ∈ ys → ∃ x, x ∈ M.xs ∧ y.n = x.n) ∧ Below w.heap.size w w')
set_option maxRecDepth 100000 in
set_option maxHeartbeats 8000000 in
theorem bodyToRead_any (M : Rm) (v : Rv) (id : Int) (w : World) (hI : RIn w M v) (hm1 : RLe M 1048576) (hcap : RCap M) (hw : RWf v) (hid : (Lit.int .i64 id).wf = true) :
    Calls Tryz.prog 40 #[.agg #[.int .i64 v.cp, .int .i64 v.se, .slice M.ia M.i M.ic, .int .i64 v.nx, .slice M.sa M.s M.sc, .slice M.la M.l M.lc, .slice M.ga M.g M.gc, .bool v.cl], .int .i64 id] w fun e w' => BtrP w M v id e w' := by
  have hm := hm1.mono (k' := 2097152) (by omega)
  obtain ⟨U0, hU0⟩ : ∃ W, W = w.alloc (.cells #[.int .i64 v.cp, .int .i64 v.se, .slice M.ia M.i M.ic, .int .i64 v.nx, .slice M.sa M.s M.sc, .slice M.la M.l M.lc, .slice M.ga M.g M.gc, .bool v.cl] 53) := ⟨_, rfl⟩
  have B0 : Below w.heap.size w U0 := by rw [hU0]; exact bl_alloc (Below.refl _ _) _
  have A0 : BoxL w.heap.size (rC M v) U0 := by rw [hU0]; exact BoxL.new w (rC M v) _
  have HK := hidOf (implRingOk_any M v U0 (hI.keep B0) hm1 hcap hw)
  have p0 := A0.cs 0 (by simp)
  have p1 := A0.cs 1 (by simp)
  have p2 := A0.cs 2 (by simp)
  have p3 := A0.cs 3 (by simp)
  have p4 := A0.cs 4 (by simp)
  have p5 := A0.cs 5 (by simp)
  have p6 := A0.cs 6 (by simp)
  have p7 := A0.cs 7 (by simp)
  simp at p0 p1 p2 p3 p4 p5 p6 p7
  have HI := hidOf hI
  have HM := hidOf hm
  have HW := hidOf hw
  have HCap := hidOf hcap
  have HId := hidOf hid
  obtain ⟨q, hq⟩ : ∃ q, okR restR v = q := ⟨_, rfl⟩
  rw [hq] at HK
  have HQ := hidOf hq
  clear hI hm hm1 hcap hw hid hq
  go_enter Tryz.func40, Tryz.ntmps40
  go_upto_region 1 with fail
  rw [← hU0]
  clear hU0
  go_wp2_with fail
  refine (HK.out).mono ?_
  rintro e w1 ⟨rfl, b1⟩
  have A1 := A0.keep b1
  have B1 := bl_trans B0 b1
  have hs1 : w.heap.size < w1.heap.size := A1.lt
  clear A0 p0 p1 p2 p3 p4 p5 p6 p7 B0 b1 HK
  cases q
  · go_wp2_with fail
    go_ret2
    exact .inl ⟨HQ.out, rfl, B1⟩
  have p0 := A1.cs 0 (by simp)
  have p1 := A1.cs 1 (by simp)
  have p2 := A1.cs 2 (by simp)
  have p3 := A1.cs 3 (by simp)
  have p4 := A1.cs 4 (by simp)
  have p5 := A1.cs 5 (by simp)
  have p6 := A1.cs 6 (by simp)
  have p7 := A1.cs 7 (by simp)
  simp at p0 p1 p2 p3 p4 p5 p6 p7
  have HPl := hidOf (placeOfSub_any M.sa M.s M.sc M.xs id w1 (HI.out.keep B1).sb HM.out.s)
  rw [HI.out.sv] at HPl
  obtain ⟨at', hat⟩ : ∃ a, atR v.sb id = a := ⟨_, rfl⟩
  rw [hat] at HPl
  have HAt := hidOf hat
  clear hat
  go_wp2_with fail
  refine (HPl.out).mono ?_
  rintro e w2 ⟨rfl, b2⟩
  have A2 := A1.keep b2
  have B2 := bl_trans B1 b2
  clear A1 B1 p0 p1 p2 p3 p4 p5 p6 p7 HPl
  by_cases hneg : at' < 0
  · go_wp2_with fail
    go_ret2
    exact .inr (.inl ⟨HQ.out, by rw [HAt.out]; exact hneg, rfl, B2⟩)
  have HNeg := hidOf hneg
  obtain ⟨f, hse, hi, hf⟩ := ok_first HQ.out
  have HC := hidOf (ringBodyOf_any M v w2 f (HI.out.keep B2) HM.out HCap.out hse hi hf)
  have p0 := A2.cs 0 (by simp)
  have p1 := A2.cs 1 (by simp)
  have p2 := A2.cs 2 (by simp)
  have p3 := A2.cs 3 (by simp)
  have p4 := A2.cs 4 (by simp)
  have p5 := A2.cs 5 (by simp)
  have p6 := A2.cs 6 (by simp)
  have p7 := A2.cs 7 (by simp)
  simp at p0 p1 p2 p3 p4 p5 p6 p7
  clear hse hi hf
  go_wp2_with fail
  refine (HC.out).mono ?_
  rintro e w3 ⟨b, A, P, f2, sa, sc, ys, rfl, body3, hAn, hAn', hyn, b3⟩
  have B3 := bl_trans B2 b3
  have HT := hidOf (turnOf_any w2.heap.size b A v.ln v.gs id w3 body3.wst (by have := HM.out.l; omega) (by have := HM.out.g; omega) HW.out.ln HW.out.gs HId.out)
  have HBo := hidOf body3
  have HAn := hidOf (And.intro hAn hAn')
  clear A2 p0 p1 p2 p3 p4 p5 p6 p7 HC hAn hAn' body3 hneg
  obtain ⟨tt, htt⟩ : ∃ t, turnL v.ln v.gs id = t := ⟨_, rfl⟩
  rw [htt] at HT
  have HTt := hidOf htt
  clear htt
  go_wp2_with fail
  refine (HT.out).mono ?_
  rintro e w4 ⟨rfl, b4⟩
  have B4 := bl_trans B3 b4
  have HBo4 := hidOf ((HBo.out.keep b4).mono (B' := w.heap.size) B2.size)
  rcases turn_cases v.ln v.gs id with ⟨h0, h1⟩ | ⟨h0, h1, h2⟩ | ⟨h0, h1, h2⟩
  · obtain rfl : tt = 4 := by rw [← HTt.out, h0]
    have HH := hidOf (show (hasL v.ln id || hasL v.gs id) = true by rw [h1]; rfl)
    clear h0 h1 HT
    go_wp2_with fail
    go_ret2
    exact .inr (.inr (.inl ⟨HQ.out, by rw [HAt.out]; have h := HNeg.out; omega, HH.out, rfl, B4⟩))
  · obtain rfl : tt = 0 := by rw [← HTt.out, h0]
    have HH := hidOf (show (hasL v.ln id || hasL v.gs id) = true by rw [h1, h2]; rfl)
    clear h0 h1 h2 HT
    go_wp2_with fail
    go_ret2
    exact .inr (.inr (.inl ⟨HQ.out, by rw [HAt.out]; have h := HNeg.out; omega, HH.out, rfl, B4⟩))
  · obtain rfl : tt = 3 := by rw [← HTt.out, h0]
    have HH := hidOf (show (hasL v.ln id || hasL v.gs id) = false by rw [h1, h2]; rfl)
    clear h0 h1 h2 HT
    go_wp2_with fail
    go_ret2
    exact .inr (.inr (.inr ⟨HQ.out, by rw [HAt.out]; have h := HNeg.out; omega, HH.out, b, A, P, f2, sa, sc, ys, rfl, HBo4.out, HAn.out.1, HAn.out.2, hyn, B4⟩))
end Go.Proofs.YtffpecdjfcgadaaGreatDoor
namespace Go.Proofs.YtffpecdjfcgadaaGreatDoor
open Go.RowKit Pl Il Tn

/-- Has it that name? -/
theorem placeFnT_any (x : Ta) (s : ByteArray) (N : Nat) (w : World) (hN : w.cell? ⟨N, 0, none⟩ = some (.string s)) :
    Calls Tryz.prog 56 #[.agg #[.string x.nm, .int .i64 x.v.cp, .int .i64 x.v.se, .slice x.M.ia x.M.i x.M.ic, .int .i64 x.v.nx, .slice x.M.sa x.M.s x.M.sc, .slice x.M.la x.M.l x.M.lc, .slice x.M.ga x.M.g x.M.gc, .bool x.v.cl], .pointer (some ⟨N, 0, none⟩)] w fun e w' => e = .returned (.bool (decide (x.nm = s))) ∧ Below w.heap.size w w' := by
  have hB : Below w.heap.size w (w.alloc (.cells #[.string x.nm, .int .i64 x.v.cp, .int .i64 x.v.se, .slice x.M.ia x.M.i x.M.ic, .int .i64 x.v.nx, .slice x.M.sa x.M.s x.M.sc, .slice x.M.la x.M.l x.M.lc, .slice x.M.ga x.M.g x.M.gc, .bool x.v.cl] 55)) := bl_alloc (Below.refl _ _) _
  have hN2 : ∀ o, (w.alloc o).cell? ⟨N, 0, none⟩ = some (.string s) := fun o => by rw [World.cell?_alloc_old _ _ _ (Nat.ne_of_lt (World.block_lt_of_cell? w _ hN))]; exact hN
  by_cases hq : x.nm = s
  · have hqe := beq_str hq
    have HE := hidOf (show decide (x.nm = s) = true by simpa using hq)
    clear hq
    go_enter Tryz.func56, Tryz.ntmps56
    go_wp2
    go_ret
    exact ⟨rbool HE.out.symm, hB⟩
  · have hqe := bne_str hq
    have HE := hidOf (show decide (x.nm = s) = false by simpa using hq)
    clear hq
    go_enter Tryz.func56, Tryz.ntmps56
    go_wp2
    go_ret
    exact ⟨rbool HE.out.symm, hB⟩
set_option maxRecDepth 100000 in
set_option maxHeartbeats 4000000 in
theorem idxTop_any (a : Option Addr) (n cap : Nat) (xs : List Ta) (s : ByteArray) (N : Nat) (w : World) (hI : TopAt w a n xs) (hn : n ≤ 2097152) (hN : w.cell? ⟨N, 0, none⟩ = some (.string s)) :
    Calls Tryz.prog 55 #[.slice a n cap, .func (.func 56) #[] #[.pointer (some ⟨N, 0, none⟩)]] w fun e w' => e = .returned (.int .i64 (placeT (nms xs) s)) ∧ Below w.heap.size w w' := by
  have HL := hidOf hI.len
  have HI := hidOf hI
  have HNn := hidOf hn
  clear hI
  go_enter Tryz.func55, Tryz.ntmps55
  go_wp2_with fail
  go_loopw [8] (fun i wr => ∃ (k : Nat), k ≤ n ∧ i = .int .i64 k ∧ (∀ j, j < k → ¬ (tg xs j).nm = s) ∧ Below w.heap.size w wr) (fun i _ => n - (intOf i).toNat)
  case atStart => exact ⟨0, Nat.zero_le _, rfl, fun j hj => (by omega), Below.refl _ _⟩
  case round =>
    rename World => wr
    obtain ⟨k, hk, rfl, hall, hB⟩ := hrel
    have HA := hidOf hall
    have HB := hidOf hB
    clear hall
    by_cases hlt : k < n
    · have hki : (0 : Int) ≤ (k : Int) ∧ (k : Int) < (n : Int) := by omega
      have hkl : k < xs.length := by rw [HL.out]; exact hlt
      obtain hr | ⟨b, off, rfl, hb, hcell⟩ := (HI.out.keep hB).row
      · omega
      obtain ⟨c0, c1, c2, c3, c4, c5, c6, c7, c8⟩ := hcell k hlt
      have hNr : wr.cell? ⟨N, 0, none⟩ = some (.string s) := by rw [hB.cell (p := ⟨N, 0, none⟩) (World.block_lt_of_cell? w _ hN)]; exact hN
      have HC := hidOf (placeFnT_any (tg xs k) s N wr hNr)
      obtain ⟨y, hy⟩ : ∃ y, tg xs k = y := ⟨_, rfl⟩
      rw [hy] at c0 c1 c2 c3 c4 c5 c6 c7 c8 HC
      have HY := hidOf hy
      have HKl := hidOf hkl
      obtain ⟨q, hq⟩ : ∃ q, decide (y.nm = s) = q := ⟨_, rfl⟩
      rw [hq] at HC
      have HQ := hidOf hq
      clear hy hB hNr hcell hkl hq
      go_wp2_with fail
      refine (HC.out).mono ?_
      rintro e w1 ⟨rfl, hb1⟩
      have HB1 := hidOf (bl_trans HB.out hb1)
      clear hb1 HC HB
      cases q
      · go_wp2
        go_roundw
        case rel =>
          refine ⟨k + 1, by omega, by go_num, fun j hj => ?_, HB1.out⟩
          by_cases e : j = k
          · rw [e, HY.out]; simpa using HQ.out
          · exact HA.out j (by omega)
        case measure => simp [intOf]; omega
      · go_wp2
        go_ret
        refine ⟨congrArg (fun z => Ending.returned (.int .i64 z)) ?_, HB1.out⟩
        symm
        refine placeT_at (k := k) (by simpa [nms] using HKl.out) (fun j hj => ?_) ?_
        · rw [nms_get (by have := HKl.out; omega)]
          exact HA.out j hj
        · rw [nms_get HKl.out, HY.out]
          simpa using HQ.out
    · have hki : ¬ (k : Int) < (n : Int) := by omega
      clear hB
      go_wp2
      go_ret
      refine ⟨congrArg (fun z => Ending.returned (.int .i64 z)) ?_, HB.out⟩
      symm
      refine placeT_none (fun j hj => ?_)
      have hj1 : j < xs.length := by simpa [nms] using hj
      rw [nms_get hj1]
      exact HA.out j (by have := HL.out; omega)
theorem placeTop_any (a : Option Addr) (n cap : Nat) (xs : List Ta) (s : ByteArray) (w : World) (hI : TopAt w a n xs) (hn : n ≤ 2097152) :
    Calls Tryz.prog 35 #[.slice a n cap, .string s] w fun e w' => e = .returned (.int .i64 (placeT (nms xs) s)) ∧ Below w.heap.size w w' := by
  have hB : Below w.heap.size w (w.alloc (.cells #[.string s] 9)) := bl_alloc (Below.refl _ _) _
  have HC := hidOf (idxTop_any a n cap xs s w.heap.size (w.alloc (.cells #[.string s] 9)) (hI.keep hB) hn (by simp [World.cell?_alloc_new]))
  clear hI
  go_enter Tryz.func35, Tryz.ntmps35
  go_wp2_with fail
  refine (HC.out).mono ?_
  rintro e w1 ⟨rfl, hb1⟩
  have HB1 := hidOf (bl_trans hB hb1)
  clear hb1 HC hB
  go_wp2
  go_ret
  exact ⟨rfl, HB1.out⟩
theorem placeT_lt {xs : List Ta} {k : Nat} (hk : k < xs.length) : placeT (nms xs) (tg xs k).nm < (k : Int) ↔ ∃ j, j < k ∧ (tg xs j).nm = (tg xs k).nm := by
  constructor
  · intro h
    apply Classical.byContradiction
    intro hno
    have : placeT (nms xs) (tg xs k).nm = (k : Int) := placeT_at (by simpa [nms] using hk) (fun j hj e => hno ⟨j, hj, by rw [nms_get (by omega)] at e; exact e⟩) (nms_get hk)
    omega
  · rintro ⟨j, hj, e⟩
    apply Classical.byContradiction
    intro hge
    unfold placeT at hge
    cases hf : (nms xs).findIdx? (fun n => decide (n = (tg xs k).nm)) with
    | none =>
      rw [hf] at hge
      simp only at hge
      omega
    | some i =>
      rw [hf] at hge
      simp only at hge
      rw [List.findIdx?_eq_some_iff_getElem] at hf
      obtain ⟨_, _, h3⟩ := hf
      have h4 := h3 j (by omega)
      have hj2 : j < xs.length := by omega
      have h5 := nms_get hj2
      rw [List.getD, List.getElem?_eq_getElem (by simpa [nms] using hj2), Option.getD_some] at h5
      rw [h5] at h4
      simp [e] at h4
set_option maxRecDepth 100000 in
set_option maxHeartbeats 8000000 in
theorem implTopics_any (a : Option Addr) (n c : Nat) (xs : List Ta) (w : World) (hI : TopAt w a n xs) (hW : TWf xs) (hn : n ≤ 1048576) (hg : GOkT w) :
    Calls Tryz.prog 19 #[.slice a n c] w fun e w' => e = .returned (.bool (okTs xs)) ∧ Below w.heap.size w w' := by
  have HL := hidOf hI.len
  by_cases hlong : 12 < (n : Int)
  · have HE := hidOf (okTs_long (xs := xs) (by have := HL.out; omega))
    clear hI
    go_enter Tryz.func19, Tryz.ntmps19
    go_wp2_with fail
    go_ret
    exact ⟨rbool HE.out.symm, Below.refl _ _⟩
  have HI := hidOf hI
  have HW := hidOf hW
  have HG := hidOf hg
  have HLe := hidOf (show xs.length ≤ 12 by have := HL.out; omega)
  clear hI hW hg
  go_enter Tryz.func19, Tryz.ntmps19
  go_wp2_with fail
  go_loopw [10] (fun i wr => ∃ k : Nat, k ≤ n ∧ i = .int .i64 k ∧ topTo xs k ∧ Below w.heap.size w wr) (fun i _ => n - (intOf i).toNat)
  case atStart => exact ⟨0, Nat.zero_le _, rfl, fun i hi => (by omega), Below.refl _ _⟩
  case round =>
    rename World => wr
    obtain ⟨k, hk, rfl, ht, hB⟩ := hrel
    have HT := hidOf ht
    clear ht
    by_cases hlt : k < n
    · have hki : (k : Int) < (n : Int) := by omega
      have hkl : k < xs.length := by rw [HL.out]; exact hlt
      obtain hr | ⟨b, off, rfl, hb, hcell⟩ := (HI.out.keep hB).row
      · omega
      have hmem := tg_mem hkl
      obtain ⟨x, hx⟩ : ∃ x, tg xs k = x := ⟨_, rfl⟩
      rw [hx] at hmem
      have hck := hcell k hlt
      rw [hx] at hck
      obtain ⟨q0, q1, q2, q3, q4, q5, q6, q7, q8⟩ := id hck
      obtain ⟨W1, hW1⟩ : ∃ W, W = wr.alloc (.cells #[.string x.nm, .int .i64 x.v.cp, .int .i64 x.v.se, .slice x.M.ia x.M.i x.M.ic, .int .i64 x.v.nx, .slice x.M.sa x.M.s x.M.sc, .slice x.M.la x.M.l x.M.lc, .slice x.M.ga x.M.g x.M.gc, .bool x.v.cl] 55) := ⟨_, rfl⟩
      have b1 : Below wr.heap.size wr W1 := by rw [hW1]; exact bl_alloc (Below.refl _ _) _
      have X1 : BoxL wr.heap.size (tC x) W1 := by rw [hW1]; exact BoxL.new wr (tC x) _
      have B1 := bl_trans hB b1
      have HX := hidOf hx
      have HKl := hidOf hkl
      have HN := hidOf (implName_any x.nm W1 (HI.out.nms x hmem) (HG.out.keep B1))
      obtain ⟨nq, hnq⟩ : ∃ q, rightN false x.nm = q := ⟨_, rfl⟩
      rw [hnq] at HN
      have HNq := hidOf hnq
      have HRk := hidOf (fun (u : World) (hu : Below w.heap.size w u) => implRingOk_any x.M x.v u ((HI.out.rin x hmem).keep hu) (HW.out.le x hmem) (HW.out.cap x hmem) (HW.out.wf x hmem))
      obtain ⟨rq, hrq⟩ : ∃ q, okR restR x.v = q := ⟨_, rfl⟩
      rw [hrq] at HRk
      have HRq := hidOf hrq
      have HPl := hidOf (fun (u : World) (hu : Below w.heap.size w u) => placeTop_any _ n c xs x.nm u (HI.out.keep hu) (by omega))
      obtain ⟨pl, hpl⟩ : ∃ p, placeT (nms xs) x.nm = p := ⟨_, rfl⟩
      rw [hpl] at HPl
      have HPq := hidOf (show pl < (k : Int) ↔ ∃ j, j < k ∧ (tg xs j).nm = (tg xs k).nm by rw [← hpl, ← hx]; exact placeT_lt hkl)
      clear hx hmem hnq hrq hpl hcell hkl hB hck
      go_upto_region 6 with fail
      try rw [← hW1]
      clear hW1 q0 q1 q2 q3 q4 q5 q6 q7 q8 b1
      generalize wr.heap.size = NX at X1 ⊢
      obtain ⟨q0, q1, q2, q3, q4, q5, q6, q7, q8⟩ := X1.c9T
      go_wp2_with fail
      refine (HN.out).mono ?_
      rintro e w2 ⟨rfl, b2⟩
      have HB2 := hidOf (bl_trans B1 b2)
      have X2 := X1.keep b2
      clear q0 q1 q2 q3 q4 q5 q6 q7 q8 X1 B1 b2 HN
      cases nq
      · have HE := hidOf (okTs_bad HKl.out (show okTa xs k = false by unfold okTa; rw [HX.out, HNq.out]; rfl))
        go_wp2_with fail
        go_ret
        exact ⟨rbool HE.out.symm, HB2.out⟩
      obtain ⟨q0, q1, q2, q3, q4, q5, q6, q7, q8⟩ := X2.c9T
      go_wp2_with fail
      refine (HPl.out _ HB2.out).mono ?_
      rintro e w3 ⟨rfl, b3⟩
      have HB3 := hidOf (bl_trans HB2.out b3)
      have X3 := X2.keep b3
      clear q0 q1 q2 q3 q4 q5 q6 q7 q8 X2 b3 HPl HB2
      by_cases hp : pl < (k : Int)
      · have HE := hidOf (okTs_bad HKl.out (show okTa xs k = false by
          obtain ⟨j, hj, e⟩ := HPq.out.1 hp
          unfold okTa
          have : ¬ ∀ i, i < k → ¬ (tg xs i).nm = (tg xs k).nm := fun h => h j hj e
          simp [this]))
        go_wp2_with fail
        go_ret
        exact ⟨rbool HE.out.symm, HB3.out⟩
      obtain ⟨q0, q1, q2, q3, q4, q5, q6, q7, q8⟩ := X3.c9T
      have HP := hidOf hp
      have hp' : decide (pl < (k : Int)) = false := by simpa using hp
      go_wp2_with fail
      refine (HRk.out _ HB3.out).mono ?_
      rintro e w4 ⟨rfl, b4⟩
      have HB4 := hidOf (bl_trans HB3.out b4)
      clear q0 q1 q2 q3 q4 q5 q6 q7 q8 X3 b4 HRk HB3 hp hp'
      cases rq
      · have HE := hidOf (okTs_bad HKl.out (show okTa xs k = false by unfold okTa; rw [HX.out, HRq.out, HNq.out]; rfl))
        go_wp2_with fail
        go_ret
        exact ⟨rbool HE.out.symm, HB4.out⟩
      have HS := hidOf (topTo_step HT.out (okTa_parts (by rw [HX.out]; exact HNq.out) (by rw [HX.out]; exact HRq.out) (fun i hi e => by have h1 := HPq.out.2 ⟨i, hi, e⟩; have h2 := HP.out; omega)))
      go_wp2_with fail
      go_roundw
      case rel => exact ⟨k + 1, by omega, by go_num, HS.out, HB4.out⟩
      case measure => simp [intOf]; omega
    · have HE := hidOf (okTs_all HLe.out (fun i hi => HT.out i (by have := HL.out; omega)))
      have hki : ¬ (k : Int) < (n : Int) := by omega
      go_wp2_with fail
      go_ret
      exact ⟨rbool HE.out.symm, hB⟩
end Go.Proofs.YtffpecdjfcgadaaGreatDoor
