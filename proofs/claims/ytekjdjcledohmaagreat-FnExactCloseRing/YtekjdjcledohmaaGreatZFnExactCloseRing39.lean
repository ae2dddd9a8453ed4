/-
  The program's RingOk.
  The program's Unwait.
  A ring's body, closed.
-/
import Derived.Test.YtekjdjcledohmaaGreatZFnExactCloseRing38
import Derived.Test.YtekjdjcledohmaaGreatZFnExactCloseRing16
import Derived.Test.YtekjdjcledohmaaGreatZFnExactCloseRing31
import Derived.Test.YtekjdjcledohmaaGreatZFnExactCloseRing20
import Derived.Test.YtekjdjcledohmaaGreatZFnExactCloseRing32
import Derived.Test.YtekjdjcledohmaaGreatZFnExactCloseRing33
namespace Go.Proofs.YtekjdjcledohmaaGreat
open Go.RowKit Pl Il

set_option maxRecDepth 100000 in
set_option maxHeartbeats 8000000 in
theorem implRingOk_any : ImplRingOk (okR restR) := by
  intro M v w hI hm _ hw
  rw [← okI_eq]
  obtain ⟨W0, hW0⟩ : ∃ W, W = w.alloc (.cells #[.int .i64 v.cp, .int .i64 v.se, .slice M.ia M.i M.ic, .int .i64 v.nx, .slice M.sa M.s M.sc, .slice M.la M.l M.lc, .slice M.ga M.g M.gc, .bool v.cl] 34) := ⟨_, rfl⟩
  have hX : RHold w M v W0 := by
    have b0 : Below w.heap.size w W0 := by rw [hW0]; exact bl_alloc (Below.refl _ _) _
    exact ⟨by rw [hW0]; exact BoxL.new w (rC M v) _, hI.keep b0, b0⟩
  have hm2 := hm.mono (k' := 2097152) (by omega)
  obtain ⟨q, hq⟩ : ∃ q, okI v = q := ⟨_, rfl⟩
  rw [hq]
  have HQ := hidOf (show (headI v && (subsI v && (itemsI v && waitI v))) = q by rw [← hq]; rfl)
  have p0 := hX.box.cs 0 (by simp)
  have p1 := hX.box.cs 1 (by simp)
  have p3 := hX.box.cs 3 (by simp)
  simp at p0 p1 p3
  have HX := hidOf hX
  have HM := hidOf hm
  have HM2 := hidOf hm2
  have HW := hidOf hw
  clear hI hm hX hq hw hm2
  go_enter Tryz.func61, Tryz.ntmps61
  go_upto_region 1 with fail
  rw [← hW0]
  clear hW0
  by_cases h0 : v.cp < 1
  · have HV := hidOf (show q = false by rw [← HQ.out, show headI v = false from decide_eq_false (by omega)]; rfl)
    go_wp2
    go_ret
    rw [HV.out]
    exact ⟨rfl, HX.out.below⟩
  by_cases h1 : 16 < v.cp
  · have HV := hidOf (show q = false by rw [← HQ.out, show headI v = false from decide_eq_false (by omega)]; rfl)
    go_wp2
    go_ret
    rw [HV.out]
    exact ⟨rfl, HX.out.below⟩
  by_cases h2 : v.se < 0
  · have HV := hidOf (show q = false by rw [← HQ.out, show headI v = false from decide_eq_false (by omega)]; rfl)
    go_wp2
    go_ret
    rw [HV.out]
    exact ⟨rfl, HX.out.below⟩
  by_cases h3 : 1000000000 < v.se
  · have HV := hidOf (show q = false by rw [← HQ.out, show headI v = false from decide_eq_false (by omega)]; rfl)
    go_wp2
    go_ret
    rw [HV.out]
    exact ⟨rfl, HX.out.below⟩
  have hC : 1 ≤ v.cp ∧ v.cp ≤ 16 := by omega
  have hS : 0 ≤ v.se ∧ v.se ≤ 1000000000 := by omega
  have HCC := hidOf hC
  have HSS := hidOf hS
  clear hC hS
  cases hn : cnt v.nx
  · have HV := hidOf (show q = false by
      rw [← HQ.out, show headI v = false from decide_eq_false (by simp only [cnt, Bool.and_eq_false_iff, decide_eq_false_iff_not] at hn; omega)]
      rfl)
    go_wp2_with (go_at_call 102; refine (isCount_any _ _).mono ?_; rintro e w' ⟨rfl, rfl⟩; rw [hn])
    go_ret
    rw [HV.out]
    exact ⟨rfl, HX.out.below⟩
  have HNx := hidOf (show 0 ≤ v.nx ∧ v.nx ≤ 1000000000 by simpa [cnt] using hn)
  have HQ2 := hidOf (show (subsI v && (itemsI v && waitI v)) = q by
    have h1 := HCC.out
    have h2 := HSS.out
    have h3 := HNx.out
    rw [← HQ.out, show headI v = true from decide_eq_true (by omega)]
    rfl)
  have H1 := hidOf (fun (u : World) (hu : RHold w M v u) => subsOk_any M v u hu.rin HM2.out HSS.out HNx.out)
  have H2 := hidOf (fun (u : World) (hu : RHold w M v u) => itemsOk_any M v u hu.rin HM2.out HSS.out HCC.out)
  have H3 := hidOf (fun (u : World) (hu : RHold w M v u) => ringWaitersOk_any M v u hu.rin HM.out HW.out)
  go_upto_region 3 with (go_at_call 102; refine (isCount_any _ _).mono ?_; rintro e w' ⟨rfl, rfl⟩; rw [hn])
  have hX := HX.out
  have c2 := hX.box.cs 2 (by simp)
  have c4 := hX.box.cs 4 (by simp)
  have c5 := hX.box.cs 5 (by simp)
  have c6 := hX.box.cs 6 (by simp)
  have c7 := hX.box.cs 7 (by simp)
  simp at c2 c4 c5 c6 c7
  clear hX hn HQ HNx HSS HCC h0 h1 h2 h3
  go_wp2_with fail
  refine (H1.out _ HX.out).mono ?_
  rintro e w5 ⟨rfl, hb5⟩
  have hX := HX.out.keep hb5
  clear hb5 HX p0 p1 p3 c2 c4 c5 c6 c7
  obtain ⟨s, hs⟩ : ∃ s, subsI v = s := ⟨_, rfl⟩
  rw [hs]
  rw [hs] at HQ2
  clear hs
  cases s
  · have HX := hidOf hX
    clear hX
    go_wp2
    go_ret
    rw [← HQ2.out]
    exact ⟨rfl, HX.out.below⟩
  have p0 := hX.box.cs 0 (by simp)
  have p1 := hX.box.cs 1 (by simp)
  have p2 := hX.box.cs 2 (by simp)
  have p3 := hX.box.cs 3 (by simp)
  have p4 := hX.box.cs 4 (by simp)
  have p5 := hX.box.cs 5 (by simp)
  have p6 := hX.box.cs 6 (by simp)
  have p7 := hX.box.cs 7 (by simp)
  simp at p0 p1 p2 p3 p4 p5 p6 p7
  have HX := hidOf hX
  clear hX
  go_wp2_with fail
  refine (H2.out _ HX.out).mono ?_
  rintro e w6 ⟨rfl, hb6⟩
  have hX := HX.out.keep hb6
  clear hb6 HX p0 p1 p2 p3 p4 p5 p6 p7
  obtain ⟨s, hs⟩ : ∃ s, itemsI v = s := ⟨_, rfl⟩
  rw [hs]
  rw [hs] at HQ2
  clear hs
  cases s
  · have HX := hidOf hX
    clear hX
    go_wp2
    go_ret
    rw [← HQ2.out]
    exact ⟨rfl, HX.out.below⟩
  have p0 := hX.box.cs 0 (by simp)
  have p1 := hX.box.cs 1 (by simp)
  have p2 := hX.box.cs 2 (by simp)
  have p3 := hX.box.cs 3 (by simp)
  have p4 := hX.box.cs 4 (by simp)
  have p5 := hX.box.cs 5 (by simp)
  have p6 := hX.box.cs 6 (by simp)
  have p7 := hX.box.cs 7 (by simp)
  simp at p0 p1 p2 p3 p4 p5 p6 p7
  have HX := hidOf hX
  clear hX
  go_wp2_with fail
  refine (H3.out _ HX.out).mono ?_
  rintro e w7 ⟨rfl, hb7⟩
  have HX7 := hidOf (HX.out.keep hb7)
  clear hb7 HX p0 p1 p2 p3 p4 p5 p6 p7
  go_wp2
  go_ret
  rw [← HQ2.out]
  exact ⟨rfl, HX7.out.below⟩
end Go.Proofs.YtekjdjcledohmaaGreat
namespace Go.Proofs.YtekjdjcledohmaaGreat
open Go.RowKit Go.Maps Pl Il

theorem RBody.quit {B b : Nat} {A A' : Na} {P : Nat → Tm} {f : Nat} {v : Rv} {sa : Option Addr} {s sc : Nat} {ys : List Sa} {w w' : World} (id : Int) (h : RBody B b A P f v sa s sc ys w) (hW : WSt B b A' (lessL v.ln id) (lessL v.gs id) w') (hT : WTo B b w w') (ht : TurnB b w w' ∧ Shp b w w') (hA : A' = A ∨ NewA A' w.heap.size) : RBody B b A' P f (goneR v id) sa s sc ys w' where
  wst := hW
  rnd := by
    refine ⟨?_, fun j hj => ?_⟩
    · obtain ⟨cur, t, hg, hs⟩ := h.rnd.blk
      obtain ⟨cur', hg', hs'⟩ := ht.2 cur t hg
      exact ⟨cur', t, hg', by omega⟩
    · obtain ⟨h1, h2, h3⟩ := h.rnd.pl j hj
      exact ⟨by rw [hT.cells _ (by omega)]; exact h1, by rw [hT.cells _ (by omega)]; exact h2, by rw [hT.cells _ (by omega)]; exact h3⟩
  c2 := by rw [hT.cells _ (by omega)]; exact h.c2
  fst := by rw [hT.cells _ (by omega)]; exact h.fst
  nxt := by rw [hT.cells _ (by omega)]; exact h.nxt
  c56 := by rw [hT.cells _ (by omega)]; exact h.c56
  c57 := by rw [hT.cells _ (by omega)]; exact h.c57
  c58 := by rw [hT.cells _ (by omega)]; exact h.c58
  srow := ⟨rowTurn h.srow.sb ht.1 h.nb.1, fun x hx => rowTurn (h.srow.fl x hx) ht.1 (h.nb.2 x hx), h.srow.fls, h.srow.apt⟩
  sv := h.sv
  its := h.its
  sh := h.sh
  se := h.se
  few := h.few
  nb := h.nb
  ap := fun q hq => by
    rcases hA with rfl | hN
    · exact h.ap q hq
    · have hge : w.heap.size ≤ q := hq.elim (hN.1 q) (hN.2 q)
      exact ⟨fun e => by have := (row_lt h.srow.sb e).2; omega, fun x hx e => by have := (row_lt (h.srow.fl x hx) e).2; omega⟩
theorem ok_first {v : Rv} (h : okR restR v = true) : ∃ f : Nat, v.se = ((f + v.it.length : Nat) : Int) ∧ v.it.length ≤ 16 ∧ f + v.it.length ≤ 1000000000 := by
  have h0 := h
  simp only [okR, headR, lenR, Bool.and_eq_true, decide_eq_true_eq] at h0
  obtain ⟨⟨⟨⟨⟨hcp, hse⟩, _⟩, _⟩, h16⟩, _, ⟨hlen, _⟩, _⟩ := h0
  have := oldR_bd hse.1 hcp.1
  exact ⟨(oldR v).toNat, by omega, h16, by omega⟩
theorem ok_nodup {v : Rv} (h : okR restR v = true) : v.ln.Nodup ∧ v.gs.Nodup := by
  rw [← okI_eq] at h
  simp only [okI, waitI, Bool.and_eq_true, decide_eq_true_eq] at h
  have := dist_nodup h.2.2.2.2.2.2
  rw [List.nodup_append] at this
  exact ⟨this.1, this.2.1⟩
theorem turn_has (ln gs : List Int) (id : Int) : (if turnL ln gs id = 3 then (3 : Int) else 0) = if (hasL ln id || hasL gs id) = true then 0 else 3 := by
  rcases turn_cases ln gs id with ⟨h0, h1⟩ | ⟨h0, h1, h2⟩ | ⟨h0, h1, h2⟩
  · rw [h0, h1]; rfl
  · rw [h0, h1, h2]; rfl
  · rw [h0, h1, h2]; rfl
theorem gone_none {v : Rv} {id : Int} (h : ¬ (hasL v.ln id || hasL v.gs id) = true) : goneR v id = v := by
  simp only [Bool.or_eq_true, not_or, Bool.not_eq_true] at h
  have e1 : lessL v.ln id = v.ln := List.erase_of_not_mem (by simpa [hasL] using h.1)
  have e2 : lessL v.gs id = v.gs := List.erase_of_not_mem (by simpa [hasL] using h.2)
  unfold goneR
  rw [e1, e2]
end Go.Proofs.YtekjdjcledohmaaGreat
namespace Go.Proofs.YtekjdjcledohmaaGreat
open Go.RowKit Go.Maps Pl Il

theorem RBody.shut {B b : Nat} {A : Na} {P : Nat → Tm} {f : Nat} {v : Rv} {sa : Option Addr} {s sc : Nat} {ys : List Sa} {w : World} (h : RBody B b A P f v sa s sc ys w) (k : Bool) : RBody B b A P f { v with cl := k } sa s sc ys (w.setCell ⟨b, 58, none⟩ (.bool k)) := by
  have ot : ∀ o, o ≠ 58 → (w.setCell ⟨b, 58, none⟩ (.bool k)).cell? ⟨b, o, none⟩ = w.cell? ⟨b, o, none⟩ := fun o ho => World.cell?_setCell_other _ _ _ _ (by intro e; cases e; exact ho rfl)
  refine ⟨⟨by simpa using h.wst.lt, h.wst.ge, by rw [ot 0 (by omega)]; exact h.wst.c0, by rw [ot 1 (by omega)]; exact h.wst.c1, fun o => by simpa using h.wst.fr o, ⟨row_set h.wst.rows.one b 58 h.wst.ne1 _, row_set h.wst.rows.two b 58 h.wst.ne2 _, h.wst.rows.ne⟩, h.wst.ne1, h.wst.ne2⟩, ⟨?_, fun j hj => ?_⟩, by rw [ot 2 (by omega)]; exact h.c2, by rw [ot _ (by omega)]; exact h.fst, by rw [ot _ (by omega)]; exact h.nxt, by rw [ot 56 (by omega)]; exact h.c56, by rw [ot 57 (by omega)]; exact h.c57, World.cell?_setCell_same _ _ _ h.c58, ⟨rowG h.srow.sb (grown_setC _ _ _ _) (fun q e => by injection e with e; rw [← e]; exact h.nb.1), fun x hx => rowG (h.srow.fl x hx) (grown_setC _ _ _ _) (fun q e => by injection e with e; rw [← e]; exact h.nb.2 x hx), h.srow.fls, h.srow.apt⟩, h.sv, h.its, h.sh, h.se, h.few, h.nb, h.ap⟩
  · obtain ⟨cur, t, hg, hs1⟩ := h.rnd.blk
    obtain ⟨cur', hg', hs'⟩ := Shp.set b 58 w (.bool k) cur t hg
    exact ⟨cur', t, hg', by omega⟩
  · obtain ⟨h1, h2, h3⟩ := h.rnd.pl j hj
    exact ⟨by rw [ot _ (by omega)]; exact h1, by rw [ot _ (by omega)]; exact h2, by rw [ot _ (by omega)]; exact h3⟩
theorem ok_few {v : Rv} (h : okR restR v = true) : v.ln.length ≤ 32 := by
  have h0 := h
  simp only [okR, headR, lenR, Bool.and_eq_true, decide_eq_true_eq] at h0
  obtain ⟨_, _, ⟨_, hf, _⟩, _⟩ := h0
  omega
theorem wake_all (xs : List Int) : wakeN xs (xs.length : Int) = xs.length := by rw [wakeN_in (by omega)]; omega
end Go.Proofs.YtekjdjcledohmaaGreat
