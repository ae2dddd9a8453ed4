/-
  The program's RingOk
  The program's Unwait
  The plain mathematics of skipping: who skips, what is lost, what goes
  The program's tests: what a function value stands for
-/
import Derived.Test.YtihdglmiecifjaaGreatZRk20
import Derived.Shelf.Strings.Search3
import Derived.Test.YtihdglmiecifjaaGreatProg
namespace Go.Proofs.YtihdglmiecifjaaGreat
open Go.RowKit Pl Il
set_option maxRecDepth 100000 in
set_option maxHeartbeats 8000000 in
theorem implRingOk_any : ImplRingOk (okR restR) := by
 intro M v w hI hm _ hw
 rw [← okI_eq]
 obtain ⟨W0, hW0⟩ : ∃ W, W = w.alloc (.cells #[.int .i64 v.cp, .int .i64 v.se, .slice M.ia M.i M.ic, .int .i64 v.nx, .slice M.sa M.s M.sc, .slice M.la M.l M.lc, .slice M.ga M.g M.gc, .bool v.cl] 28) := ⟨_, rfl⟩
 have hX : RHold w M v W0 := by
  have b0 : Below w.heap.size w W0 := by rw [hW0]; exact bl_alloc (Below.refl _ _) _
  exact ⟨by rw [hW0]; exact BoxL.new w (rC M v) _, hI.keep b0, b0⟩
 have hm2 := hm.mono (k' := 2097152) (by omega)
 obtain ⟨q, hq⟩ : ∃ q, okI v = q := ⟨_, rfl⟩
 rw [hq]
 have HQ := hidOf (show (headI v && (subsI v && (itemsI v && waitI v))) = q by rw [← hq]; rfl)
 have p0 := hX.box.cs 0 (by simp)
 have p1 := hX.box.cs 1 (by simp)
 have p3 := hX.box.cs 3 (by simp)
 simp at p0 p1 p3
 have HX := hidOf hX
 have HM := hidOf hm
 have HM2 := hidOf hm2
 have HW := hidOf hw
 clear hI hm hX hq hw hm2
 go_enter Tryz.func29, Tryz.ntmps29
 go_upto_region 1 with fail
 rw [← hW0]
 clear hW0
 by_cases h0 : v.cp < 1
 ·have HV := hidOf (show q = false by rw [← HQ.out, show headI v = false from decide_eq_false (by omega)]; rfl)
  go_wp2
  go_ret
  rw [HV.out]
  exact ⟨rfl, HX.out.below⟩
 by_cases h1 : 16 < v.cp
 ·have HV := hidOf (show q = false by rw [← HQ.out, show headI v = false from decide_eq_false (by omega)]; rfl)
  go_wp2
  go_ret
  rw [HV.out]
  exact ⟨rfl, HX.out.below⟩
 by_cases h2 : v.se < 0
 ·have HV := hidOf (show q = false by rw [← HQ.out, show headI v = false from decide_eq_false (by omega)]; rfl)
  go_wp2
  go_ret
  rw [HV.out]
  exact ⟨rfl, HX.out.below⟩
 by_cases h3 : 1000000000 < v.se
 ·have HV := hidOf (show q = false by rw [← HQ.out, show headI v = false from decide_eq_false (by omega)]; rfl)
  go_wp2
  go_ret
  rw [HV.out]
  exact ⟨rfl, HX.out.below⟩
 have hC : 1 ≤ v.cp ∧ v.cp ≤ 16 := by omega
 have hS : 0 ≤ v.se ∧ v.se ≤ 1000000000 := by omega
 have HCC := hidOf hC
 have HSS := hidOf hS
 clear hC hS
 cases hn : cnt v.nx
 ·have HV := hidOf (show q = false by
   rw [← HQ.out, show headI v = false from decide_eq_false (by simp only [cnt, Bool.and_eq_false_iff, decide_eq_false_iff_not] at hn; omega)]
   rfl)
  go_wp2_with (go_at_call 95; refine (isCount_any _ _).mono ?_; rintro e w' ⟨rfl, rfl⟩; rw [hn])
  go_ret
  rw [HV.out]
  exact ⟨rfl, HX.out.below⟩
 have HNx := hidOf (show 0 ≤ v.nx ∧ v.nx ≤ 1000000000 by simpa [cnt] using hn)
 have HQ2 := hidOf (show (subsI v && (itemsI v && waitI v)) = q by
  have h1 := HCC.out
  have h2 := HSS.out
  have h3 := HNx.out
  rw [← HQ.out, show headI v = true from decide_eq_true (by omega)]
  rfl)
 have H1 := hidOf (fun (u : World) (hu : RHold w M v u) => subsOk_any M v u hu.rin HM2.out HSS.out HNx.out)
 have H2 := hidOf (fun (u : World) (hu : RHold w M v u) => itemsOk_any M v u hu.rin HM2.out HSS.out HCC.out)
 have H3 := hidOf (fun (u : World) (hu : RHold w M v u) => ringWaitersOk_any M v u hu.rin HM.out HW.out)
 go_upto_region 3 with (go_at_call 95; refine (isCount_any _ _).mono ?_; rintro e w' ⟨rfl, rfl⟩; rw [hn])
 have hX := HX.out
 have c2 := hX.box.cs 2 (by simp)
 have c4 := hX.box.cs 4 (by simp)
 have c5 := hX.box.cs 5 (by simp)
 have c6 := hX.box.cs 6 (by simp)
 have c7 := hX.box.cs 7 (by simp)
 simp at c2 c4 c5 c6 c7
 clear hX hn HQ HNx HSS HCC h0 h1 h2 h3
 go_wp2_with fail
 refine (H1.out _ HX.out).mono ?_
 rintro e w5 ⟨rfl, hb5⟩
 have hX := HX.out.keep hb5
 clear hb5 HX p0 p1 p3 c2 c4 c5 c6 c7
 obtain ⟨s, hs⟩ : ∃ s, subsI v = s := ⟨_, rfl⟩
 rw [hs]
 rw [hs] at HQ2
 clear hs
 cases s
 ·have HX := hidOf hX
  clear hX
  go_wp2
  go_ret
  rw [← HQ2.out]
  exact ⟨rfl, HX.out.below⟩
 have p0 := hX.box.cs 0 (by simp)
 have p1 := hX.box.cs 1 (by simp)
 have p2 := hX.box.cs 2 (by simp)
 have p3 := hX.box.cs 3 (by simp)
 have p4 := hX.box.cs 4 (by simp)
 have p5 := hX.box.cs 5 (by simp)
 have p6 := hX.box.cs 6 (by simp)
 have p7 := hX.box.cs 7 (by simp)
 simp at p0 p1 p2 p3 p4 p5 p6 p7
 have HX := hidOf hX
 clear hX
 go_wp2_with fail
 refine (H2.out _ HX.out).mono ?_
 rintro e w6 ⟨rfl, hb6⟩
 have hX := HX.out.keep hb6
 clear hb6 HX p0 p1 p2 p3 p4 p5 p6 p7
 obtain ⟨s, hs⟩ : ∃ s, itemsI v = s := ⟨_, rfl⟩
 rw [hs]
 rw [hs] at HQ2
 clear hs
 cases s
 ·have HX := hidOf hX
  clear hX
  go_wp2
  go_ret
  rw [← HQ2.out]
  exact ⟨rfl, HX.out.below⟩
 have p0 := hX.box.cs 0 (by simp)
 have p1 := hX.box.cs 1 (by simp)
 have p2 := hX.box.cs 2 (by simp)
 have p3 := hX.box.cs 3 (by simp)
 have p4 := hX.box.cs 4 (by simp)
 have p5 := hX.box.cs 5 (by simp)
 have p6 := hX.box.cs 6 (by simp)
 have p7 := hX.box.cs 7 (by simp)
 simp at p0 p1 p2 p3 p4 p5 p6 p7
 have HX := hidOf hX
 clear hX
 go_wp2_with fail
 refine (H3.out _ HX.out).mono ?_
 rintro e w7 ⟨rfl, hb7⟩
 have HX7 := hidOf (HX.out.keep hb7)
 clear hb7 HX p0 p1 p2 p3 p4 p5 p6 p7
 go_wp2
 go_ret
 rw [← HQ2.out]
 exact ⟨rfl, HX7.out.below⟩
end Go.Proofs.YtihdglmiecifjaaGreat
namespace Go.Proofs.YtihdglmiecifjaaGreat
open Go.RowKit Go.Maps Pl Il
theorem RBody.quit {B b : Nat} {A A' : Na} {P : Nat → Tm} {f : Nat} {v : Rv} {sa : Option Addr} {s sc : Nat} {ys : List Sa} {w w' : World} (id : Int) (h : RBody B b A P f v sa s sc ys w) (hW : WSt B b A' (lessL v.ln id) (lessL v.gs id) w') (hT : WTo B b w w') (ht : TurnB b w w' ∧ Shp b w w') (hA : A' = A ∨ NewA A' w.heap.size) : RBody B b A' P f (goneR v id) sa s sc ys w' where
  wst := hW
  rnd := by
    refine ⟨?_, fun j hj => ?_⟩
    · obtain ⟨cur, t, hg, hs⟩ := h.rnd.blk
      obtain ⟨cur', hg', hs'⟩ := ht.2 cur t hg
      exact ⟨cur', t, hg', by omega⟩
    · obtain ⟨h1, h2, h3⟩ := h.rnd.pl j hj
      exact ⟨by rw [hT.cells _ (by omega)]; exact h1, by rw [hT.cells _ (by omega)]; exact h2, by rw [hT.cells _ (by omega)]; exact h3⟩
  c2 := by rw [hT.cells _ (by omega)]; exact h.c2
  fst := by rw [hT.cells _ (by omega)]; exact h.fst
  nxt := by rw [hT.cells _ (by omega)]; exact h.nxt
  c56 := by rw [hT.cells _ (by omega)]; exact h.c56
  c57 := by rw [hT.cells _ (by omega)]; exact h.c57
  c58 := by rw [hT.cells _ (by omega)]; exact h.c58
  srow := ⟨rowTurn h.srow.sb ht.1 h.nb.1, fun x hx => rowTurn (h.srow.fl x hx) ht.1 (h.nb.2 x hx), h.srow.fls, h.srow.apt⟩
  sv := h.sv
  its := h.its
  sh := h.sh
  se := h.se
  few := h.few
  nb := h.nb
  ap := fun q hq => by
    rcases hA with rfl | hN
    · exact h.ap q hq
    · have hge : w.heap.size ≤ q := hq.elim (hN.1 q) (hN.2 q)
      exact ⟨fun e => by have := (row_lt h.srow.sb e).2; omega, fun x hx e => by have := (row_lt (h.srow.fl x hx) e).2; omega⟩
theorem ok_first {v : Rv} (h : okR restR v = true) : ∃ f : Nat, v.se = ((f + v.it.length : Nat) : Int) ∧ v.it.length ≤ 16 ∧ f + v.it.length ≤ 1000000000 := by
  have h0 := h
  simp only [okR, headR, lenR, Bool.and_eq_true, decide_eq_true_eq] at h0
  obtain ⟨⟨⟨⟨⟨hcp, hse⟩, _⟩, _⟩, h16⟩, _, ⟨hlen, _⟩, _⟩ := h0
  have := oldR_bd hse.1 hcp.1
  exact ⟨(oldR v).toNat, by omega, h16, by omega⟩
theorem ok_nodup {v : Rv} (h : okR restR v = true) : v.ln.Nodup ∧ v.gs.Nodup := by
  rw [← okI_eq] at h
  simp only [okI, waitI, Bool.and_eq_true, decide_eq_true_eq] at h
  have := dist_nodup h.2.2.2.2.2.2
  rw [List.nodup_append] at this
  exact ⟨this.1, this.2.1⟩
end Go.Proofs.YtihdglmiecifjaaGreat
namespace Go.Proofs.YtihdglmiecifjaaGreat
open Go.RowKit Go.Maps Pl Il
abbrev Sb0 : Sb := ⟨0, 0, 0, 0, 0, 0, []⟩
theorem least_iff : ∀ (sb : List Sb) (m x : Int), x ≤ leastR m sb ↔ x ≤ m ∧ ∀ s, s ∈ sb → x ≤ s.cu
  | [], m, x => by simp [leastR]
  | s :: sb, m, x => by
    have e : leastR m (s :: sb) = leastR (if s.cu < m then s.cu else m) sb := rfl
    rw [e, least_iff sb]
    simp only [List.mem_cons, forall_eq_or_imp]
    constructor
    · rintro ⟨h1, h2⟩
      split at h1
      · exact ⟨by omega, h1, h2⟩
      · exact ⟨h1, by omega, h2⟩
    · rintro ⟨h1, h2, h3⟩
      refine ⟨?_, h3⟩
      split
      · exact h2
      · exact h1
theorem old_mono {v v' : Rv} (hs : v'.se = v.se) (hc : v'.cp = v.cp) (h : leastR v.se v.sb ≤ leastR v.se v'.sb) : oldR v ≤ oldR v' := by
  unfold oldR
  simp only [hs, hc]
  repeat' split
  all_goals omega
theorem putV_mem {sb : List Sb} {k r : Nat} {z : Int} {s : Sb} (h : s ∈ putV sb k r z) : s ∈ sb ∨ s = subPut (sb.getD k Sb0) r z := List.mem_or_eq_of_mem_set h
/-- What is known of a right ring. -/
theorem ok_head {v : Rv} (h : okR restR v = true) : (1 ≤ v.cp ∧ v.cp ≤ 16) ∧ (0 ≤ v.se ∧ v.se ≤ 1000000000) ∧ v.sb.length ≤ 12 ∧ v.it.length ≤ 16 ∧ (v.it.length : Int) = v.se - oldR v ∧ v.ln.length ≤ 12 ∧ v.gs.length ≤ 12 := by
  simp only [okR, headR, lenR, Bool.and_eq_true, decide_eq_true_eq] at h
  obtain ⟨⟨⟨⟨⟨hcp, hse⟩, _⟩, h12⟩, h16⟩, _, ⟨hlen, hw, _⟩, _⟩ := h
  exact ⟨hcp, hse, h12, h16, hlen, by omega, by omega⟩
theorem ok_sub {v : Rv} (h : okR restR v = true) {k : Nat} (hk : k < v.sb.length) : subR v (v.sb.getD k Sb0) = true := by
  simp only [okR, Bool.and_eq_true] at h
  have h1 := h.2.1
  unfold subsTo at h1
  rw [List.all_eq_true] at h1
  have := h1 k (List.mem_range.2 hk)
  simp only [Bool.and_eq_true] at this
  exact this.1
theorem ok_nums {v : Rv} (h : okR restR v = true) {k : Nat} (hk : k < v.sb.length) : 0 ≤ (v.sb.getD k Sb0).cu ∧ (v.sb.getD k Sb0).cu ≤ v.se ∧ 0 ≤ (v.sb.getD k Sb0).gt ∧ (v.sb.getD k Sb0).gt ≤ 1000000000 ∧ 0 ≤ (v.sb.getD k Sb0).lo ∧ (v.sb.getD k Sb0).lo ≤ 1000000000 ∧ 0 ≤ (v.sb.getD k Sb0).pa ∧ (v.sb.getD k Sb0).pa ≤ 1000000000 := by
  have h1 := ok_sub h hk
  have h2 := (ok_head h).2.1
  simp only [subR, subHead, subSums, Bool.and_eq_true, decide_eq_true_eq] at h1
  omega
/-- The first number of a right ring. -/
theorem ok_fst {v : Rv} (h : okR restR v = true) : ∃ f : Nat, oldR v = (f : Int) ∧ v.se = ((f + v.it.length : Nat) : Int) ∧ v.it.length ≤ 16 ∧ f + v.it.length ≤ 1000000000 := by
  obtain ⟨hcp, hse, _, h16, hlen, _⟩ := ok_head h
  have := oldR_bd (v := v) hse.1 hcp.1
  exact ⟨(oldR v).toNat, by omega, by omega, h16, by omega⟩
theorem at_lt {sb : List Sb} {id : Int} (h : ¬ atR sb id < 0) : (atR sb id).toNat < sb.length ∧ atR sb id = ((atR sb id).toNat : Int) := by
  unfold atR at h ⊢
  split
  · rename_i i hi
    rw [List.findIdx?_eq_some_iff_getElem] at hi
    obtain ⟨h1, _⟩ := hi
    exact ⟨by simpa using h1, by simp⟩
  · rename_i hi
    rw [hi] at h
    simp at h
end Go.Proofs.YtihdglmiecifjaaGreat
namespace Go.Proofs.YtihdglmiecifjaaGreat
open Go.RowKit Pl Il
def bdV : Bd → Value
  | .inl n => .iface 193 (.int .i64 n)
  | .inr s => .iface 194 (.string s)
def BdOk : Bd → Prop
  | .inl _ => True
  | .inr s => s.size ≤ 40
/-- The library's own variable holds some number. -/
def GOk (W : World) : Prop := ∃ m, W.cell? ⟨0, 0, none⟩ = some (.int .i64 m)
theorem GOk.keep {W W' : World} (h : GOk W) (hb : Below W.heap.size W W') : GOk W' := by
  obtain ⟨m, h⟩ := h
  exact ⟨m, by rw [hb.cell (World.block_lt_of_cell? W _ h)]; exact h⟩
/-- What a call of the function value does, wherever the blocks F lie as they lie in u. -/
def Does (F : List Nat) (u : World) (k : Nat) (caps : Array Value) (p : Pd) : Prop :=
  ∀ (W : World) (b : Bd), BdOk b → GOk W → (∀ j, j ∈ F → W.heap[j]? = u.heap[j]?) → Calls Tryz.prog k (#[bdV b] ++ caps) W fun e W' => e = .returned (.bool (p b)) ∧ Below W.heap.size W W'
end Go.Proofs.YtihdglmiecifjaaGreat
namespace Go.Proofs.YtihdglmiecifjaaGreat
open Go.RowKit Pl Il
theorem ext_take (s : ByteArray) (k : Nat) : (s.extract 0 k).toList = s.toList.take k := by
  rw [ByteArray.toList_eq, ByteArray.toList_eq, ByteArray.data_extract, Array.toList_extract]
  simp [List.extract]
theorem beg_eq (s t : ByteArray) : ((s.extract 0 t.size).toList == t.toList) = begB s t := by
  have hl : t.toList.length = t.size := by rw [ByteArray.toList_eq]; rfl
  rw [ext_take s t.size, Bool.eq_iff_iff]
  unfold begB
  rw [List.isPrefixOf_iff_prefix, List.prefix_iff_eq_take, hl]
  simp only [beq_iff_eq]
  exact eq_comm
theorem beg_no {s t : ByteArray} (h : ¬ t.size ≤ s.size) : begB s t = false := by
  have hl : t.toList.length = t.size := by rw [ByteArray.toList_eq]; rfl
  have hl' : s.toList.length = s.size := by rw [ByteArray.toList_eq]; rfl
  unfold begB
  rw [Bool.eq_false_iff]
  intro e
  have := (List.isPrefixOf_iff_prefix.1 e).length_le
  omega
end Go.Proofs.YtihdglmiecifjaaGreat
namespace Go.Proofs.YtihdglmiecifjaaGreat
open Go.RowKit Pl Il
theorem ok_5 {n : Int} {s : ByteArray} (h : okTm (5, n, s) = true) : 1 ≤ n := by
  simp [okTm] at h
  exact h.1.1
def bdOf (k n : Int) (s : ByteArray) : Bd := if k = 1 then .inl n else .inr s
end Go.Proofs.YtihdglmiecifjaaGreat
