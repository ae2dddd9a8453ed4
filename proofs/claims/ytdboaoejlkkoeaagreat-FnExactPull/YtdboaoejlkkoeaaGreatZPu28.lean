/-
  The program's RingOk
  The program's Unwait
  The plain mathematics of skipping: who skips, what is lost, what goes
  The program's tests: what a function value stands for
-/
import Derived.Test.YtdboaoejlkkoeaaGreatZPu27
namespace Go.Proofs.YtdboaoejlkkoeaaGreat
open Go.RowKit Pl Il
set_option maxRecDepth 100000 in
set_option maxHeartbeats 8000000 in
theorem implRingOk_any : ImplRingOk (okR restR) := by
 intro M v w hI hm _ hw
 rw [← okI_eq]
 obtain ⟨W0, hW0⟩ : ∃ W, W = w.alloc (.cells #[.int .i64 v.cp, .int .i64 v.se, .slice M.ia M.i M.ic, .int .i64 v.nx, .slice M.sa M.s M.sc, .slice M.la M.l M.lc, .slice M.ga M.g M.gc, .bool v.cl] 28) := ⟨_, rfl⟩
 have hX : RHold w M v W0 := by
  have b0 : Below w.heap.size w W0 := by rw [hW0]; exact bl_alloc (Below.refl _ _) _
  exact ⟨by rw [hW0]; exact BoxL.new w (rC M v) _, hI.keep b0, b0⟩
 have hm2 := hm.mono (k' := 2097152) (by omega)
 obtain ⟨q, hq⟩ : ∃ q, okI v = q := ⟨_, rfl⟩
 rw [hq]
 have HQ := hidOf (show (headI v && (subsI v && (itemsI v && waitI v))) = q by rw [← hq]; rfl)
 have p0 := hX.box.cs 0 (by simp)
 have p1 := hX.box.cs 1 (by simp)
 have p3 := hX.box.cs 3 (by simp)
 simp at p0 p1 p3
 have HX := hidOf hX
 have HM := hidOf hm
 have HM2 := hidOf hm2
 have HW := hidOf hw
 clear hI hm hX hq hw hm2
 go_enter Tryz.func29, Tryz.ntmps29
 go_upto_region 1 with fail
 rw [← hW0]
 clear hW0
 by_cases h0 : v.cp < 1
 ·have HV := hidOf (show q = false by rw [← HQ.out, show headI v = false from decide_eq_false (by omega)]; rfl)
  go_wp2
  go_ret
  rw [HV.out]
  exact ⟨rfl, HX.out.below⟩
 by_cases h1 : 16 < v.cp
 ·have HV := hidOf (show q = false by rw [← HQ.out, show headI v = false from decide_eq_false (by omega)]; rfl)
  go_wp2
  go_ret
  rw [HV.out]
  exact ⟨rfl, HX.out.below⟩
 by_cases h2 : v.se < 0
 ·have HV := hidOf (show q = false by rw [← HQ.out, show headI v = false from decide_eq_false (by omega)]; rfl)
  go_wp2
  go_ret
  rw [HV.out]
  exact ⟨rfl, HX.out.below⟩
 by_cases h3 : 1000000000 < v.se
 ·have HV := hidOf (show q = false by rw [← HQ.out, show headI v = false from decide_eq_false (by omega)]; rfl)
  go_wp2
  go_ret
  rw [HV.out]
  exact ⟨rfl, HX.out.below⟩
 have hC : 1 ≤ v.cp ∧ v.cp ≤ 16 := by omega
 have hS : 0 ≤ v.se ∧ v.se ≤ 1000000000 := by omega
 have HCC := hidOf hC
 have HSS := hidOf hS
 clear hC hS
 cases hn : cnt v.nx
 ·have HV := hidOf (show q = false by
   rw [← HQ.out, show headI v = false from decide_eq_false (by simp only [cnt, Bool.and_eq_false_iff, decide_eq_false_iff_not] at hn; omega)]
   rfl)
  go_wp2_with (go_at_call 95; refine (isCount_any _ _).mono ?_; rintro e w' ⟨rfl, rfl⟩; rw [hn])
  go_ret
  rw [HV.out]
  exact ⟨rfl, HX.out.below⟩
 have HNx := hidOf (show 0 ≤ v.nx ∧ v.nx ≤ 1000000000 by simpa [cnt] using hn)
 have HQ2 := hidOf (show (subsI v && (itemsI v && waitI v)) = q by
  have h1 := HCC.out
  have h2 := HSS.out
  have h3 := HNx.out
  rw [← HQ.out, show headI v = true from decide_eq_true (by omega)]
  rfl)
 have H1 := hidOf (fun (u : World) (hu : RHold w M v u) => subsOk_any M v u hu.rin HM2.out HSS.out HNx.out)
 have H2 := hidOf (fun (u : World) (hu : RHold w M v u) => itemsOk_any M v u hu.rin HM2.out HSS.out HCC.out)
 have H3 := hidOf (fun (u : World) (hu : RHold w M v u) => ringWaitersOk_any M v u hu.rin HM.out HW.out)
 go_upto_region 3 with (go_at_call 95; refine (isCount_any _ _).mono ?_; rintro e w' ⟨rfl, rfl⟩; rw [hn])
 have hX := HX.out
 have c2 := hX.box.cs 2 (by simp)
 have c4 := hX.box.cs 4 (by simp)
 have c5 := hX.box.cs 5 (by simp)
 have c6 := hX.box.cs 6 (by simp)
 have c7 := hX.box.cs 7 (by simp)
 simp at c2 c4 c5 c6 c7
 clear hX hn HQ HNx HSS HCC h0 h1 h2 h3
 go_wp2_with fail
 refine (H1.out _ HX.out).mono ?_
 rintro e w5 ⟨rfl, hb5⟩
 have hX := HX.out.keep hb5
 clear hb5 HX p0 p1 p3 c2 c4 c5 c6 c7
 obtain ⟨s, hs⟩ : ∃ s, subsI v = s := ⟨_, rfl⟩
 rw [hs]
 rw [hs] at HQ2
 clear hs
 cases s
 ·have HX := hidOf hX
  clear hX
  go_wp2
  go_ret
  rw [← HQ2.out]
  exact ⟨rfl, HX.out.below⟩
 have p0 := hX.box.cs 0 (by simp)
 have p1 := hX.box.cs 1 (by simp)
 have p2 := hX.box.cs 2 (by simp)
 have p3 := hX.box.cs 3 (by simp)
 have p4 := hX.box.cs 4 (by simp)
 have p5 := hX.box.cs 5 (by simp)
 have p6 := hX.box.cs 6 (by simp)
 have p7 := hX.box.cs 7 (by simp)
 simp at p0 p1 p2 p3 p4 p5 p6 p7
 have HX := hidOf hX
 clear hX
 go_wp2_with fail
 refine (H2.out _ HX.out).mono ?_
 rintro e w6 ⟨rfl, hb6⟩
 have hX := HX.out.keep hb6
 clear hb6 HX p0 p1 p2 p3 p4 p5 p6 p7
 obtain ⟨s, hs⟩ : ∃ s, itemsI v = s := ⟨_, rfl⟩
 rw [hs]
 rw [hs] at HQ2
 clear hs
 cases s
 ·have HX := hidOf hX
  clear hX
  go_wp2
  go_ret
  rw [← HQ2.out]
  exact ⟨rfl, HX.out.below⟩
 have p0 := hX.box.cs 0 (by simp)
 have p1 := hX.box.cs 1 (by simp)
 have p2 := hX.box.cs 2 (by simp)
 have p3 := hX.box.cs 3 (by simp)
 have p4 := hX.box.cs 4 (by simp)
 have p5 := hX.box.cs 5 (by simp)
 have p6 := hX.box.cs 6 (by simp)
 have p7 := hX.box.cs 7 (by simp)
 simp at p0 p1 p2 p3 p4 p5 p6 p7
 have HX := hidOf hX
 clear hX
 go_wp2_with fail
 refine (H3.out _ HX.out).mono ?_
 rintro e w7 ⟨rfl, hb7⟩
 have HX7 := hidOf (HX.out.keep hb7)
 clear hb7 HX p0 p1 p2 p3 p4 p5 p6 p7
 go_wp2
 go_ret
 rw [← HQ2.out]
 exact ⟨rfl, HX7.out.below⟩
end Go.Proofs.YtdboaoejlkkoeaaGreat
namespace Go.Proofs.YtdboaoejlkkoeaaGreat
open Go.RowKit Go.Maps Pl Il
theorem ok_first {v : Rv} (h : okR restR v = true) : ∃ f : Nat, v.se = ((f + v.it.length : Nat) : Int) ∧ v.it.length ≤ 16 ∧ f + v.it.length ≤ 1000000000 := by
  have h0 := h
  simp only [okR, headR, lenR, Bool.and_eq_true, decide_eq_true_eq] at h0
  obtain ⟨⟨⟨⟨⟨hcp, hse⟩, _⟩, _⟩, h16⟩, _, ⟨hlen, _⟩, _⟩ := h0
  have := oldR_bd hse.1 hcp.1
  exact ⟨(oldR v).toNat, by omega, h16, by omega⟩
open Go.RowKit Go.Maps Pl Il
abbrev Sb0 : Sb := ⟨0, 0, 0, 0, 0, 0, []⟩
theorem least_iff : ∀ (sb : List Sb) (m x : Int), x ≤ leastR m sb ↔ x ≤ m ∧ ∀ s, s ∈ sb → x ≤ s.cu
  | [], m, x => by simp [leastR]
  | s :: sb, m, x => by
    have e : leastR m (s :: sb) = leastR (if s.cu < m then s.cu else m) sb := rfl
    rw [e, least_iff sb]
    simp only [List.mem_cons, forall_eq_or_imp]
    constructor
    · rintro ⟨h1, h2⟩
      split at h1
      · exact ⟨by omega, h1, h2⟩
      · exact ⟨h1, by omega, h2⟩
    · rintro ⟨h1, h2, h3⟩
      refine ⟨?_, h3⟩
      split
      · exact h2
      · exact h1
theorem old_mono {v v' : Rv} (hs : v'.se = v.se) (hc : v'.cp = v.cp) (h : leastR v.se v.sb ≤ leastR v.se v'.sb) : oldR v ≤ oldR v' := by
  unfold oldR
  simp only [hs, hc]
  repeat' split
  all_goals omega
theorem ok_head {v : Rv} (h : okR restR v = true) : (1 ≤ v.cp ∧ v.cp ≤ 16) ∧ (0 ≤ v.se ∧ v.se ≤ 1000000000) ∧ v.sb.length ≤ 12 ∧ v.it.length ≤ 16 ∧ (v.it.length : Int) = v.se - oldR v ∧ v.ln.length ≤ 12 ∧ v.gs.length ≤ 12 := by
  simp only [okR, headR, lenR, Bool.and_eq_true, decide_eq_true_eq] at h
  obtain ⟨⟨⟨⟨⟨hcp, hse⟩, _⟩, h12⟩, h16⟩, _, ⟨hlen, hw, _⟩, _⟩ := h
  exact ⟨hcp, hse, h12, h16, hlen, by omega, by omega⟩
theorem ok_sub {v : Rv} (h : okR restR v = true) {k : Nat} (hk : k < v.sb.length) : subR v (v.sb.getD k Sb0) = true := by
  simp only [okR, Bool.and_eq_true] at h
  have h1 := h.2.1
  unfold subsTo at h1
  rw [List.all_eq_true] at h1
  have := h1 k (List.mem_range.2 hk)
  simp only [Bool.and_eq_true] at this
  exact this.1
theorem at_lt {sb : List Sb} {id : Int} (h : ¬ atR sb id < 0) : (atR sb id).toNat < sb.length ∧ atR sb id = ((atR sb id).toNat : Int) := by
  unfold atR at h ⊢
  split
  · rename_i i hi
    rw [List.findIdx?_eq_some_iff_getElem] at hi
    obtain ⟨h1, _⟩ := hi
    exact ⟨by simpa using h1, by simp⟩
  · rename_i hi
    rw [hi] at h
    simp at h
end Go.Proofs.YtdboaoejlkkoeaaGreat
namespace Go.Proofs.YtdboaoejlkkoeaaGreat
open Go.RowKit Pl Il
def bdV : Bd → Value
  | .inl n => .iface 193 (.int .i64 n)
  | .inr s => .iface 194 (.string s)
def BdOk : Bd → Prop
  | .inl _ => True
  | .inr s => s.size ≤ 40
def GOk (W : World) : Prop := ∃ m, W.cell? ⟨0, 0, none⟩ = some (.int .i64 m)
theorem GOk.keep {W W' : World} (h : GOk W) (hb : Below W.heap.size W W') : GOk W' := by
  obtain ⟨m, h⟩ := h
  exact ⟨m, by rw [hb.cell (World.block_lt_of_cell? W _ h)]; exact h⟩
def Does (F : List Nat) (u : World) (k : Nat) (caps : Array Value) (p : Pd) : Prop :=
  ∀ (W : World) (b : Bd), BdOk b → GOk W → (∀ j, j ∈ F → W.heap[j]? = u.heap[j]?) → Calls Tryz.prog k (#[bdV b] ++ caps) W fun e W' => e = .returned (.bool (p b)) ∧ Below W.heap.size W W'
def RepP (F : List Nat) (u : World) (v : Value) (p : Pd) : Prop :=
  (∀ j, j ∈ F → j < u.heap.size) ∧ ∃ (k : Nat) (caps : Array Value), v = .func (.func k) #[] caps ∧ (∀ args W, (callFunc k args).run Tryz.prog W = .ok (.enter k args) W) ∧ Does F u k caps p
theorem as_nn (n : Int) (u : World) : (Instr.typeAssert (.iface 193 (.int .i64 n)) 155 193 true).run Tryz.prog u = .ok (.tuple #[.int .i64 n, .bool true]) u := by kernel_rfl
theorem as_nt (s : ByteArray) (u : World) : (Instr.typeAssert (.iface 194 (.string s)) 155 193 true).run Tryz.prog u = .ok (.tuple #[.int .i64 0, .bool false]) u := by kernel_rfl
theorem as_tn (n : Int) (u : World) : (Instr.typeAssert (.iface 193 (.int .i64 n)) 155 194 true).run Tryz.prog u = .ok (.tuple #[.string ⟨#[]⟩, .bool false]) u := by kernel_rfl
theorem as_tt (s : ByteArray) (u : World) : (Instr.typeAssert (.iface 194 (.string s)) 155 194 true).run Tryz.prog u = .ok (.tuple #[.string s, .bool true]) u := by kernel_rfl
theorem passAll_does (u : World) : Does [] u 183 #[] (fun _ => true) := by
  intro W b _ _ _
  cases b <;>
  · unfold bdV
    go_enter Tryz.func183, Tryz.ntmps183
    go_wp2
    go_ret
    exact ⟨rfl, Below.refl _ _⟩
theorem num_txt (c : Nat) (s : ByteArray) (W : World) : Calls Tryz.prog 207 #[bdV (.inr s), .pointer (some ⟨c, 0, none⟩)] W fun e W' => e = .returned (.bool false) ∧ Below W.heap.size W W' := by
  have a1 := as_nt s
  unfold bdV
  go_enter Tryz.func207, Tryz.ntmps207
  go_wp2
  go_ret
  exact ⟨rfl, Below.refl _ _⟩
theorem txt_num (c : Nat) (n : Int) (W : World) : Calls Tryz.prog 208 #[bdV (.inl n), .pointer (some ⟨c, 0, none⟩)] W fun e W' => e = .returned (.bool false) ∧ Below W.heap.size W W' := by
  have a1 := as_tn n
  unfold bdV
  go_enter Tryz.func208, Tryz.ntmps208
  go_wp2
  go_ret
  exact ⟨rfl, Below.refl _ _⟩
open Go.RowKit Pl Il
theorem num_2 (c : Nat) (n : Int) (W : World) (hc : W.cell? ⟨c, 0, none⟩ = some (.func (.func 198) #[] #[])) : Calls Tryz.prog 207 #[bdV (.inl n), .pointer (some ⟨c, 0, none⟩)] W fun e W' => e = .returned (.bool true) ∧ Below W.heap.size W W' := by
  have a1 := as_nn n
  unfold bdV
  go_enter Tryz.func207, Tryz.ntmps207
  go_wp2
  go_ret
  exact ⟨rfl, Below.refl _ _⟩
theorem num_4 (c x : Nat) (n num : Int) (W : World) (hc : W.cell? ⟨c, 0, none⟩ = some (.func (.func 201) #[] #[.pointer (some ⟨x, 0, none⟩)])) (hx : W.cell? ⟨x, 1, none⟩ = some (.int .i64 num)) : Calls Tryz.prog 207 #[bdV (.inl n), .pointer (some ⟨c, 0, none⟩)] W fun e W' => e = .returned (.bool (decide (n < num))) ∧ Below W.heap.size W W' := by
  have a1 := as_nn n
  unfold bdV
  go_enter Tryz.func207, Tryz.ntmps207
  go_wp2
  all_goals go_ret
  all_goals exact ⟨by simp_all, Below.refl _ _⟩
theorem num_5 (c x : Nat) (n num : Int) (W : World) (hnum : 1 ≤ num) (hc : W.cell? ⟨c, 0, none⟩ = some (.func (.func 202) #[] #[.pointer (some ⟨x, 0, none⟩)])) (hx : W.cell? ⟨x, 1, none⟩ = some (.int .i64 num)) : Calls Tryz.prog 207 #[bdV (.inl n), .pointer (some ⟨c, 0, none⟩)] W fun e W' => e = .returned (.bool (decide (n.tmod num = 0))) ∧ Below W.heap.size W W' := by
  have a1 := as_nn n
  have h0 : ¬ num = 0 := by omega
  have h1 : ¬ num = -1 := by omega
  unfold bdV
  go_enter Tryz.func207, Tryz.ntmps207
  go_wp2
  all_goals go_ret
  all_goals exact ⟨rbool (by rw [Bool.eq_iff_iff]; simp), Below.refl _ _⟩
theorem ext_take (s : ByteArray) (k : Nat) : (s.extract 0 k).toList = s.toList.take k := by
  rw [ByteArray.toList_eq, ByteArray.toList_eq, ByteArray.data_extract, Array.toList_extract]
  simp [List.extract]
theorem beg_eq (s t : ByteArray) : ((s.extract 0 t.size).toList == t.toList) = begB s t := by
  have hl : t.toList.length = t.size := by rw [ByteArray.toList_eq]; rfl
  rw [ext_take s t.size, Bool.eq_iff_iff]
  unfold begB
  rw [List.isPrefixOf_iff_prefix, List.prefix_iff_eq_take, hl]
  simp only [beq_iff_eq]
  exact eq_comm
theorem beg_no {s t : ByteArray} (h : ¬ t.size ≤ s.size) : begB s t = false := by
  have hl : t.toList.length = t.size := by rw [ByteArray.toList_eq]; rfl
  have hl' : s.toList.length = s.size := by rw [ByteArray.toList_eq]; rfl
  unfold begB
  rw [Bool.eq_false_iff]
  intro e
  have := (List.isPrefixOf_iff_prefix.1 e).length_le
  omega
theorem txt_3 (c : Nat) (s : ByteArray) (W : World) (hc : W.cell? ⟨c, 0, none⟩ = some (.func (.func 200) #[] #[])) : Calls Tryz.prog 208 #[bdV (.inr s), .pointer (some ⟨c, 0, none⟩)] W fun e W' => e = .returned (.bool true) ∧ Below W.heap.size W W' := by
  have a1 := as_tt s
  unfold bdV
  go_enter Tryz.func208, Tryz.ntmps208
  go_wp2
  go_ret
  exact ⟨rfl, Below.refl _ _⟩
theorem cont_eq : ∀ (l sub : List UInt8), Lib.contains l sub = inL sub l
  | [], sub => by
    cases sub <;> simp [Lib.contains, Lib.index, inL]
  | x :: l, sub => by
    have ih := cont_eq l sub
    unfold Lib.contains at ih ⊢
    unfold Lib.index inL
    rw [← ih]
    by_cases h : sub.isPrefixOf (x :: l) = true
    · simp [h]
    · simp only [h, Bool.false_or]
      by_cases h2 : Lib.index l sub = -1
      · simp [h2]
      · have : -1 ≤ Lib.index l sub := Lib.index_ge l sub
        have e : (Lib.index l sub == -1) = false := by simp [h2]
        simp only [e]
        simp
        omega
theorem txt_7 (c x : Nat) (s t : ByteArray) (W : World) (hs : s.size ≤ 40) (hG : GOk W) (hc : W.cell? ⟨c, 0, none⟩ = some (.func (.func 205) #[] #[.pointer (some ⟨x, 0, none⟩)])) (hx : W.cell? ⟨x, 2, none⟩ = some (.string t)) : Calls Tryz.prog 208 #[bdV (.inr s), .pointer (some ⟨c, 0, none⟩)] W fun e W' => e = .returned (.bool (inL t.toList s.toList)) ∧ Below W.heap.size W W' := by
  have a1 := as_tt s
  obtain ⟨m, hm⟩ := hG
  have HC : ∀ w, w.cell? ⟨0, 0, none⟩ = some (.int .i64 m) → Calls Tryz.prog 206 #[.string s, .string t] w fun e w' => e = .returned (.bool (Lib.contains s.data.toList t.data.toList)) ∧ w' = w := fun w hw => Any.strings_Contains Tryz.lays144 s t m w (by omega) hw
  rw [ByteArray.toList_eq, ByteArray.toList_eq, ← cont_eq]
  have HH := hidOf (HC W hm)
  clear HC
  unfold bdV
  go_enter Tryz.func208, Tryz.ntmps208
  go_wp2_with (first | (go_at_call 206; refine (HH.out).mono ?_; rintro e w1 ⟨rfl, rfl⟩) | go_in)
  all_goals go_ret
  all_goals exact ⟨rfl, Below.refl _ _⟩
theorem txt_6 (c x : Nat) (s t : ByteArray) (W : World) (hc : W.cell? ⟨c, 0, none⟩ = some (.func (.func 203) #[] #[.pointer (some ⟨x, 0, none⟩)])) (hx : W.cell? ⟨x, 2, none⟩ = some (.string t)) : Calls Tryz.prog 208 #[bdV (.inr s), .pointer (some ⟨c, 0, none⟩)] W fun e W' => e = .returned (.bool (begB s t)) ∧ Below W.heap.size W W' := by
  have a1 := as_tt s
  unfold bdV
  go_enter Tryz.func208, Tryz.ntmps208
  go_wp2
  all_goals go_ret
  all_goals refine ⟨rbool ?_, Below.refl _ _⟩
  all_goals first | exact beg_eq s t | exact (beg_no (by assumption)).symm
end Go.Proofs.YtdboaoejlkkoeaaGreat
