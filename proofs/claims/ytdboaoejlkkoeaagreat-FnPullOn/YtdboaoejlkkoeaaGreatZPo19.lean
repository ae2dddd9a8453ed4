/-
  The program's RingOk
  The program's Unwait
  The plain mathematics of skipping: who skips, what is lost, what goes
  The plain mathematics of a right ring: what it is, said one by one; wh
-/
import Derived.Test.YtdboaoejlkkoeaaGreatZPo15
import Derived.Test.YtdboaoejlkkoeaaGreatZPo18
namespace Go.Proofs.YtdboaoejlkkoeaaGreat
open Go.RowKit Pl Il
set_option maxRecDepth 100000 in
set_option maxHeartbeats 8000000 in
theorem implRingOk_any : ImplRingOk (okR restR) := by
 intro M v w hI hm _ hw
 rw [← okI_eq]
 obtain ⟨W0, hW0⟩ : ∃ W, W = w.alloc (.cells #[.int .i64 v.cp, .int .i64 v.se, .slice M.ia M.i M.ic, .int .i64 v.nx, .slice M.sa M.s M.sc, .slice M.la M.l M.lc, .slice M.ga M.g M.gc, .bool v.cl] 28) := ⟨_, rfl⟩
 have hX : RHold w M v W0 := by
  have b0 : Below w.heap.size w W0 := by rw [hW0]; exact bl_alloc (Below.refl _ _) _
  exact ⟨by rw [hW0]; exact BoxL.new w (rC M v) _, hI.keep b0, b0⟩
 have hm2 := hm.mono (k' := 2097152) (by omega)
 obtain ⟨q, hq⟩ : ∃ q, okI v = q := ⟨_, rfl⟩
 rw [hq]
 have HQ := hidOf (show (headI v && (subsI v && (itemsI v && waitI v))) = q by rw [← hq]; rfl)
 have p0 := hX.box.cs 0 (by simp)
 have p1 := hX.box.cs 1 (by simp)
 have p3 := hX.box.cs 3 (by simp)
 simp at p0 p1 p3
 have HX := hidOf hX
 have HM := hidOf hm
 have HM2 := hidOf hm2
 have HW := hidOf hw
 clear hI hm hX hq hw hm2
 go_enter Tryz.func29, Tryz.ntmps29
 go_upto_region 1 with fail
 rw [← hW0]
 clear hW0
 by_cases h0 : v.cp < 1
 ·have HV := hidOf (show q = false by rw [← HQ.out, show headI v = false from decide_eq_false (by omega)]; rfl)
  go_wp2
  go_ret
  rw [HV.out]
  exact ⟨rfl, HX.out.below⟩
 by_cases h1 : 16 < v.cp
 ·have HV := hidOf (show q = false by rw [← HQ.out, show headI v = false from decide_eq_false (by omega)]; rfl)
  go_wp2
  go_ret
  rw [HV.out]
  exact ⟨rfl, HX.out.below⟩
 by_cases h2 : v.se < 0
 ·have HV := hidOf (show q = false by rw [← HQ.out, show headI v = false from decide_eq_false (by omega)]; rfl)
  go_wp2
  go_ret
  rw [HV.out]
  exact ⟨rfl, HX.out.below⟩
 by_cases h3 : 1000000000 < v.se
 ·have HV := hidOf (show q = false by rw [← HQ.out, show headI v = false from decide_eq_false (by omega)]; rfl)
  go_wp2
  go_ret
  rw [HV.out]
  exact ⟨rfl, HX.out.below⟩
 have hC : 1 ≤ v.cp ∧ v.cp ≤ 16 := by omega
 have hS : 0 ≤ v.se ∧ v.se ≤ 1000000000 := by omega
 have HCC := hidOf hC
 have HSS := hidOf hS
 clear hC hS
 cases hn : cnt v.nx
 ·have HV := hidOf (show q = false by
   rw [← HQ.out, show headI v = false from decide_eq_false (by simp only [cnt, Bool.and_eq_false_iff, decide_eq_false_iff_not] at hn; omega)]
   rfl)
  go_wp2_with (go_at_call 95; refine (isCount_any _ _).mono ?_; rintro e w' ⟨rfl, rfl⟩; rw [hn])
  go_ret
  rw [HV.out]
  exact ⟨rfl, HX.out.below⟩
 have HNx := hidOf (show 0 ≤ v.nx ∧ v.nx ≤ 1000000000 by simpa [cnt] using hn)
 have HQ2 := hidOf (show (subsI v && (itemsI v && waitI v)) = q by
  have h1 := HCC.out
  have h2 := HSS.out
  have h3 := HNx.out
  rw [← HQ.out, show headI v = true from decide_eq_true (by omega)]
  rfl)
 have H1 := hidOf (fun (u : World) (hu : RHold w M v u) => subsOk_any M v u hu.rin HM2.out HSS.out HNx.out)
 have H2 := hidOf (fun (u : World) (hu : RHold w M v u) => itemsOk_any M v u hu.rin HM2.out HSS.out HCC.out)
 have H3 := hidOf (fun (u : World) (hu : RHold w M v u) => ringWaitersOk_any M v u hu.rin HM.out HW.out)
 go_upto_region 3 with (go_at_call 95; refine (isCount_any _ _).mono ?_; rintro e w' ⟨rfl, rfl⟩; rw [hn])
 have hX := HX.out
 have c2 := hX.box.cs 2 (by simp)
 have c4 := hX.box.cs 4 (by simp)
 have c5 := hX.box.cs 5 (by simp)
 have c6 := hX.box.cs 6 (by simp)
 have c7 := hX.box.cs 7 (by simp)
 simp at c2 c4 c5 c6 c7
 clear hX hn HQ HNx HSS HCC h0 h1 h2 h3
 go_wp2_with fail
 refine (H1.out _ HX.out).mono ?_
 rintro e w5 ⟨rfl, hb5⟩
 have hX := HX.out.keep hb5
 clear hb5 HX p0 p1 p3 c2 c4 c5 c6 c7
 obtain ⟨s, hs⟩ : ∃ s, subsI v = s := ⟨_, rfl⟩
 rw [hs]
 rw [hs] at HQ2
 clear hs
 cases s
 ·have HX := hidOf hX
  clear hX
  go_wp2
  go_ret
  rw [← HQ2.out]
  exact ⟨rfl, HX.out.below⟩
 have p0 := hX.box.cs 0 (by simp)
 have p1 := hX.box.cs 1 (by simp)
 have p2 := hX.box.cs 2 (by simp)
 have p3 := hX.box.cs 3 (by simp)
 have p4 := hX.box.cs 4 (by simp)
 have p5 := hX.box.cs 5 (by simp)
 have p6 := hX.box.cs 6 (by simp)
 have p7 := hX.box.cs 7 (by simp)
 simp at p0 p1 p2 p3 p4 p5 p6 p7
 have HX := hidOf hX
 clear hX
 go_wp2_with fail
 refine (H2.out _ HX.out).mono ?_
 rintro e w6 ⟨rfl, hb6⟩
 have hX := HX.out.keep hb6
 clear hb6 HX p0 p1 p2 p3 p4 p5 p6 p7
 obtain ⟨s, hs⟩ : ∃ s, itemsI v = s := ⟨_, rfl⟩
 rw [hs]
 rw [hs] at HQ2
 clear hs
 cases s
 ·have HX := hidOf hX
  clear hX
  go_wp2
  go_ret
  rw [← HQ2.out]
  exact ⟨rfl, HX.out.below⟩
 have p0 := hX.box.cs 0 (by simp)
 have p1 := hX.box.cs 1 (by simp)
 have p2 := hX.box.cs 2 (by simp)
 have p3 := hX.box.cs 3 (by simp)
 have p4 := hX.box.cs 4 (by simp)
 have p5 := hX.box.cs 5 (by simp)
 have p6 := hX.box.cs 6 (by simp)
 have p7 := hX.box.cs 7 (by simp)
 simp at p0 p1 p2 p3 p4 p5 p6 p7
 have HX := hidOf hX
 clear hX
 go_wp2_with fail
 refine (H3.out _ HX.out).mono ?_
 rintro e w7 ⟨rfl, hb7⟩
 have HX7 := hidOf (HX.out.keep hb7)
 clear hb7 HX p0 p1 p2 p3 p4 p5 p6 p7
 go_wp2
 go_ret
 rw [← HQ2.out]
 exact ⟨rfl, HX7.out.below⟩
end Go.Proofs.YtdboaoejlkkoeaaGreat
namespace Go.Proofs.YtdboaoejlkkoeaaGreat
open Go.RowKit Go.Maps Pl Il
theorem ok_first {v : Rv} (h : okR restR v = true) : ∃ f : Nat, v.se = ((f + v.it.length : Nat) : Int) ∧ v.it.length ≤ 16 ∧ f + v.it.length ≤ 1000000000 := by
  have h0 := h
  simp only [okR, headR, lenR, Bool.and_eq_true, decide_eq_true_eq] at h0
  obtain ⟨⟨⟨⟨⟨hcp, hse⟩, _⟩, _⟩, h16⟩, _, ⟨hlen, _⟩, _⟩ := h0
  have := oldR_bd hse.1 hcp.1
  exact ⟨(oldR v).toNat, by omega, h16, by omega⟩
open Go.RowKit Go.Maps Pl Il
abbrev Sb0 : Sb := ⟨0, 0, 0, 0, 0, 0, []⟩
theorem least_iff : ∀ (sb : List Sb) (m x : Int), x ≤ leastR m sb ↔ x ≤ m ∧ ∀ s, s ∈ sb → x ≤ s.cu
  | [], m, x => by simp [leastR]
  | s :: sb, m, x => by
    have e : leastR m (s :: sb) = leastR (if s.cu < m then s.cu else m) sb := rfl
    rw [e, least_iff sb]
    simp only [List.mem_cons, forall_eq_or_imp]
    constructor
    · rintro ⟨h1, h2⟩
      split at h1
      · exact ⟨by omega, h1, h2⟩
      · exact ⟨h1, by omega, h2⟩
    · rintro ⟨h1, h2, h3⟩
      refine ⟨?_, h3⟩
      split
      · exact h2
      · exact h1
theorem old_mono {v v' : Rv} (hs : v'.se = v.se) (hc : v'.cp = v.cp) (h : leastR v.se v.sb ≤ leastR v.se v'.sb) : oldR v ≤ oldR v' := by
  unfold oldR
  simp only [hs, hc]
  repeat' split
  all_goals omega
theorem putV_mem {sb : List Sb} {k r : Nat} {z : Int} {s : Sb} (h : s ∈ putV sb k r z) : s ∈ sb ∨ s = subPut (sb.getD k Sb0) r z := List.mem_or_eq_of_mem_set h
theorem ok_head {v : Rv} (h : okR restR v = true) : (1 ≤ v.cp ∧ v.cp ≤ 16) ∧ (0 ≤ v.se ∧ v.se ≤ 1000000000) ∧ v.sb.length ≤ 12 ∧ v.it.length ≤ 16 ∧ (v.it.length : Int) = v.se - oldR v ∧ v.ln.length ≤ 12 ∧ v.gs.length ≤ 12 := by
  simp only [okR, headR, lenR, Bool.and_eq_true, decide_eq_true_eq] at h
  obtain ⟨⟨⟨⟨⟨hcp, hse⟩, _⟩, h12⟩, h16⟩, _, ⟨hlen, hw, _⟩, _⟩ := h
  exact ⟨hcp, hse, h12, h16, hlen, by omega, by omega⟩
theorem ok_sub {v : Rv} (h : okR restR v = true) {k : Nat} (hk : k < v.sb.length) : subR v (v.sb.getD k Sb0) = true := by
  simp only [okR, Bool.and_eq_true] at h
  have h1 := h.2.1
  unfold subsTo at h1
  rw [List.all_eq_true] at h1
  have := h1 k (List.mem_range.2 hk)
  simp only [Bool.and_eq_true] at this
  exact this.1
theorem ok_nums {v : Rv} (h : okR restR v = true) {k : Nat} (hk : k < v.sb.length) : 0 ≤ (v.sb.getD k Sb0).cu ∧ (v.sb.getD k Sb0).cu ≤ v.se ∧ 0 ≤ (v.sb.getD k Sb0).gt ∧ (v.sb.getD k Sb0).gt ≤ 1000000000 ∧ 0 ≤ (v.sb.getD k Sb0).lo ∧ (v.sb.getD k Sb0).lo ≤ 1000000000 ∧ 0 ≤ (v.sb.getD k Sb0).pa ∧ (v.sb.getD k Sb0).pa ≤ 1000000000 := by
  have h1 := ok_sub h hk
  have h2 := (ok_head h).2.1
  simp only [subR, subHead, subSums, Bool.and_eq_true, decide_eq_true_eq] at h1
  omega
theorem ok_fst {v : Rv} (h : okR restR v = true) : ∃ f : Nat, oldR v = (f : Int) ∧ v.se = ((f + v.it.length : Nat) : Int) ∧ v.it.length ≤ 16 ∧ f + v.it.length ≤ 1000000000 := by
  obtain ⟨hcp, hse, _, h16, hlen, _⟩ := ok_head h
  have := oldR_bd (v := v) hse.1 hcp.1
  exact ⟨(oldR v).toNat, by omega, by omega, h16, by omega⟩
theorem at_lt {sb : List Sb} {id : Int} (h : ¬ atR sb id < 0) : (atR sb id).toNat < sb.length ∧ atR sb id = ((atR sb id).toNat : Int) := by
  unfold atR at h ⊢
  split
  · rename_i i hi
    rw [List.findIdx?_eq_some_iff_getElem] at hi
    obtain ⟨h1, _⟩ := hi
    exact ⟨by simpa using h1, by simp⟩
  · rename_i hi
    rw [hi] at h
    simp at h
open Go.RowKit Go.Maps Pl Il
structure SubP (se nx : Int) (s : Sb) : Prop where
  i0 : 0 ≤ s.id
  i1 : s.id < nx
  st : 0 ≤ s.st
  sc : s.st ≤ s.cu
  cu : s.cu ≤ se
  gt : 0 ≤ s.gt
  lo : 0 ≤ s.lo
  pa : 0 ≤ s.pa
  su : s.gt + s.lo + s.pa = s.cu - s.st
  fl : okF s.fl = true
structure OkW (v : Rv) : Prop where
  cp : 1 ≤ v.cp ∧ v.cp ≤ 16
  se : 0 ≤ v.se ∧ v.se ≤ 1000000000
  nx : 0 ≤ v.nx ∧ v.nx ≤ 1000000000
  few : v.sb.length ≤ 12
  sub : ∀ s, s ∈ v.sb → SubP v.se v.nx s
  inc : (v.sb.map (·.id)).Pairwise (· < ·)
  ms : ∀ m, m ∈ v.it → okB m.1 m.2.1 m.2.2 = true
  nod : (v.ln ++ v.gs).Nodup
  mem : ∀ y, y ∈ v.ln ++ v.gs → y ∈ v.sb.map (·.id)
  att : ∀ s, s ∈ v.sb → s.id ∈ v.ln → s.cu = v.se
  clo : v.cl = true → v.ln = []
theorem get_sb {sb : List Sb} {k : Nat} (hk : k < sb.length) : sb.getD k Sb0 = sb[k] := by rw [List.getD, List.getElem?_eq_getElem hk, Option.getD_some]
theorem get_sbm {sb : List Sb} {k : Nat} (hk : k < sb.length) : sb.getD k Sb0 ∈ sb := by rw [get_sb hk]; exact List.getElem_mem _
theorem sb_idx {sb : List Sb} {s : Sb} (h : s ∈ sb) : ∃ k, k < sb.length ∧ sb.getD k Sb0 = s := by
  obtain ⟨k, hk, e⟩ := List.getElem_of_mem h
  exact ⟨k, hk, by rw [get_sb hk]; exact e⟩
theorem at_id2 {sb : List Sb} {id : Int} (h : 0 ≤ atR sb id) : (atR sb id).toNat < sb.length ∧ (sb.getD (atR sb id).toNat Sb0).id = id := by
  have h0 := (at_lt (sb := sb) (id := id) (by omega)).1
  refine ⟨h0, ?_⟩
  unfold atR at h h0 ⊢
  split
  · rename_i i hi
    rw [List.findIdx?_eq_some_iff_getElem] at hi
    obtain ⟨h1, h2, _⟩ := hi
    rw [Int.toNat_natCast, get_sb h1]
    simpa using h2
  · rename_i hi
    rw [hi] at h
    simp at h
theorem inc_lt {sb : List Sb} (h : (sb.map (·.id)).Pairwise (· < ·)) {i j : Nat} (hij : i < j) (hj : j < sb.length) : (sb.getD i Sb0).id < (sb.getD j Sb0).id := by
  rw [List.pairwise_map, List.pairwise_iff_getElem] at h
  rw [get_sb (by omega), get_sb hj]
  exact h i j (by omega) hj hij
theorem inc_eq {sb : List Sb} (h : (sb.map (·.id)).Pairwise (· < ·)) {i j : Nat} (hi : i < sb.length) (hj : j < sb.length) (e : (sb.getD i Sb0).id = (sb.getD j Sb0).id) : i = j := by
  rcases Nat.lt_trichotomy i j with k | k | k
  · have := inc_lt h k hj; omega
  · exact k
  · have := inc_lt h k hi; omega
theorem inc_one {sb : List Sb} (h : (sb.map (·.id)).Pairwise (· < ·)) {s t : Sb} (hs : s ∈ sb) (ht : t ∈ sb) (e : s.id = t.id) : s = t := by
  obtain ⟨i, hi, rfl⟩ := sb_idx hs
  obtain ⟨j, hj, rfl⟩ := sb_idx ht
  rw [inc_eq h hi hj e]
theorem at_of {sb : List Sb} (h : (sb.map (·.id)).Pairwise (· < ·)) {k : Nat} (hk : k < sb.length) : atR sb (sb.getD k Sb0).id = (k : Int) :=
  atR_at hk (fun j hj e => by
    have := inc_lt h hj hk
    rw [get_sb (by omega), e] at this
    omega) (by rw [get_sb hk])
theorem at_mem {sb : List Sb} {y : Int} (h : y ∈ sb.map (·.id)) : 0 ≤ atR sb y := by
  rcases Int.lt_or_le (atR sb y) 0 with k | k
  · obtain ⟨s, hs, rfl⟩ := List.mem_map.1 h
    exfalso
    unfold atR at k
    split at k
    · omega
    · rename_i hf
      rw [List.findIdx?_eq_none_iff] at hf
      have := hf s hs
      simp at this
  · exact k
theorem subI_iff {v : Rv} {s : Sb} : subI v.se s = true ↔ 0 ≤ s.st ∧ s.st ≤ s.cu ∧ s.cu ≤ v.se ∧ 0 ≤ s.gt ∧ 0 ≤ s.lo ∧ 0 ≤ s.pa ∧ s.gt + s.lo + s.pa = s.cu - s.st ∧ okF s.fl = true := by
  simp only [subI, Bool.and_eq_true, decide_eq_true_eq]
  constructor
  · rintro ⟨⟨a, b, c⟩, ⟨d, _⟩, ⟨e, _⟩, ⟨f, _⟩, g, h⟩
    exact ⟨a, b, c, d, e, f, g, h⟩
  · rintro ⟨a, b, c, d, e, f, g, h⟩
    exact ⟨⟨a, b, c⟩, ⟨d, by omega⟩, ⟨e, by omega⟩, ⟨f, by omega⟩, g, h⟩
theorem subs_iff (v : Rv) : subsITo v v.sb.length = true ↔ (∀ s, s ∈ v.sb → SubP v.se v.nx s) ∧ (v.sb.map (·.id)).Pairwise (· < ·) := by
  unfold subsITo
  rw [List.all_eq_true]
  have e0 : (⟨0, 0, 0, 0, 0, 0, []⟩ : Sb) = Sb0 := rfl
  simp only [List.mem_range, subsIAt, leastAt, Bool.and_eq_true, decide_eq_true_eq, subI_iff, e0]
  constructor
  · intro h
    have h0 : ∀ i, i < v.sb.length → 0 ≤ (v.sb.getD i Sb0).id := by
      intro i
      induction i with
      | zero => intro hi; have := (h 0 hi).1.1; simpa using this
      | succ i ih =>
        intro hi
        have h1 := (h (i + 1) hi).1.1
        have h2 := ih (by omega)
        simp only [Nat.succ_ne_zero, if_false, Nat.add_sub_cancel] at h1
        omega
    have hs : ∀ i, i + 1 < v.sb.length → (v.sb.getD i Sb0).id < (v.sb.getD (i + 1) Sb0).id := fun i hi => by
      have h1 := (h (i + 1) hi).1.1
      simp only [Nat.succ_ne_zero, if_false, Nat.add_sub_cancel] at h1
      omega
    refine ⟨fun s hs' => ?_, ?_⟩
    · obtain ⟨k, hk, rfl⟩ := sb_idx hs'
      obtain ⟨⟨_, hn⟩, a, b, c, d, e, f, g, i⟩ := h k hk
      exact ⟨h0 k hk, hn, a, b, c, d, e, f, g, i⟩
    · rw [List.pairwise_map, List.pairwise_iff_getElem]
      intro i j hi hj hij
      have key : ∀ d, i + d + 1 < v.sb.length → (v.sb.getD i Sb0).id < (v.sb.getD (i + d + 1) Sb0).id := by
        intro d
        induction d with
        | zero => intro hd; exact hs i hd
        | succ d ih => intro hd; have h1 := ih (by omega); have h2 := hs (i + d + 1) (by omega); rw [show i + (d + 1) + 1 = i + d + 1 + 1 by omega]; omega
      have h2 := key (j - i - 1) (by omega)
      rw [show i + (j - i - 1) + 1 = j by omega, get_sb hi, get_sb hj] at h2
      exact h2
  · rintro ⟨h1, h2⟩ i hi
    have hp := h1 _ (get_sbm hi)
    refine ⟨⟨?_, hp.i1⟩, hp.st, hp.sc, hp.cu, hp.gt, hp.lo, hp.pa, hp.su, hp.fl⟩
    split
    · exact hp.i0
    · have := inc_lt h2 (show i - 1 < i by omega) hi
      omega
theorem okR_iff (v : Rv) : okR restR v = true ↔ OkW v ∧ (v.it.length : Int) = v.se - oldR v := by
  rw [← okI_eq]
  simp only [okI, headI, subsI, itemsI, waitI, msgsR, Bool.and_eq_true, decide_eq_true_eq, subs_iff, List.all_eq_true, lineI, grantI, Bool.not_eq_true', Bool.and_eq_false_iff, decide_eq_false_iff_not]
  constructor
  · rintro ⟨⟨hc, hs, hn⟩, ⟨h12, hsub, hinc⟩, ⟨hlen, hmsg⟩, hcl, hln, hgs, hd⟩
    refine ⟨⟨hc, hs, hn, h12, hsub, hinc, hmsg, dist_nodup hd, fun y hy => ?_, fun s hs hl => ?_, fun hc => ?_⟩, hlen⟩
    · rcases List.mem_append.1 hy with hy | hy
      · exact atR_mem (hln y hy).1
      · exact atR_mem (hgs y hy)
    · obtain ⟨k, hk, rfl⟩ := sb_idx hs
      have h1 := (hln _ hl).2
      rw [at_of hinc hk] at h1
      exact h1
    · rcases hcl with hcl | hcl
      · rw [hc] at hcl; cases hcl
      · exact List.length_eq_zero_iff.1 (by omega)
  · rintro ⟨h, hlen⟩
    refine ⟨⟨h.cp, h.se, h.nx⟩, ⟨h.few, h.sub, h.inc⟩, ⟨hlen, h.ms⟩, ?_, fun y hy => ?_, fun y hy => ?_, ?_⟩
    · cases hc : v.cl
      · exact .inl rfl
      · right; rw [h.clo hc]; simp
    · have h1 := at_mem (h.mem y (List.mem_append.2 (.inl hy)))
      obtain ⟨h2, h3⟩ := at_id2 h1
      exact ⟨h1, h.att _ (get_sbm h2) (by rw [h3]; exact hy)⟩
    · exact at_mem (h.mem y (List.mem_append.2 (.inr hy)))
    · rw [dist_iff]
      intro i hi
      have hn := h.nod
      rw [List.nodup_iff_pairwise_ne, List.pairwise_iff_getElem] at hn
      simp only [hasL, List.getD_eq_getElem?_getD, List.getElem?_eq_getElem hi, Option.getD_some, List.contains_eq_mem, decide_eq_false_iff_not]
      intro hm
      obtain ⟨j, hj, e⟩ := List.mem_take_iff_getElem.1 hm
      exact hn j i (by omega) hi (by omega) e
theorem old_trim (v : Rv) : oldR (trimR v) = oldR v := by unfold trimR; split <;> rfl
theorem ok_trim {v : Rv} (h : OkW v) (hl : v.se - oldR v ≤ (v.it.length : Int)) : okR restR (trimR v) = true := by
  rw [okR_iff, old_trim]
  have hb := oldR_bd (v := v) h.se.1 h.cp.1
  unfold trimR
  split
  · refine ⟨⟨h.cp, h.se, h.nx, h.few, h.sub, h.inc, fun m hm => h.ms m (List.mem_of_mem_drop hm), h.nod, h.mem, h.att, h.clo⟩, ?_⟩
    show ((v.it.drop _).length : Int) = v.se - oldR v
    rw [List.length_drop]
    omega
  · exact ⟨h, by omega⟩
end Go.Proofs.YtdboaoejlkkoeaaGreat
namespace Go.Proofs.YtdboaoejlkkoeaaGreat
open Go.RowKit Pl Il
def bdV : Bd → Value
  | .inl n => .iface 193 (.int .i64 n)
  | .inr s => .iface 194 (.string s)
def BdOk : Bd → Prop
  | .inl _ => True
  | .inr s => s.size ≤ 40
def GOk (W : World) : Prop := ∃ m, W.cell? ⟨0, 0, none⟩ = some (.int .i64 m)
theorem GOk.keep {W W' : World} (h : GOk W) (hb : Below W.heap.size W W') : GOk W' := by
  obtain ⟨m, h⟩ := h
  exact ⟨m, by rw [hb.cell (World.block_lt_of_cell? W _ h)]; exact h⟩
def Does (F : List Nat) (u : World) (k : Nat) (caps : Array Value) (p : Pd) : Prop :=
  ∀ (W : World) (b : Bd), BdOk b → GOk W → (∀ j, j ∈ F → W.heap[j]? = u.heap[j]?) → Calls Tryz.prog k (#[bdV b] ++ caps) W fun e W' => e = .returned (.bool (p b)) ∧ Below W.heap.size W W'
def RepP (F : List Nat) (u : World) (v : Value) (p : Pd) : Prop :=
  (∀ j, j ∈ F → j < u.heap.size) ∧ ∃ (k : Nat) (caps : Array Value), v = .func (.func k) #[] caps ∧ (∀ args W, (callFunc k args).run Tryz.prog W = .ok (.enter k args) W) ∧ Does F u k caps p
theorem as_nn (n : Int) (u : World) : (Instr.typeAssert (.iface 193 (.int .i64 n)) 155 193 true).run Tryz.prog u = .ok (.tuple #[.int .i64 n, .bool true]) u := by kernel_rfl
theorem as_nt (s : ByteArray) (u : World) : (Instr.typeAssert (.iface 194 (.string s)) 155 193 true).run Tryz.prog u = .ok (.tuple #[.int .i64 0, .bool false]) u := by kernel_rfl
theorem as_tn (n : Int) (u : World) : (Instr.typeAssert (.iface 193 (.int .i64 n)) 155 194 true).run Tryz.prog u = .ok (.tuple #[.string ⟨#[]⟩, .bool false]) u := by kernel_rfl
theorem as_tt (s : ByteArray) (u : World) : (Instr.typeAssert (.iface 194 (.string s)) 155 194 true).run Tryz.prog u = .ok (.tuple #[.string s, .bool true]) u := by kernel_rfl
theorem passAll_does (u : World) : Does [] u 183 #[] (fun _ => true) := by
  intro W b _ _ _
  cases b <;>
  · unfold bdV
    go_enter Tryz.func183, Tryz.ntmps183
    go_wp2
    go_ret
    exact ⟨rfl, Below.refl _ _⟩
theorem num_txt (c : Nat) (s : ByteArray) (W : World) : Calls Tryz.prog 207 #[bdV (.inr s), .pointer (some ⟨c, 0, none⟩)] W fun e W' => e = .returned (.bool false) ∧ Below W.heap.size W W' := by
  have a1 := as_nt s
  unfold bdV
  go_enter Tryz.func207, Tryz.ntmps207
  go_wp2
  go_ret
  exact ⟨rfl, Below.refl _ _⟩
theorem txt_num (c : Nat) (n : Int) (W : World) : Calls Tryz.prog 208 #[bdV (.inl n), .pointer (some ⟨c, 0, none⟩)] W fun e W' => e = .returned (.bool false) ∧ Below W.heap.size W W' := by
  have a1 := as_tn n
  unfold bdV
  go_enter Tryz.func208, Tryz.ntmps208
  go_wp2
  go_ret
  exact ⟨rfl, Below.refl _ _⟩
open Go.RowKit Pl Il
theorem num_2 (c : Nat) (n : Int) (W : World) (hc : W.cell? ⟨c, 0, none⟩ = some (.func (.func 198) #[] #[])) : Calls Tryz.prog 207 #[bdV (.inl n), .pointer (some ⟨c, 0, none⟩)] W fun e W' => e = .returned (.bool true) ∧ Below W.heap.size W W' := by
  have a1 := as_nn n
  unfold bdV
  go_enter Tryz.func207, Tryz.ntmps207
  go_wp2
  go_ret
  exact ⟨rfl, Below.refl _ _⟩
theorem num_4 (c x : Nat) (n num : Int) (W : World) (hc : W.cell? ⟨c, 0, none⟩ = some (.func (.func 201) #[] #[.pointer (some ⟨x, 0, none⟩)])) (hx : W.cell? ⟨x, 1, none⟩ = some (.int .i64 num)) : Calls Tryz.prog 207 #[bdV (.inl n), .pointer (some ⟨c, 0, none⟩)] W fun e W' => e = .returned (.bool (decide (n < num))) ∧ Below W.heap.size W W' := by
  have a1 := as_nn n
  unfold bdV
  go_enter Tryz.func207, Tryz.ntmps207
  go_wp2
  all_goals go_ret
  all_goals exact ⟨by simp_all, Below.refl _ _⟩
theorem num_5 (c x : Nat) (n num : Int) (W : World) (hnum : 1 ≤ num) (hc : W.cell? ⟨c, 0, none⟩ = some (.func (.func 202) #[] #[.pointer (some ⟨x, 0, none⟩)])) (hx : W.cell? ⟨x, 1, none⟩ = some (.int .i64 num)) : Calls Tryz.prog 207 #[bdV (.inl n), .pointer (some ⟨c, 0, none⟩)] W fun e W' => e = .returned (.bool (decide (n.tmod num = 0))) ∧ Below W.heap.size W W' := by
  have a1 := as_nn n
  have h0 : ¬ num = 0 := by omega
  have h1 : ¬ num = -1 := by omega
  unfold bdV
  go_enter Tryz.func207, Tryz.ntmps207
  go_wp2
  all_goals go_ret
  all_goals exact ⟨rbool (by rw [Bool.eq_iff_iff]; simp), Below.refl _ _⟩
theorem ext_take (s : ByteArray) (k : Nat) : (s.extract 0 k).toList = s.toList.take k := by
  rw [ByteArray.toList_eq, ByteArray.toList_eq, ByteArray.data_extract, Array.toList_extract]
  simp [List.extract]
theorem beg_eq (s t : ByteArray) : ((s.extract 0 t.size).toList == t.toList) = begB s t := by
  have hl : t.toList.length = t.size := by rw [ByteArray.toList_eq]; rfl
  rw [ext_take s t.size, Bool.eq_iff_iff]
  unfold begB
  rw [List.isPrefixOf_iff_prefix, List.prefix_iff_eq_take, hl]
  simp only [beq_iff_eq]
  exact eq_comm
theorem beg_no {s t : ByteArray} (h : ¬ t.size ≤ s.size) : begB s t = false := by
  have hl : t.toList.length = t.size := by rw [ByteArray.toList_eq]; rfl
  have hl' : s.toList.length = s.size := by rw [ByteArray.toList_eq]; rfl
  unfold begB
  rw [Bool.eq_false_iff]
  intro e
  have := (List.isPrefixOf_iff_prefix.1 e).length_le
  omega
theorem txt_3 (c : Nat) (s : ByteArray) (W : World) (hc : W.cell? ⟨c, 0, none⟩ = some (.func (.func 200) #[] #[])) : Calls Tryz.prog 208 #[bdV (.inr s), .pointer (some ⟨c, 0, none⟩)] W fun e W' => e = .returned (.bool true) ∧ Below W.heap.size W W' := by
  have a1 := as_tt s
  unfold bdV
  go_enter Tryz.func208, Tryz.ntmps208
  go_wp2
  go_ret
  exact ⟨rfl, Below.refl _ _⟩
theorem cont_eq : ∀ (l sub : List UInt8), Lib.contains l sub = inL sub l
  | [], sub => by
    cases sub <;> simp [Lib.contains, Lib.index, inL]
  | x :: l, sub => by
    have ih := cont_eq l sub
    unfold Lib.contains at ih ⊢
    unfold Lib.index inL
    rw [← ih]
    by_cases h : sub.isPrefixOf (x :: l) = true
    · simp [h]
    · simp only [h, Bool.false_or]
      by_cases h2 : Lib.index l sub = -1
      · simp [h2]
      · have : -1 ≤ Lib.index l sub := Lib.index_ge l sub
        have e : (Lib.index l sub == -1) = false := by simp [h2]
        simp only [e]
        simp
        omega
theorem txt_7 (c x : Nat) (s t : ByteArray) (W : World) (hs : s.size ≤ 40) (hG : GOk W) (hc : W.cell? ⟨c, 0, none⟩ = some (.func (.func 205) #[] #[.pointer (some ⟨x, 0, none⟩)])) (hx : W.cell? ⟨x, 2, none⟩ = some (.string t)) : Calls Tryz.prog 208 #[bdV (.inr s), .pointer (some ⟨c, 0, none⟩)] W fun e W' => e = .returned (.bool (inL t.toList s.toList)) ∧ Below W.heap.size W W' := by
  have a1 := as_tt s
  obtain ⟨m, hm⟩ := hG
  have HC : ∀ w, w.cell? ⟨0, 0, none⟩ = some (.int .i64 m) → Calls Tryz.prog 206 #[.string s, .string t] w fun e w' => e = .returned (.bool (Lib.contains s.data.toList t.data.toList)) ∧ w' = w := fun w hw => Any.strings_Contains Tryz.lays144 s t m w (by omega) hw
  rw [ByteArray.toList_eq, ByteArray.toList_eq, ← cont_eq]
  have HH := hidOf (HC W hm)
  clear HC
  unfold bdV
  go_enter Tryz.func208, Tryz.ntmps208
  go_wp2_with (first | (go_at_call 206; refine (HH.out).mono ?_; rintro e w1 ⟨rfl, rfl⟩) | go_in)
  all_goals go_ret
  all_goals exact ⟨rfl, Below.refl _ _⟩
theorem txt_6 (c x : Nat) (s t : ByteArray) (W : World) (hc : W.cell? ⟨c, 0, none⟩ = some (.func (.func 203) #[] #[.pointer (some ⟨x, 0, none⟩)])) (hx : W.cell? ⟨x, 2, none⟩ = some (.string t)) : Calls Tryz.prog 208 #[bdV (.inr s), .pointer (some ⟨c, 0, none⟩)] W fun e W' => e = .returned (.bool (begB s t)) ∧ Below W.heap.size W W' := by
  have a1 := as_tt s
  unfold bdV
  go_enter Tryz.func208, Tryz.ntmps208
  go_wp2
  all_goals go_ret
  all_goals refine ⟨rbool ?_, Below.refl _ _⟩
  all_goals first | exact beg_eq s t | exact (beg_no (by assumption)).symm
open Go.RowKit Pl Il
def zTm : Tm := (0, 0, ⟨#[]⟩)
theorem zero_flat (n : Nat) : (Builtin.zeroCells (Value.agg #[.int .i64 0, .int .i64 0, .string ⟨#[]⟩]).cells n).toList = qflat (List.replicate n zTm) := by
  have hz : (Value.agg #[.int .i64 0, .int .i64 0, .string ⟨#[]⟩]).cells = #[.int .i64 0, .int .i64 0, .string ⟨#[]⟩] := rfl
  rw [hz]
  refine List.ext_getElem? fun i => ?_
  by_cases hi : i < n * 3
  · have h := qflat_at (List.replicate n zTm) (i / 3) (i % 3) (by simp; omega) (by omega)
    rw [show i / 3 * 3 + i % 3 = i by omega, qg_eq (by simp; omega), List.getElem_replicate] at h
    rw [h]
    rw [List.getElem?_eq_getElem (by simp [Builtin.zeroCells]; omega)]
    simp only [Builtin.zeroCells, Array.getElem_toList, Array.getElem_map, Array.getElem_range]
    have : i % 3 = 0 ∨ i % 3 = 1 ∨ i % 3 = 2 := by omega
    rcases this with e | e | e <;> simp [e, qC, zTm]
  · rw [List.getElem?_eq_none (by simp [Builtin.zeroCells]; omega), List.getElem?_eq_none (by rw [length_qflat]; simp; omega)]
theorem clear_msgs (w : World) (b d n c : Nat) (cur : Array Value) (t : TypeId) (hn : 0 < n) (hg : w.heap[b]? = some (.cells cur t (0, 0))) (hs : d + n * 3 ≤ cur.size) :
    ∃ w', (∀ ty, (Builtin.clear_ #[24] ty #[.slice (some ⟨b, d, none⟩) n c]).run Tryz.prog w = .ok (.tuple #[]) w') ∧ CpyP b d n (List.replicate n zTm) w w' := by
  have hzl : (qflat (List.replicate n zTm)).length = n * 3 := by rw [length_qflat]; simp
  have hst := run_storeCells_at Tryz.prog b d t (qflat (List.replicate n zTm)) 0 cur w hg (by rw [hzl]; omega) (one_qflat _)
  simp only [Nat.add_zero] at hst
  refine ⟨w.setRow b (cur.toList.take d ++ qflat (List.replicate n zTm) ++ cur.toList.drop (d + (qflat (List.replicate n zTm)).length)).toArray, ?_, ⟨fun cur2 t2 h2 => ?_, grown_setRow _ _ _, fun j => ?_⟩⟩
  · intro ty
    obtain ⟨m, rfl⟩ : ∃ m, n = m + 1 := ⟨n - 1, by omega⟩
    have hst2 := hst
    rw [← zero_flat] at hst2
    simp only [Builtin.clear_]
    simp [run_underlying Tryz.underlying24, hst2]
    rw [zero_flat, hzl, ← Array.length_toList, zero_flat, hzl]
  · rw [hg] at h2
    cases h2
    refine ⟨_, setRow_heap w b cur _ t _ hg, ?_⟩
    simp only [List.size_toArray, List.length_append, List.length_take, List.length_drop, Array.length_toList, hzl]
    omega
  · rw [cell_setRow_same w b j cur _ t _ hg]
    have h := seg_at (l := cur.toList) (cs := qflat (List.replicate n zTm)) (d := d) (j := j) (by rw [hzl, Array.length_toList]; omega)
    rw [List.getElem?_toArray, h, hzl]
    split
    · rfl
    · simp [World.cell?, hg]
theorem clear_none (w : World) (ty : TypeId) (a : Option Addr) (c : Nat) : (Builtin.clear_ #[24] ty #[.slice a 0 c]).run Tryz.prog w = .ok (.tuple #[]) w := by
  cases a <;> simp [Builtin.clear_, run_underlying Tryz.underlying24]
structure DropP (b o f d n : Nat) (P P' : Nat → Tm) (w w' : World) : Prop where
  rnd : RndB b o P' w'
  grown : w.grownBy w' (some b)
  cells : ∀ j, (j < o ∨ o + 51 < j) → w'.cell? ⟨b, j, none⟩ = w.cell? ⟨b, j, none⟩
  fst : w'.cell? ⟨b, o + 51, none⟩ = some (.int .i64 ((f + d : Nat) : Int))
  same : ∀ i, d ≤ i → i < n → P' ((f + i) % 17) = P ((f + i) % 17)
  short : (∀ j, (P j).2.2.size ≤ maxLen) → ∀ j, (P' j).2.2.size ≤ maxLen
end Go.Proofs.YtdboaoejlkkoeaaGreat
namespace Go.Proofs.YtdboaoejlkkoeaaGreat
open Go.RowKit Go.Maps Pl Il
theorem erase_split {α : Type} (xs : List α) (k : Nat) : xs.eraseIdx k = xs.take k ++ xs.drop (k + 1) := List.eraseIdx_eq_take_drop_succ xs k
theorem svs_erase (xs : List Sa) (k : Nat) : svs (xs.eraseIdx k) = (svs xs).eraseIdx k := by
  unfold svs
  rw [erase_split, erase_split, List.map_append, List.map_take, List.map_drop]
theorem erase_mem {xs : List Sa} {k : Nat} {x : Sa} (h : x ∈ xs.eraseIdx k) : x ∈ xs := List.mem_of_mem_eraseIdx h
def dropV (v : Rv) (id : Int) (k : Nat) : Rv := ⟨v.cp, v.se, v.it, v.nx, v.sb.eraseIdx k, lessL v.ln id, lessL v.gs id, v.cl⟩
theorem drop_old (v : Rv) (id : Int) (k : Nat) : oldR v ≤ oldR (dropV v id k) := by
  refine old_mono rfl rfl ?_
  rw [least_iff]
  have hl := (least_iff v.sb v.se (leastR v.se v.sb)).1 (Int.le_refl _)
  exact ⟨hl.1, fun s hs => hl.2 s (List.mem_of_mem_eraseIdx hs)⟩
theorem drop_first {v : Rv} (h : okR restR v = true) (id : Int) (k : Nat) {f : Nat} (hf : v.se = ((f + v.it.length : Nat) : Int)) : ∃ d : Nat, d ≤ v.it.length ∧ oldR (dropV v id k) = ((f + d : Nat) : Int) ∧ trimR (dropV v id k) = { dropV v id k with it := v.it.drop d } := by
  obtain ⟨hcp, hse, _, h16, hlen, _⟩ := ok_head h
  have h1 := drop_old v id k
  have h2 := oldR_bd (v := dropV v id k) hse.1 hcp.1
  have e1 : (dropV v id k).se = v.se := rfl
  have e2 : (dropV v id k).it = v.it := rfl
  rw [e1] at h2
  obtain ⟨d, hd⟩ : ∃ d : Nat, oldR (dropV v id k) = ((f + d : Nat) : Int) := ⟨(oldR (dropV v id k) - f).toNat, by omega⟩
  refine ⟨d, by omega, hd, ?_⟩
  unfold trimR
  rw [e1, e2]
  by_cases h0 : d = 0
  · subst h0
    rw [if_neg (by omega), List.drop_zero]
    rfl
  · rw [if_pos (by omega), show v.it.length - (v.se - oldR (dropV v id k)).toNat = d by omega]
    first | done | rfl
def unsR (v : Rv) (id : Int) : Rv := if okR restR v = true then (if atR v.sb id < 0 then v else trimR (dropV v id (atR v.sb id).toNat)) else v
def unsC (v : Rv) (id : Int) : Int := if okR restR v = true then (if atR v.sb id < 0 then 3 else 0) else 1
def UnsDoneS (F : Nat) : Prop := ∀ (M : Rm) (v : Rv) (id : Int) (w : World), RIn w M v → RLe M 1048576 → RCap M → RWf v → (Lit.int .i64 id).wf = true →
  Calls Tryz.prog F #[.agg #[.int .i64 v.cp, .int .i64 v.se, .slice M.ia M.i M.ic, .int .i64 v.nx, .slice M.sa M.s M.sc, .slice M.la M.l M.lc, .slice M.ga M.g M.gc, .bool v.cl], .int .i64 id] w fun e w' => RgPS w (unsR v id) (unsC v id) e w'
end Go.Proofs.YtdboaoejlkkoeaaGreat
namespace Go.Proofs.YtdboaoejlkkoeaaGreat
open Go.RowKit Pl Il
theorem grown_of {w u : World} {b : Nat} (h : Below w.heap.size w u) : w.grownBy u (some b) := ⟨h.os, h.tape, h.output, h.size, fun k hk _ => h.block k hk⟩
theorem grown_set (w : World) (b p : Nat) (v : Value) : w.grownBy (w.setCell ⟨b, p, none⟩ v) (some b) := ⟨rfl, rfl, rfl, by simp, fun k _ hk => Below.heap_setCell _ _ _ _ (by rintro rfl; exact hk rfl)⟩
theorem qg_rep {n i : Nat} (h : i < n) : qg (List.replicate n zTm) i = zTm := by rw [qg_eq (by simpa using h), List.getElem_replicate]
def clrP (P : Nat → Tm) (s k : Nat) (j : Nat) : Tm := if s ≤ j ∧ j < s + k then zTm else P j
theorem RndB.clear {b o s k : Nat} {P : Nat → Tm} {w w' : World} (h : RndB b o P w) (hc : CpyP b (o + s * 3) k (List.replicate k zTm) w w') : RndB b o (clrP P s k) w' :=
  (h.copied hc (by simp)).ext fun j _ => by
    unfold clrP
    split
    · rename_i h1; rw [qg_rep (by omega)]
    · rfl
theorem clr_short {P : Nat → Tm} {s k : Nat} (h : ∀ j, (P j).2.2.size ≤ maxLen) : ∀ j, (clrP P s k j).2.2.size ≤ maxLen := fun j => by
  unfold clrP
  split
  · exact Nat.zero_le _
  · exact h j
theorem DropP.mk' {b o f d n : Nat} {P P' : Nat → Tm} {w w1 w2 : World} (hb : Below w.heap.size w w1) (hlt : b < w.heap.size) (hR : RndB b o P' w2) (hg : w1.grownBy w2 (some b)) (hc : ∀ j, (j < o ∨ o + 51 ≤ j) → w2.cell? ⟨b, j, none⟩ = w1.cell? ⟨b, j, none⟩)
    (hs : ∀ i, d ≤ i → i < n → P' ((f + i) % 17) = P ((f + i) % 17)) (hsh : (∀ j, (P j).2.2.size ≤ maxLen) → ∀ j, (P' j).2.2.size ≤ maxLen) {u : Value} (h51 : w.cell? ⟨b, o + 51, none⟩ = some u) :
    DropP b o f d n P P' w (w2.setCell ⟨b, o + 51, none⟩ (.int .i64 ((f + d : Nat) : Int))) := by
  refine ⟨hR.set _ (Nat.le_refl _) _, World.grownBy.trans (grown_of hb) (World.grownBy.trans hg (grown_set _ _ _ _)), fun j hj => ?_, ?_, hs, hsh⟩
  · rw [World.cell?_setCell_other _ _ _ _ (by intro e; injection e with _ e2; omega), hc j (by omega), hb.cell (p := ⟨b, j, none⟩) hlt]
  · exact World.cell?_setCell_same _ _ _ (by rw [hc _ (by omega), hb.cell (p := ⟨b, o + 51, none⟩) hlt]; exact h51)
set_option maxRecDepth 100000 in
set_option maxHeartbeats 4000000 in
theorem dropUpTo_any (b o f d n : Nat) (P : Nat → Tm) (w : World) (hR : RndB b o P w) (c51 : w.cell? ⟨b, o + 51, none⟩ = some (.int .i64 (f : Int))) (hd : d ≤ n) (hn : n ≤ 17) (hf : f + n ≤ 2000000000) :
  Calls Tryz.prog 175 #[.pointer (some ⟨b, o, none⟩), .int .i64 ((f + d : Nat) : Int)] w fun e w' => e = .returned (.tuple #[]) ∧ ∃ P', DropP b o f d n P P' w w' := by
 have hlt := hR.lt
 have HC := hidOf (span_any b o f d w (by omega) (by omega))
 have hs17 : f % 17 < 17 := Nat.mod_lt _ (by omega)
 have HR := hidOf hR
 have H51 := hidOf c51
 obtain ⟨s, hs⟩ : ∃ s, f % 17 = s := ⟨_, rfl⟩
 rw [hs] at HC hs17
 have HS := hidOf hs
 obtain ⟨fd, hfd⟩ : ∃ fd : Int, ((f + d : Nat) : Int) = fd := ⟨_, rfl⟩
 have HFD := hidOf hfd
 rw [hfd] at HC ⊢
 clear hs hR hfd
 by_cases hA : s + d ≤ 17
 ·simp only [spanA, spanB, if_pos hA] at HC
  by_cases hd0 : d = 0
  ·subst hd0
   go_enter Tryz.func175, Tryz.ntmps175
   go_wp2_with fail
   refine HC.out.mono ?_
   rintro e w1 ⟨rfl, hb1⟩
   have HB1 := hidOf hb1
   have q51 : w1.cell? ⟨b, o + 51, none⟩ = some (.int .i64 (f : Int)) := by rw [hb1.cell (p := ⟨b, o + 51, none⟩) hlt]; exact H51.out
   have f51 : w1.frozen? ⟨b, o + 51, none⟩ = false := (HR.out.keep hb1).fr _
   have k1 := fun ty => clear_none w1 ty (some ⟨b, o + s * 3, none⟩) (17 - s)
   have k2 := fun ty => clear_none w1 ty none 0
   clear HC c51 hb1
   go_wp2_with fail
   go_end0
   rw [← HFD.out]
   exact ⟨rfl, P, DropP.mk' HB1.out hlt (HR.out.keep HB1.out) ⟨rfl, rfl, rfl, Nat.le_refl _, fun _ _ _ => rfl⟩ (fun _ _ => rfl) (fun _ _ _ => rfl) (fun h => h) H51.out⟩
  ·go_enter Tryz.func175, Tryz.ntmps175
   go_wp2_with fail
   refine HC.out.mono ?_
   rintro e w1 ⟨rfl, hb1⟩
   have HB1 := hidOf hb1
   have hR1 := HR.out.keep hb1
   obtain ⟨cur, t, hg, hsz⟩ := hR1.blk
   obtain ⟨w2, hr2, hc2⟩ := clear_msgs w1 b (o + s * 3) d (17 - s) cur t (by omega) hg (by omega)
   have hR2 := hR1.clear hc2
   have k2 := fun ty => clear_none w2 ty none 0
   have q51 : w2.cell? ⟨b, o + 51, none⟩ = some (.int .i64 (f : Int)) := by rw [hc2.cells, if_neg (by omega), hb1.cell (p := ⟨b, o + 51, none⟩) hlt]; exact H51.out
   have f51 : w2.frozen? ⟨b, o + 51, none⟩ = false := hR2.fr _
   have HR2 := hidOf hR2
   have HC2 := hidOf hc2
   clear HC c51 hb1 hR1 hR2 hc2 hg hsz
   go_wp2_with fail
   go_end0
   rw [← HFD.out]
   refine ⟨rfl, clrP P s d, DropP.mk' HB1.out hlt HR2.out HC2.out.grown (fun j hj => by rw [HC2.out.cells, if_neg (by omega)]) (fun i h1 h2 => ?_) clr_short H51.out⟩
   have := HS.out
   unfold clrP
   rw [if_neg (by omega)]
 ·simp only [spanA, spanB, if_neg hA] at HC
  go_enter Tryz.func175, Tryz.ntmps175
  go_wp2_with fail
  refine HC.out.mono ?_
  rintro e w1 ⟨rfl, hb1⟩
  have HB1 := hidOf hb1
  have hR1 := HR.out.keep hb1
  obtain ⟨cur, t, hg, hsz⟩ := hR1.blk
  obtain ⟨w2, hr2, hc2⟩ := clear_msgs w1 b (o + s * 3) (17 - s) (17 - s) cur t (by omega) hg (by omega)
  have hR2 := hR1.clear hc2
  obtain ⟨cur2, t2, hg2, hsz2⟩ := hR2.blk
  obtain ⟨w3, hr3, hc3⟩ := clear_msgs w2 b (o + 0 * 3) (s + d - 17) 17 cur2 t2 (by omega) hg2 (by omega)
  have hR3 := hR2.clear hc3
  rw [Nat.zero_mul, Nat.add_zero] at hr3
  have q51 : w3.cell? ⟨b, o + 51, none⟩ = some (.int .i64 (f : Int)) := by rw [hc3.cells, if_neg (by omega), hc2.cells, if_neg (by omega), hb1.cell (p := ⟨b, o + 51, none⟩) hlt]; exact H51.out
  have f51 : w3.frozen? ⟨b, o + 51, none⟩ = false := hR3.fr _
  have HR3 := hidOf hR3
  have HC2 := hidOf hc2
  have HC3 := hidOf hc3
  clear HC c51 hb1 hR1 hR2 hR3 hc2 hc3 hg hsz hg2 hsz2
  go_wp2_with fail
  go_end0
  rw [← HFD.out]
  refine ⟨rfl, clrP (clrP P s (17 - s)) 0 (s + d - 17), DropP.mk' HB1.out hlt HR3.out (HC2.out.grown.trans HC3.out.grown) (fun j hj => by rw [HC3.out.cells, if_neg (by omega), HC2.out.cells, if_neg (by omega)]) (fun i h1 h2 => ?_) (fun h => clr_short (clr_short h)) H51.out⟩
  have := HS.out
  unfold clrP
  rw [if_neg (by omega), if_neg (by omega)]
open Go.RowKit Pl Il
theorem RBody.drop {B b : Nat} {A : Na} {P P' : Nat → Tm} {f d : Nat} {v : Rv} {sa : Option Addr} {s sc : Nat} {ys : List Sa} {w w' : World} (h : RBody B b A P f v sa s sc ys w) (hD : DropP b 3 f d v.it.length P P' w w') (hd : d ≤ v.it.length) : RBody B b A P' (f + d) { v with it := v.it.drop d } sa s sc ys w' := by
  have hg := hD.grown
  have ct : ∀ j, (j < 3 ∨ 3 + 51 < j) → ∀ {u : Value}, w.cell? ⟨b, j, none⟩ = some u → w'.cell? ⟨b, j, none⟩ = some u := fun j hj u e => by rw [hD.cells j hj]; exact e
  have hl : (v.it.drop d).length = v.it.length - d := List.length_drop
  refine ⟨⟨Nat.lt_of_lt_of_le h.wst.lt hg.size, h.wst.ge, ct 0 (by omega) h.wst.c0, ct 1 (by omega) h.wst.c1, fun o => hD.rnd.fr o, ⟨rowG h.wst.rows.one hg (fun q e => by injection e with e; rw [← e]; exact h.wst.ne1), rowG h.wst.rows.two hg (fun q e => by injection e with e; rw [← e]; exact h.wst.ne2), h.wst.rows.ne⟩, h.wst.ne1, h.wst.ne2⟩, hD.rnd, ct 2 (by omega) h.c2, hD.fst, ?_, ct 56 (by omega) h.c56, ct 57 (by omega) h.c57, ct 58 (by omega) h.c58, ⟨rowG h.srow.sb hg (fun q e => by injection e with e; rw [← e]; exact h.nb.1), fun x hx => rowG (h.srow.fl x hx) hg (fun q e => by injection e with e; rw [← e]; exact h.nb.2 x hx), h.srow.fls, h.srow.apt⟩, h.sv, ?_, hD.short h.sh, ?_, ?_, h.nb, h.ap⟩
  · have := ct (3 + 52) (by omega) h.nxt
    rw [this]
    show some (Value.int .i64 ((f + v.it.length : Nat) : Int)) = some (.int .i64 ((f + d + (v.it.drop d).length : Nat) : Int))
    rw [hl, show f + d + (v.it.length - d) = f + v.it.length by omega]
  · show itemsP P' (f + d) (v.it.drop d).length = v.it.drop d
    have e := h.its
    refine List.ext_getElem (by rw [itemsP_len]) fun i h1 h2 => ?_
    rw [itemsP_len, hl] at h1
    have e2 : (v.it.drop d)[i]'h2 = (itemsP P f v.it.length)[d + i]'(by rw [itemsP_len]; omega) := by
      rw [List.getElem_drop]
      congr 1
      exact e.symm
    rw [e2]
    simp only [itemsP, List.getElem_map, List.getElem_range]
    rw [show f + d + i = f + (d + i) by omega]
    exact hD.same (d + i) (by omega) (by omega)
  · show v.se = ((f + d + (v.it.drop d).length : Nat) : Int)
    rw [hl, show f + d + (v.it.length - d) = f + v.it.length by omega]
    exact h.se
  · have := h.few
    show (v.it.drop d).length ≤ 17 ∧ f + d + (v.it.drop d).length ≤ 2000000000
    omega
open Go.RowKit Pl Il
theorem SRow.sub {B : Nat} {w : World} {a : Option Addr} {n c : Nat} {ys : List Sa} (h : SRow B w a n c ys) : SubAt w a n ys := by
  have hfl : ∀ x, x ∈ ys → OwnF B w x.a x.n x.s.fl := fun x hx => by
    obtain ⟨a1, c1, e1, _, h1⟩ := ownF_of (h.fl x hx) x.s.fl rfl (h.fls x hx)
    cases e1
    exact h1
  obtain ⟨hl, _, hr⟩ := rowS h.sb
  refine ⟨hl, fun x hx => (hfl x hx).tm, ?_⟩
  rcases hr with k | ⟨b, e, _, hlt, _, hc⟩
  · exact .inl k
  · exact .inr ⟨b, 0, e, hlt, hc⟩
set_option maxRecDepth 100000 in
set_option maxHeartbeats 4000000 in
theorem oldest_any (B b : Nat) (A : Na) (P : Nat → Tm) (f : Nat) (v : Rv) (sa : Option Addr) (s sc : Nat) (ys : List Sa) (w : World) (hR : RBody B b A P f v sa s sc ys w) (hs : s ≤ 2097152) (hse : 0 ≤ v.se ∧ v.se ≤ 1000000000) (hcp : 1 ≤ v.cp ∧ v.cp ≤ 16) :
    Calls Tryz.prog 128 #[.pointer (some ⟨b, 0, none⟩)] w fun e w' => e = .returned (.int .i64 (oldR v)) ∧ Below w.heap.size w w' := by
  have hH := hR.s
  have HC := hidOf (oldestOf_any ⟨none, 0, 0, sa, s, sc, ys, none, 0, 0, none, 0, 0⟩ v w.drew (hR.srow.keep (Below.refl _ _).drew).sub hR.sv hs hse hcp)
  simp only at HC
  clear hR hs hse hcp
  go_enter Tryz.func128, Tryz.ntmps128
  go_upto_region 1 with fail
  refine wp_region_noPanic ?_
  refine wp_region_held_drew (S := fun w' => RbS b A v sa s sc w') (by kernel_rfl) hH.drew (fun hHeld => ?_)
  refine tK 0 ?_ rfl (by kernel_rfl) (by rfl) ?_ (by assumption) (fun _ _ _ h => h) ?_
  case refine_2 => (intro w hSw; (try dsimp only at hSw); go_simp; try with_reducible rfl)
  simp only [Act.put, List.getElem_toArray, List.getElem_cons_zero, List.setIfInBounds_toArray, List.set_cons_zero, List.set_cons_succ]
  refine tR 1 ?_
  refine tR 2 ?_
  refine tR 3 ?_
  refine tR 4 ?_
  refine tR 5 ?_
  refine tR 6 ?_
  refine tR 7 ?_
  refine tR 8 ?_
  refine tR 9 ?_
  refine tR 10 ?_
  refine tR 11 ?_
  refine tR 12 ?_
  refine tW 13 (fun K hK => ?_)
  go_simp
  refine (HC.out).mono ?_
  rintro e w5 ⟨rfl, hb5⟩
  go_wp2_with fail
  have hS5 := RbS.keep hHeld hb5
  refine hK.out _ _ hS5 (fun hHeld => ?_)
  clear hK K
  refine tR 14 ?_
  refine wpAnyH_done (by kernel_rfl) ?_ _
  refine NoPanic.normal ?_
  go_wp2_with fail
  go_ret
  exact ⟨rfl, bl_trans (Below.refl _ _).drew hb5⟩
def DropD (B b : Nat) (A : Na) (f d : Nat) (v : Rv) (sa : Option Addr) (s sc : Nat) (ys : List Sa) (w : World) (e : Ending) (w' : World) : Prop := e = .returned (.tuple #[]) ∧ ∃ P', RBody B b A P' (f + d) { v with it := v.it.drop d } sa s sc ys w' ∧ w.grownBy w' (some b)
set_option maxRecDepth 100000 in
set_option maxHeartbeats 4000000 in
theorem dropOld_any (B b : Nat) (A : Na) (P : Nat → Tm) (f : Nat) (v : Rv) (sa : Option Addr) (s sc : Nat) (ys : List Sa) (w : World) (hR : RBody B b A P f v sa s sc ys w) (hs : s ≤ 2097152) (hse : 0 ≤ v.se ∧ v.se ≤ 1000000000) (hcp : 1 ≤ v.cp ∧ v.cp ≤ 16) (d : Nat) (hd : d ≤ v.it.length) (ho : oldR v = ((f + d : Nat) : Int)) :
    Calls Tryz.prog 146 #[.pointer (some ⟨b, 0, none⟩)] w fun e w' => DropD B b A f d v sa s sc ys w e w' := by
  have HRd := hidOf (hR.keep (Below.refl _ _).drew)
  have HR := hidOf hR
  have HC := hidOf (oldest_any B b A P f v sa s sc ys w.drew HRd.out hs hse hcp)
  have HO := hidOf ho.symm
  clear hR hs hse hcp ho
  generalize hov : oldR v = ov at *
  have HOv := hidOf hov
  clear hov
  go_enter Tryz.func146, Tryz.ntmps146
  go_upto_region 0 with fail
  refine wp_region_noPanic ?_
  refine wp_region_held_drew (S := fun _ => True) (by kernel_rfl) True.intro (fun hHeld => ?_)
  refine tK 0 ?_ rfl (by kernel_rfl) (by rfl) ?_ (by assumption) (fun _ _ _ h => h) ?_
  case refine_2 => (intro w hSw; (try dsimp only at hSw); go_simp; try with_reducible rfl)
  simp only [Act.put, List.getElem_toArray, List.getElem_cons_zero, List.setIfInBounds_toArray, List.set_cons_zero, List.set_cons_succ]
  refine tR 1 ?_
  refine tR 2 ?_
  refine tR 3 ?_
  refine tW 4 (fun K hK => ?_)
  go_simp
  refine (HC.out).mono ?_
  rintro e w5 ⟨rfl, hb5⟩
  go_wp2_with fail
  refine hK.out _ _ True.intro (fun hHeld => ?_)
  clear hK K
  have body5 := HRd.out.keep hb5
  have HD := hidOf (dropUpTo_any b 3 f d v.it.length P w5 body5.rnd body5.fst hd (by have := HR.out.few.1; omega) (by have := HR.out.few.2; omega))
  rw [HO.out] at HD
  refine tW 5 (fun K hK => ?_)
  go_simp
  refine (HD.out).mono ?_
  rintro e w6 ⟨rfl, P', hD6⟩
  go_wp2_with fail
  refine hK.out _ _ True.intro (fun hHeld => ?_)
  clear hK K
  refine wpAnyH_done (by kernel_rfl) ?_ _
  refine NoPanic.normal ?_
  go_wp2_with fail
  go_end0
  have bd : Below w.heap.size w w5 := bl_trans (Below.refl _ _).drew hb5
  exact ⟨rfl, P', body5.drop hD6 hd, (grown_of bd).trans hD6.grown⟩
end Go.Proofs.YtdboaoejlkkoeaaGreat
namespace Go.Proofs.YtdboaoejlkkoeaaGreat
open Go.RowKit Go.Maps Pl Il
theorem RBody.sub_row {B b : Nat} {A : Na} {P : Nat → Tm} {f : Nat} {v : Rv} {sa : Option Addr} {s sc : Nat} {ys : List Sa} {w : World} (h : RBody B b A P f v sa s sc ys w) {k : Nat} (hk : k < v.sb.length) : ∃ g, sa = some ⟨g, 0, none⟩ ∧ s = ys.length ∧ k < ys.length := by
  have hl : ys.length = v.sb.length := by rw [← h.sv]; simp [svs]
  obtain ⟨h1, ⟨e, e0⟩ | ⟨g, cp, cur, e, _⟩⟩ := h.srow.sb
  · rw [e0, length_sflat] at h1; omega
  · injection e with e1
    exact ⟨g, e1, by rw [length_sflat] at h1; omega, by omega⟩
theorem RBody.mono {B B' b : Nat} {A : Na} {P : Nat → Tm} {f : Nat} {v : Rv} {sa : Option Addr} {s sc : Nat} {ys : List Sa} {w : World} (h : RBody B b A P f v sa s sc ys w) (hb : B' ≤ B) : RBody B' b A P f v sa s sc ys w :=
  ⟨⟨h.wst.lt, Nat.le_trans hb h.wst.ge, h.wst.c0, h.wst.c1, h.wst.fr, ⟨rowM h.wst.rows.one hb, rowM h.wst.rows.two hb, h.wst.rows.ne⟩, h.wst.ne1, h.wst.ne2⟩, h.rnd, h.c2, h.fst, h.nxt, h.c56, h.c57, h.c58, h.srow.mono hb, h.sv, h.its, h.sh, h.se, h.few, h.nb, h.ap⟩
set_option maxRecDepth 100000 in
set_option maxHeartbeats 4000000 in
theorem sub_any (B b : Nat) (A : Na) (P : Nat → Tm) (f : Nat) (v : Rv) (g s sc : Nat) (ys : List Sa) (id : Int) (w : World) (hR : RBody B b A P f v (some ⟨g, 0, none⟩) s sc ys w) (hs : s ≤ 2097152) (k : Nat) (hat : atR v.sb id = (k : Int)) (hk : k < s) :
    Calls Tryz.prog 103 #[.pointer (some ⟨b, 0, none⟩), .int .i64 id] w fun e w' => e = .returned (.pointer (some ⟨g, k * 7, none⟩)) ∧ Below w.heap.size w w' := by
  have hH := hR.s
  have HC := hidOf (placeOfSub_any (some ⟨g, 0, none⟩) s sc ys id w.drew (hR.srow.keep (Below.refl _ _).drew).sub hs)
  rw [hR.sv, hat] at HC
  have hki : (k : Int) < (s : Int) := by omega
  clear hR hat
  go_enter Tryz.func103, Tryz.ntmps103
  go_upto_region 1 with fail
  refine wp_region_noPanic ?_
  refine wp_region_held_drew (S := fun w' => RbS b A v (some ⟨g, 0, none⟩) s sc w') (by kernel_rfl) hH.drew (fun hHeld => ?_)
  refine tK 0 ?_ rfl (by kernel_rfl) (by rfl) ?_ (by assumption) (fun _ _ _ h => h) ?_
  case refine_2 => (intro w hSw; (try dsimp only at hSw); go_simp; try with_reducible rfl)
  simp only [Act.put, List.getElem_toArray, List.getElem_cons_zero, List.setIfInBounds_toArray, List.set_cons_zero, List.set_cons_succ]
  refine tR 1 ?_
  refine tR 2 ?_
  refine tR 3 ?_
  refine tR 4 ?_
  refine tR 5 ?_
  refine tR 6 ?_
  refine tR 7 ?_
  refine tR 8 ?_
  refine tW 9 (fun K hK => ?_)
  go_simp
  refine (HC.out).mono ?_
  rintro e w5 ⟨rfl, hb5⟩
  go_wp2_with fail
  have hS5 := RbS.keep hHeld hb5
  refine hK.out _ _ hS5 (fun hHeld => ?_)
  clear hK K
  refine tR 10 ?_
  refine tR 11 ?_
  refine wpAnyH_done (by kernel_rfl) ?_ _
  refine NoPanic.normal ?_
  go_wp2_with fail
  go_ret
  exact ⟨rfl, bl_trans (Below.refl _ _).drew hb5⟩
def BtrP (w : World) (M : Rm) (v : Rv) (id : Int) (e : Ending) (w' : World) : Prop :=
  (okR restR v = false ∧ e = .returned (.tuple #[.pointer none, .int .i64 1]) ∧ Below w.heap.size w w') ∨
  (okR restR v = true ∧ atR v.sb id < 0 ∧ e = .returned (.tuple #[.pointer none, .int .i64 3]) ∧ Below w.heap.size w w') ∨
  (okR restR v = true ∧ ¬ atR v.sb id < 0 ∧ (hasL v.ln id || hasL v.gs id) = true ∧ e = .returned (.tuple #[.pointer none, .int .i64 5]) ∧ Below w.heap.size w w') ∨
  (okR restR v = true ∧ ¬ atR v.sb id < 0 ∧ (hasL v.ln id || hasL v.gs id) = false ∧ ∃ (b : Nat) (A : Na) (P : Nat → Tm) (f : Nat) (sa : Option Addr) (sc : Nat) (ys : List Sa), e = .returned (.tuple #[.pointer (some ⟨b, 0, none⟩), .int .i64 0]) ∧ RBody w.heap.size b A P f v sa M.s sc ys w' ∧ A.n = M.l ∧ A.n' = M.g ∧ (∀ y, y ∈ ys → ∃ x, x ∈ M.xs ∧ y.n = x.n) ∧ Below w.heap.size w w')
set_option maxRecDepth 100000 in
set_option maxHeartbeats 8000000 in
theorem bodyToRead_any (M : Rm) (v : Rv) (id : Int) (w : World) (hI : RIn w M v) (hm1 : RLe M 1048576) (hcap : RCap M) (hw : RWf v) (hid : (Lit.int .i64 id).wf = true) :
  Calls Tryz.prog 101 #[.agg #[.int .i64 v.cp, .int .i64 v.se, .slice M.ia M.i M.ic, .int .i64 v.nx, .slice M.sa M.s M.sc, .slice M.la M.l M.lc, .slice M.ga M.g M.gc, .bool v.cl], .int .i64 id] w fun e w' => BtrP w M v id e w' := by
 have hm := hm1.mono (k' := 2097152) (by omega)
 obtain ⟨U0, hU0⟩ : ∃ W, W = w.alloc (.cells #[.int .i64 v.cp, .int .i64 v.se, .slice M.ia M.i M.ic, .int .i64 v.nx, .slice M.sa M.s M.sc, .slice M.la M.l M.lc, .slice M.ga M.g M.gc, .bool v.cl] 28) := ⟨_, rfl⟩
 have B0 : Below w.heap.size w U0 := by rw [hU0]; exact bl_alloc (Below.refl _ _) _
 have A0 : BoxL w.heap.size (rC M v) U0 := by rw [hU0]; exact BoxL.new w (rC M v) _
 have HK := hidOf (implRingOk_any M v U0 (hI.keep B0) hm1 hcap hw)
 have p0 := A0.cs 0 (by simp)
 have p1 := A0.cs 1 (by simp)
 have p2 := A0.cs 2 (by simp)
 have p3 := A0.cs 3 (by simp)
 have p4 := A0.cs 4 (by simp)
 have p5 := A0.cs 5 (by simp)
 have p6 := A0.cs 6 (by simp)
 have p7 := A0.cs 7 (by simp)
 simp at p0 p1 p2 p3 p4 p5 p6 p7
 have HI := hidOf hI
 have HM := hidOf hm
 have HW := hidOf hw
 have HCap := hidOf hcap
 have HId := hidOf hid
 obtain ⟨q, hq⟩ : ∃ q, okR restR v = q := ⟨_, rfl⟩
 rw [hq] at HK
 have HQ := hidOf hq
 clear hI hm hm1 hcap hw hid hq
 go_enter Tryz.func101, Tryz.ntmps101
 go_upto_region 1 with fail
 rw [← hU0]
 clear hU0
 go_wp2_with fail
 refine (HK.out).mono ?_
 rintro e w1 ⟨rfl, b1⟩
 have A1 := A0.keep b1
 have B1 := bl_trans B0 b1
 have hs1 : w.heap.size < w1.heap.size := A1.lt
 clear A0 p0 p1 p2 p3 p4 p5 p6 p7 B0 b1 HK
 cases q
 ·go_wp2_with fail
  go_ret2
  exact .inl ⟨HQ.out, rfl, B1⟩
 have p0 := A1.cs 0 (by simp)
 have p1 := A1.cs 1 (by simp)
 have p2 := A1.cs 2 (by simp)
 have p3 := A1.cs 3 (by simp)
 have p4 := A1.cs 4 (by simp)
 have p5 := A1.cs 5 (by simp)
 have p6 := A1.cs 6 (by simp)
 have p7 := A1.cs 7 (by simp)
 simp at p0 p1 p2 p3 p4 p5 p6 p7
 have HPl := hidOf (placeOfSub_any M.sa M.s M.sc M.xs id w1 (HI.out.keep B1).sb HM.out.s)
 rw [HI.out.sv] at HPl
 obtain ⟨at', hat⟩ : ∃ a, atR v.sb id = a := ⟨_, rfl⟩
 rw [hat] at HPl
 have HAt := hidOf hat
 clear hat
 go_wp2_with fail
 refine (HPl.out).mono ?_
 rintro e w2 ⟨rfl, b2⟩
 have A2 := A1.keep b2
 have B2 := bl_trans B1 b2
 clear A1 B1 p0 p1 p2 p3 p4 p5 p6 p7 HPl
 by_cases hneg : at' < 0
 ·go_wp2_with fail
  go_ret2
  exact .inr (.inl ⟨HQ.out, by rw [HAt.out]; exact hneg, rfl, B2⟩)
 have HNeg := hidOf hneg
 obtain ⟨f, hse, hi, hf⟩ := ok_first HQ.out
 have HC := hidOf (ringBodyOf_any M v w2 f (HI.out.keep B2) HM.out HCap.out hse hi hf)
 have p0 := A2.cs 0 (by simp)
 have p1 := A2.cs 1 (by simp)
 have p2 := A2.cs 2 (by simp)
 have p3 := A2.cs 3 (by simp)
 have p4 := A2.cs 4 (by simp)
 have p5 := A2.cs 5 (by simp)
 have p6 := A2.cs 6 (by simp)
 have p7 := A2.cs 7 (by simp)
 simp at p0 p1 p2 p3 p4 p5 p6 p7
 clear hse hi hf
 go_wp2_with fail
 refine (HC.out).mono ?_
 rintro e w3 ⟨b, A, P, f2, sa, sc, ys, rfl, body3, hAn, hAn', hyn, b3⟩
 have B3 := bl_trans B2 b3
 have HT := hidOf (turnOf_any w2.heap.size b A v.ln v.gs id w3 body3.wst (by have := HM.out.l; omega) (by have := HM.out.g; omega) HW.out.ln HW.out.gs HId.out)
 have HBo := hidOf body3
 have HAn := hidOf (And.intro hAn hAn')
 clear A2 p0 p1 p2 p3 p4 p5 p6 p7 HC hAn hAn' body3 hneg
 obtain ⟨tt, htt⟩ : ∃ t, turnL v.ln v.gs id = t := ⟨_, rfl⟩
 rw [htt] at HT
 have HTt := hidOf htt
 clear htt
 go_wp2_with fail
 refine (HT.out).mono ?_
 rintro e w4 ⟨rfl, b4⟩
 have B4 := bl_trans B3 b4
 have HBo4 := hidOf ((HBo.out.keep b4).mono (B' := w.heap.size) B2.size)
 rcases turn_cases v.ln v.gs id with ⟨h0, h1⟩ | ⟨h0, h1, h2⟩ | ⟨h0, h1, h2⟩
 ·obtain rfl : tt = 4 := by rw [← HTt.out, h0]
  have HH := hidOf (show (hasL v.ln id || hasL v.gs id) = true by rw [h1]; rfl)
  clear h0 h1 HT
  go_wp2_with fail
  go_ret2
  exact .inr (.inr (.inl ⟨HQ.out, by rw [HAt.out]; have h := HNeg.out; omega, HH.out, rfl, B4⟩))
 ·obtain rfl : tt = 0 := by rw [← HTt.out, h0]
  have HH := hidOf (show (hasL v.ln id || hasL v.gs id) = true by rw [h1, h2]; rfl)
  clear h0 h1 h2 HT
  go_wp2_with fail
  go_ret2
  exact .inr (.inr (.inl ⟨HQ.out, by rw [HAt.out]; have h := HNeg.out; omega, HH.out, rfl, B4⟩))
 ·obtain rfl : tt = 3 := by rw [← HTt.out, h0]
  have HH := hidOf (show (hasL v.ln id || hasL v.gs id) = false by rw [h1, h2]; rfl)
  clear h0 h1 h2 HT
  go_wp2_with fail
  go_ret2
  exact .inr (.inr (.inr ⟨HQ.out, by rw [HAt.out]; have h := HNeg.out; omega, HH.out, b, A, P, f2, sa, sc, ys, rfl, HBo4.out, HAn.out.1, HAn.out.2, hyn, B4⟩))
end Go.Proofs.YtdboaoejlkkoeaaGreat
