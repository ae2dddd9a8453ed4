/-
  The program's TopicsOk, TopicAt: a name's place; which lists are right.
  TopicAt of both sides; the laws on TopicsOk and TopicAt.
-/
import Derived.Test.YtojajaibeifhoaaGreatDoorZTo33
import Derived.Test.YtojajaibeifhoaaGreatDoorZTo35
namespace Go.Proofs.YtojajaibeifhoaaGreatDoor
open Go.RowKit Pl Il Tn

/-- Has it that name? -/
theorem placeFnT_any (x : Ta) (s : ByteArray) (N : Nat) (w : World) (hN : w.cell? ⟨N, 0, none⟩ = some (.string s)) :
    Calls Tryz.prog 114 #[.agg #[.string x.nm, .int .i64 x.v.cp, .int .i64 x.v.se, .slice x.M.ia x.M.i x.M.ic, .int .i64 x.v.nx, .slice x.M.sa x.M.s x.M.sc, .slice x.M.la x.M.l x.M.lc, .slice x.M.ga x.M.g x.M.gc, .bool x.v.cl], .pointer (some ⟨N, 0, none⟩)] w fun e w' => e = .returned (.bool (decide (x.nm = s))) ∧ Below w.heap.size w w' := by
  have hB : Below w.heap.size w (w.alloc (.cells #[.string x.nm, .int .i64 x.v.cp, .int .i64 x.v.se, .slice x.M.ia x.M.i x.M.ic, .int .i64 x.v.nx, .slice x.M.sa x.M.s x.M.sc, .slice x.M.la x.M.l x.M.lc, .slice x.M.ga x.M.g x.M.gc, .bool x.v.cl] 40)) := bl_alloc (Below.refl _ _) _
  have hN2 : ∀ o, (w.alloc o).cell? ⟨N, 0, none⟩ = some (.string s) := fun o => by rw [World.cell?_alloc_old _ _ _ (Nat.ne_of_lt (World.block_lt_of_cell? w _ hN))]; exact hN
  by_cases hq : x.nm = s
  · have hqe := beq_str hq
    have HE := hidOf (show decide (x.nm = s) = true by simpa using hq)
    clear hq
    go_enter Tryz.func114, Tryz.ntmps114
    go_wp2
    go_ret
    exact ⟨rbool HE.out.symm, hB⟩
  · have hqe := bne_str hq
    have HE := hidOf (show decide (x.nm = s) = false by simpa using hq)
    clear hq
    go_enter Tryz.func114, Tryz.ntmps114
    go_wp2
    go_ret
    exact ⟨rbool HE.out.symm, hB⟩
set_option maxRecDepth 100000 in
set_option maxHeartbeats 4000000 in
theorem idxTop_any (a : Option Addr) (n cap : Nat) (xs : List Ta) (s : ByteArray) (N : Nat) (w : World) (hI : TopAt w a n xs) (hn : n ≤ 2097152) (hN : w.cell? ⟨N, 0, none⟩ = some (.string s)) :
    Calls Tryz.prog 113 #[.slice a n cap, .func (.func 114) #[] #[.pointer (some ⟨N, 0, none⟩)]] w fun e w' => e = .returned (.int .i64 (placeT (nms xs) s)) ∧ Below w.heap.size w w' := by
  have HL := hidOf hI.len
  have HI := hidOf hI
  have HNn := hidOf hn
  clear hI
  go_enter Tryz.func113, Tryz.ntmps113
  go_wp2_with fail
  go_loopw [8] (fun i wr => ∃ (k : Nat), k ≤ n ∧ i = .int .i64 k ∧ (∀ j, j < k → ¬ (tg xs j).nm = s) ∧ Below w.heap.size w wr) (fun i _ => n - (intOf i).toNat)
  case atStart => exact ⟨0, Nat.zero_le _, rfl, fun j hj => (by omega), Below.refl _ _⟩
  case round =>
    rename World => wr
    obtain ⟨k, hk, rfl, hall, hB⟩ := hrel
    have HA := hidOf hall
    have HB := hidOf hB
    clear hall
    by_cases hlt : k < n
    · have hki : (0 : Int) ≤ (k : Int) ∧ (k : Int) < (n : Int) := by omega
      have hkl : k < xs.length := by rw [HL.out]; exact hlt
      obtain hr | ⟨b, off, rfl, hb, hcell⟩ := (HI.out.keep hB).row
      · omega
      obtain ⟨c0, c1, c2, c3, c4, c5, c6, c7, c8⟩ := hcell k hlt
      have hNr : wr.cell? ⟨N, 0, none⟩ = some (.string s) := by rw [hB.cell (p := ⟨N, 0, none⟩) (World.block_lt_of_cell? w _ hN)]; exact hN
      have HC := hidOf (placeFnT_any (tg xs k) s N wr hNr)
      obtain ⟨y, hy⟩ : ∃ y, tg xs k = y := ⟨_, rfl⟩
      rw [hy] at c0 c1 c2 c3 c4 c5 c6 c7 c8 HC
      have HY := hidOf hy
      have HKl := hidOf hkl
      obtain ⟨q, hq⟩ : ∃ q, decide (y.nm = s) = q := ⟨_, rfl⟩
      rw [hq] at HC
      have HQ := hidOf hq
      clear hy hB hNr hcell hkl hq
      go_wp2_with fail
      refine (HC.out).mono ?_
      rintro e w1 ⟨rfl, hb1⟩
      have HB1 := hidOf (bl_trans HB.out hb1)
      clear hb1 HC HB
      cases q
      · go_wp2
        go_roundw
        case rel =>
          refine ⟨k + 1, by omega, by go_num, fun j hj => ?_, HB1.out⟩
          by_cases e : j = k
          · rw [e, HY.out]; simpa using HQ.out
          · exact HA.out j (by omega)
        case measure => simp [intOf]; omega
      · go_wp2
        go_ret
        refine ⟨congrArg (fun z => Ending.returned (.int .i64 z)) ?_, HB1.out⟩
        symm
        refine placeT_at (k := k) (by simpa [nms] using HKl.out) (fun j hj => ?_) ?_
        · rw [nms_get (by have := HKl.out; omega)]
          exact HA.out j hj
        · rw [nms_get HKl.out, HY.out]
          simpa using HQ.out
    · have hki : ¬ (k : Int) < (n : Int) := by omega
      clear hB
      go_wp2
      go_ret
      refine ⟨congrArg (fun z => Ending.returned (.int .i64 z)) ?_, HB.out⟩
      symm
      refine placeT_none (fun j hj => ?_)
      have hj1 : j < xs.length := by simpa [nms] using hj
      rw [nms_get hj1]
      exact HA.out j (by have := HL.out; omega)
theorem placeTop_any (a : Option Addr) (n cap : Nat) (xs : List Ta) (s : ByteArray) (w : World) (hI : TopAt w a n xs) (hn : n ≤ 2097152) :
    Calls Tryz.prog 61 #[.slice a n cap, .string s] w fun e w' => e = .returned (.int .i64 (placeT (nms xs) s)) ∧ Below w.heap.size w w' := by
  have hB : Below w.heap.size w (w.alloc (.cells #[.string s] 9)) := bl_alloc (Below.refl _ _) _
  have HC := hidOf (idxTop_any a n cap xs s w.heap.size (w.alloc (.cells #[.string s] 9)) (hI.keep hB) hn (by simp [World.cell?_alloc_new]))
  clear hI
  go_enter Tryz.func61, Tryz.ntmps61
  go_wp2_with fail
  refine (HC.out).mono ?_
  rintro e w1 ⟨rfl, hb1⟩
  have HB1 := hidOf (bl_trans hB hb1)
  clear hb1 HC hB
  go_wp2
  go_ret
  exact ⟨rfl, HB1.out⟩
theorem placeT_lt {xs : List Ta} {k : Nat} (hk : k < xs.length) : placeT (nms xs) (tg xs k).nm < (k : Int) ↔ ∃ j, j < k ∧ (tg xs j).nm = (tg xs k).nm := by
  constructor
  · intro h
    apply Classical.byContradiction
    intro hno
    have : placeT (nms xs) (tg xs k).nm = (k : Int) := placeT_at (by simpa [nms] using hk) (fun j hj e => hno ⟨j, hj, by rw [nms_get (by omega)] at e; exact e⟩) (nms_get hk)
    omega
  · rintro ⟨j, hj, e⟩
    apply Classical.byContradiction
    intro hge
    unfold placeT at hge
    cases hf : (nms xs).findIdx? (fun n => decide (n = (tg xs k).nm)) with
    | none =>
      rw [hf] at hge
      simp only at hge
      omega
    | some i =>
      rw [hf] at hge
      simp only at hge
      rw [List.findIdx?_eq_some_iff_getElem] at hf
      obtain ⟨_, _, h3⟩ := hf
      have h4 := h3 j (by omega)
      have hj2 : j < xs.length := by omega
      have h5 := nms_get hj2
      rw [List.getD, List.getElem?_eq_getElem (by simpa [nms] using hj2), Option.getD_some] at h5
      rw [h5] at h4
      simp [e] at h4
set_option maxRecDepth 100000 in
set_option maxHeartbeats 8000000 in
theorem implTopics_any (a : Option Addr) (n c : Nat) (xs : List Ta) (w : World) (hI : TopAt w a n xs) (hW : TWf xs) (hn : n ≤ 1048576) (hg : GOkT w) :
    Calls Tryz.prog 19 #[.slice a n c] w fun e w' => e = .returned (.bool (okTs xs)) ∧ Below w.heap.size w w' := by
  have HL := hidOf hI.len
  by_cases hlong : 12 < (n : Int)
  · have HE := hidOf (okTs_long (xs := xs) (by have := HL.out; omega))
    clear hI
    go_enter Tryz.func19, Tryz.ntmps19
    go_wp2_with fail
    go_ret
    exact ⟨rbool HE.out.symm, Below.refl _ _⟩
  have HI := hidOf hI
  have HW := hidOf hW
  have HG := hidOf hg
  have HLe := hidOf (show xs.length ≤ 12 by have := HL.out; omega)
  clear hI hW hg
  go_enter Tryz.func19, Tryz.ntmps19
  go_wp2_with fail
  go_loopw [10] (fun i wr => ∃ k : Nat, k ≤ n ∧ i = .int .i64 k ∧ topTo xs k ∧ Below w.heap.size w wr) (fun i _ => n - (intOf i).toNat)
  case atStart => exact ⟨0, Nat.zero_le _, rfl, fun i hi => (by omega), Below.refl _ _⟩
  case round =>
    rename World => wr
    obtain ⟨k, hk, rfl, ht, hB⟩ := hrel
    have HT := hidOf ht
    clear ht
    by_cases hlt : k < n
    · have hki : (k : Int) < (n : Int) := by omega
      have hkl : k < xs.length := by rw [HL.out]; exact hlt
      obtain hr | ⟨b, off, rfl, hb, hcell⟩ := (HI.out.keep hB).row
      · omega
      have hmem := tg_mem hkl
      obtain ⟨x, hx⟩ : ∃ x, tg xs k = x := ⟨_, rfl⟩
      rw [hx] at hmem
      have hck := hcell k hlt
      rw [hx] at hck
      obtain ⟨q0, q1, q2, q3, q4, q5, q6, q7, q8⟩ := id hck
      obtain ⟨W1, hW1⟩ : ∃ W, W = wr.alloc (.cells #[.string x.nm, .int .i64 x.v.cp, .int .i64 x.v.se, .slice x.M.ia x.M.i x.M.ic, .int .i64 x.v.nx, .slice x.M.sa x.M.s x.M.sc, .slice x.M.la x.M.l x.M.lc, .slice x.M.ga x.M.g x.M.gc, .bool x.v.cl] 40) := ⟨_, rfl⟩
      have b1 : Below wr.heap.size wr W1 := by rw [hW1]; exact bl_alloc (Below.refl _ _) _
      have X1 : BoxL wr.heap.size (tC x) W1 := by rw [hW1]; exact BoxL.new wr (tC x) _
      have B1 := bl_trans hB b1
      have HX := hidOf hx
      have HKl := hidOf hkl
      have HN := hidOf (implName_any x.nm W1 (HI.out.nms x hmem) (HG.out.keep B1))
      obtain ⟨nq, hnq⟩ : ∃ q, rightN false x.nm = q := ⟨_, rfl⟩
      rw [hnq] at HN
      have HNq := hidOf hnq
      have HRk := hidOf (fun (u : World) (hu : Below w.heap.size w u) => implRingOk_any x.M x.v u ((HI.out.rin x hmem).keep hu) (HW.out.le x hmem) (HW.out.cap x hmem) (HW.out.wf x hmem))
      obtain ⟨rq, hrq⟩ : ∃ q, okR restR x.v = q := ⟨_, rfl⟩
      rw [hrq] at HRk
      have HRq := hidOf hrq
      have HPl := hidOf (fun (u : World) (hu : Below w.heap.size w u) => placeTop_any _ n c xs x.nm u (HI.out.keep hu) (by omega))
      obtain ⟨pl, hpl⟩ : ∃ p, placeT (nms xs) x.nm = p := ⟨_, rfl⟩
      rw [hpl] at HPl
      have HPq := hidOf (show pl < (k : Int) ↔ ∃ j, j < k ∧ (tg xs j).nm = (tg xs k).nm by rw [← hpl, ← hx]; exact placeT_lt hkl)
      clear hx hmem hnq hrq hpl hcell hkl hB hck
      go_upto_region 6 with fail
      try rw [← hW1]
      clear hW1 q0 q1 q2 q3 q4 q5 q6 q7 q8 b1
      generalize wr.heap.size = NX at X1 ⊢
      obtain ⟨q0, q1, q2, q3, q4, q5, q6, q7, q8⟩ := X1.c9T
      go_wp2_with fail
      refine (HN.out).mono ?_
      rintro e w2 ⟨rfl, b2⟩
      have HB2 := hidOf (bl_trans B1 b2)
      have X2 := X1.keep b2
      clear q0 q1 q2 q3 q4 q5 q6 q7 q8 X1 B1 b2 HN
      cases nq
      · have HE := hidOf (okTs_bad HKl.out (show okTa xs k = false by unfold okTa; rw [HX.out, HNq.out]; rfl))
        go_wp2_with fail
        go_ret
        exact ⟨rbool HE.out.symm, HB2.out⟩
      obtain ⟨q0, q1, q2, q3, q4, q5, q6, q7, q8⟩ := X2.c9T
      go_wp2_with fail
      refine (HPl.out _ HB2.out).mono ?_
      rintro e w3 ⟨rfl, b3⟩
      have HB3 := hidOf (bl_trans HB2.out b3)
      have X3 := X2.keep b3
      clear q0 q1 q2 q3 q4 q5 q6 q7 q8 X2 b3 HPl HB2
      by_cases hp : pl < (k : Int)
      · have HE := hidOf (okTs_bad HKl.out (show okTa xs k = false by
          obtain ⟨j, hj, e⟩ := HPq.out.1 hp
          unfold okTa
          have : ¬ ∀ i, i < k → ¬ (tg xs i).nm = (tg xs k).nm := fun h => h j hj e
          simp [this]))
        go_wp2_with fail
        go_ret
        exact ⟨rbool HE.out.symm, HB3.out⟩
      obtain ⟨q0, q1, q2, q3, q4, q5, q6, q7, q8⟩ := X3.c9T
      have HP := hidOf hp
      have hp' : decide (pl < (k : Int)) = false := by simpa using hp
      go_wp2_with fail
      refine (HRk.out _ HB3.out).mono ?_
      rintro e w4 ⟨rfl, b4⟩
      have HB4 := hidOf (bl_trans HB3.out b4)
      clear q0 q1 q2 q3 q4 q5 q6 q7 q8 X3 b4 HRk HB3 hp hp'
      cases rq
      · have HE := hidOf (okTs_bad HKl.out (show okTa xs k = false by unfold okTa; rw [HX.out, HRq.out, HNq.out]; rfl))
        go_wp2_with fail
        go_ret
        exact ⟨rbool HE.out.symm, HB4.out⟩
      have HS := hidOf (topTo_step HT.out (okTa_parts (by rw [HX.out]; exact HNq.out) (by rw [HX.out]; exact HRq.out) (fun i hi e => by have h1 := HPq.out.2 ⟨i, hi, e⟩; have h2 := HP.out; omega)))
      go_wp2_with fail
      go_roundw
      case rel => exact ⟨k + 1, by omega, by go_num, HS.out, HB4.out⟩
      case measure => simp [intOf]; omega
    · have HE := hidOf (okTs_all HLe.out (fun i hi => HT.out i (by have := HL.out; omega)))
      have hki : ¬ (k : Int) < (n : Int) := by omega
      go_wp2_with fail
      go_ret
      exact ⟨rbool HE.out.symm, hB⟩
end Go.Proofs.YtojajaibeifhoaaGreatDoor
namespace Go.Proofs.YtojajaibeifhoaaGreatDoor
open Go.RowKit Pl Il Tn

/-- The place of a name in a right list. -/
def atT (xs : List Ta) (s : ByteArray) : Int := if okTs xs = true then placeT (nms xs) s else -1
set_option maxRecDepth 100000 in
set_option maxHeartbeats 8000000 in
theorem specTopicAt_any (a : Option Addr) (n c : Nat) (xs : List Ta) (s : ByteArray) (w : World) (hI : TopAt w a n xs) (hW : TWf xs) (hn : n ≤ 1048576) :
    Calls Tryz.prog 21 #[.slice a n c, .string s] w fun e w' => e = .returned (.int .i64 (atT xs s)) ∧ Below w.heap.size w w' := by
  have HL := hidOf hI.len
  have HI := hidOf hI
  have HC := hidOf (specTopics_any a n c xs w hI hW hn)
  obtain ⟨q, hq⟩ : ∃ q, okTs xs = q := ⟨_, rfl⟩
  rw [hq] at HC
  have HQ := hidOf hq
  clear hI hW hq
  go_enter Tryz.func21, Tryz.ntmps21
  go_wp2_with fail
  refine (HC.out).mono ?_
  rintro e w1 ⟨rfl, b1⟩
  have HB1 := hidOf b1
  clear HC b1
  cases q
  · have HE := hidOf (show atT xs s = -1 by unfold atT; rw [if_neg (by rw [HQ.out]; simp)])
    go_wp2_with fail
    go_ret
    exact ⟨rint HE.out.symm, HB1.out⟩
  have HA := hidOf (show atT xs s = placeT (nms xs) s by unfold atT; rw [if_pos HQ.out])
  go_wp2_with fail
  go_loopw [5] (fun i wr => ∃ k : Nat, k ≤ n ∧ i = .int .i64 k ∧ (∀ j, j < k → ¬ (tg xs j).nm = s) ∧ Below w.heap.size w wr) (fun i _ => n - (intOf i).toNat)
  case atStart => exact ⟨0, Nat.zero_le _, rfl, fun j hj => (by omega), HB1.out⟩
  case round =>
    rename World => wr
    obtain ⟨k, hk, rfl, hno, hB⟩ := hrel
    have HNo := hidOf hno
    clear hno
    by_cases hlt : k < n
    · have hki : (k : Int) < (n : Int) := by omega
      have hkl : k < xs.length := by rw [HL.out]; exact hlt
      obtain hr | ⟨b, off, rfl, hb, hcell⟩ := (HI.out.keep hB).row
      · omega
      have c0 := (hcell k hlt).c0
      obtain ⟨x, hx⟩ : ∃ x, tg xs k = x := ⟨_, rfl⟩
      rw [hx] at c0
      have HX := hidOf hx
      have HKl := hidOf hkl
      have HB := hidOf hB
      clear hcell hx hkl hB
      by_cases hq : x.nm = s
      · have hqe := beq_str hq
        have HE := hidOf (show placeT (nms xs) s = (k : Int) from placeT_at (by simpa [nms] using HKl.out) (fun j hj => by rw [nms_get (by have := HKl.out; omega)]; exact HNo.out j hj) (by rw [nms_get HKl.out, HX.out]; exact hq))
        clear hq
        go_wp2_with fail
        go_ret
        exact ⟨rint (by rw [HA.out, HE.out]), HB.out⟩
      · have hqe := bne_str hq
        have HQ2 := hidOf hq
        clear hq
        go_wp2_with fail
        go_roundw
        case rel => exact ⟨k + 1, by omega, by go_num, fun j hj => (by
          by_cases e : j = k
          · rw [e, HX.out]; exact HQ2.out
          · exact HNo.out j (by omega)), HB.out⟩
        case measure => simp [intOf]; omega
    · have hki : ¬ (k : Int) < (n : Int) := by omega
      have HE := hidOf (show placeT (nms xs) s = -1 from placeT_none (fun j hj => by
        have hj1 : j < xs.length := by simpa [nms] using hj
        rw [nms_get hj1]
        exact HNo.out j (by have := HL.out; omega)))
      go_wp2_with fail
      go_ret
      exact ⟨rint (by rw [HA.out, HE.out]), hB⟩
theorem implTopicAt_any (a : Option Addr) (n c : Nat) (xs : List Ta) (s : ByteArray) (w : World) (hI : TopAt w a n xs) (hW : TWf xs) (hn : n ≤ 1048576) (hg : GOkT w) :
    Calls Tryz.prog 22 #[.slice a n c, .string s] w fun e w' => e = .returned (.int .i64 (atT xs s)) ∧ Below w.heap.size w w' := by
  have HI := hidOf hI
  have HC := hidOf (implTopics_any a n c xs w hI hW hn hg)
  obtain ⟨q, hq⟩ : ∃ q, okTs xs = q := ⟨_, rfl⟩
  rw [hq] at HC
  have HQ := hidOf hq
  clear hI hW hq hg
  go_enter Tryz.func22, Tryz.ntmps22
  go_wp2_with fail
  refine (HC.out).mono ?_
  rintro e w1 ⟨rfl, b1⟩
  have HB1 := hidOf b1
  cases q
  · have HE := hidOf (show atT xs s = -1 by unfold atT; rw [if_neg (by rw [HQ.out]; simp)])
    clear HC b1
    go_wp2_with fail
    go_ret
    exact ⟨rint HE.out.symm, HB1.out⟩
  have HA := hidOf (show atT xs s = placeT (nms xs) s by unfold atT; rw [if_pos HQ.out])
  have HP := hidOf (placeTop_any a n c xs s w1 (HI.out.keep b1) (by omega))
  clear HC b1
  go_wp2_with fail
  refine (HP.out).mono ?_
  rintro e w2 ⟨rfl, b2⟩
  have HB2 := hidOf (bl_trans HB1.out b2)
  clear b2 HP
  go_wp2_with fail
  go_ret
  exact ⟨rint HA.out.symm, HB2.out⟩
/-- Right lists are told apart from where they lie. -/
theorem tg_tvs {xs ys : List Ta} (h : tvs ys = tvs xs) (i : Nat) : (tg ys i).nm = (tg xs i).nm ∧ (tg ys i).v = (tg xs i).v := by
  have hl : ys.length = xs.length := by have := congrArg List.length h; simpa [tvs] using this
  by_cases hi : i < ys.length
  · exact ⟨(tvs_at h hi).1.symm, (tvs_at h hi).2.symm⟩
  · unfold tg
    rw [List.getD_eq_getElem?_getD, List.getD_eq_getElem?_getD, List.getElem?_eq_none (by omega), List.getElem?_eq_none (by omega)]
    exact ⟨rfl, rfl⟩
theorem okTs_tvs {xs ys : List Ta} (h : tvs ys = tvs xs) : okTs ys = okTs xs := by
  have hl : ys.length = xs.length := by have := congrArg List.length h; simpa [tvs] using this
  have ha : ∀ i, okTa ys i = okTa xs i := fun i => by
    unfold okTa
    rw [(tg_tvs h i).1, (tg_tvs h i).2]
    have : (∀ j, j < i → ¬ (tg ys j).nm = (tg xs i).nm) ↔ ∀ j, j < i → ¬ (tg xs j).nm = (tg xs i).nm := by
      constructor
      · intro k j hj; rw [← (tg_tvs h j).1]; exact k j hj
      · intro k j hj; rw [(tg_tvs h j).1]; exact k j hj
    simp only [this]
  have ht : topTo ys xs.length ↔ topTo xs xs.length := by
    unfold topTo
    constructor
    · intro k i hi; rw [← ha]; exact k i hi
    · intro k i hi; rw [ha]; exact k i hi
  unfold okTs
  exact congr (congrArg and (decide_eq_decide.2 (by rw [hl]))) (decide_eq_decide.2 (by rw [hl]; exact ht))
theorem nms_tvs {xs ys : List Ta} (h : tvs ys = tvs xs) : nms ys = nms xs := by
  have h2 := congrArg (List.map Prod.fst) h
  simp only [tvs, List.map_map] at h2
  exact h2
theorem atT_tvs {xs ys : List Ta} (h : tvs ys = tvs xs) (s : ByteArray) : atT ys s = atT xs s := by unfold atT; rw [okTs_tvs h, nms_tvs h]
theorem wf_to {xs ys : List Ta} (hs : tvs ys = tvs xs) (h : ∀ y, y ∈ ys → RCap y.M ∧ ∃ x, x ∈ xs ∧ ∀ k, RLe x.M k → RLe y.M k) (hle : TLe xs 1048576) (hw : ∀ x, x ∈ xs → RWf x.v) : TWf ys :=
  ⟨ToT.le h hle, fun y hy => (h y hy).1, fun y hy => by
    obtain ⟨i, hi, rfl⟩ := List.getElem_of_mem hy
    have hl : ys.length = xs.length := by have := congrArg List.length hs; simpa [tvs] using this
    have e := (tg_tvs hs i).2
    rw [tg_eq hi, tg_eq (by omega)] at e
    rw [e]
    exact hw _ (List.getElem_mem _)⟩
set_option maxRecDepth 100000 in
set_option maxHeartbeats 8000000 in
theorem exactTopicsOk_any (a : Option Addr) (n c : Nat) (xs : List Ta) (w : World) (hI : TopAt w a n xs) (hw : ∀ x, x ∈ xs → RWf x.v) (hn : n ≤ 9223372036854775807) (hm : TLe xs 9223372036854775807) (hg : GOkT w) :
    Calls Tryz.prog 4 #[.slice a n c] w fun e w' => e = .returned (.bool true) ∧ Below w.heap.size w w' := by
  have HI := hidOf hI
  have HG := hidOf hg
  have HS := hidOf (szTopicS_any a n c xs 1048576 w hI hn hm (by omega) (by omega))
  clear hI hg
  go_enter Tryz.func4, Tryz.ntmps4
  go_wp2_with fail
  refine (HS.out).mono ?_
  rintro e w1 ⟨⟨k, rfl, hk⟩, b1⟩
  clear HS
  rcases hk with hk | ⟨hk, _, hn1, hle⟩
  · go_wp2_with fail
    go_ret
    exact ⟨rfl, b1⟩
  have hk' : ¬ k < 0 := by omega
  have HLe := hidOf hle
  have HL2 := hidOf (show TLe xs 2097152 from fun x hx => (hle x hx).mono (by omega))
  have HN2 := hidOf (show n ≤ 2097152 by omega)
  have HN1 := hidOf hn1
  have HC1 := hidOf (toTopicS_any a n c xs w1 (HI.out.keep b1) HN2.out HL2.out)
  clear hk hle hn1
  go_wp2_with fail
  refine (HC1.out).mono ?_
  rintro e w2 ⟨ys, rfl, hT2, hs2, hr2, b2⟩
  have B2 := bl_trans b1 b2
  have HSp := hidOf (specTopics_any _ n n ys w2 hT2 (wf_to hs2 hr2 HLe.out hw) HN1.out)
  rw [okTs_tvs hs2] at HSp
  obtain ⟨o, ho⟩ : ∃ o, okTs xs = o := ⟨_, rfl⟩
  rw [ho] at HSp
  have HO := hidOf ho
  clear HC1 b1 b2 hT2 hs2 hr2 ho hk'
  go_wp2_with fail
  refine (HSp.out).mono ?_
  rintro e w3 ⟨rfl, b3⟩
  have B3 := bl_trans B2 b3
  have HC3 := hidOf (toTopicS_any a n c xs w3 (HI.out.keep B3) HN2.out HL2.out)
  clear HSp B2 b3
  go_wp2_with fail
  refine (HC3.out).mono ?_
  rintro e w4 ⟨zs, rfl, hT4, hs4, hr4, b4⟩
  have B4 := bl_trans B3 b4
  generalize hN4 : w3.heap.size = N4 at hT4 ⊢
  have HIm := hidOf (implTopics_any _ n n zs w4 hT4 (wf_to hs4 hr4 HLe.out hw) HN1.out (HG.out.keep B4))
  rw [okTs_tvs hs4, HO.out] at HIm
  have HT4 := hidOf hT4
  have HS4 := hidOf hs4
  have HR4 := hidOf hr4
  clear HC3 B3 b4 hT4 hs4 hr4 hN4
  go_wp2_with fail
  refine (HIm.out).mono ?_
  rintro e w5 ⟨rfl, b5⟩
  have B5 := bl_trans B4 b5
  have HT5 := hidOf (HT4.out.keep b5)
  have HC5 := hidOf (toTopicS_any a n c xs w5 (HI.out.keep B5) HN2.out HL2.out)
  clear HIm B4 b5 HT4
  generalize o = l
  go_wp2_with fail
  refine (HC5.out).mono ?_
  rintro e w6 ⟨us, rfl, hT6, hs6, hr6, b6⟩
  have B6 := bl_trans B5 b6
  have HEq := hidOf (eqTopicS_same _ _ n n n zs us w6 (HT5.out.keep b6) hT6 (by rw [HS4.out, hs6]) HN2.out (ToT.le HR4.out HL2.out) (ToT.le hr6 HL2.out))
  clear HC5 B5 b6 hT6 hs6 hr6
  go_wp2_with fail
  refine (HEq.out).mono ?_
  rintro e w7 ⟨rfl, b7⟩
  have B7 := bl_trans B6 b7
  clear HEq B6 b7
  go_wp2_with fail
  go_ret
  exact ⟨rfl, B7⟩
set_option maxRecDepth 100000 in
set_option maxHeartbeats 8000000 in
theorem exactTopicAt_any (a : Option Addr) (n c : Nat) (xs : List Ta) (s : ByteArray) (w : World) (hI : TopAt w a n xs) (hw : ∀ x, x ∈ xs → RWf x.v) (hn : n ≤ 9223372036854775807) (hm : TLe xs 9223372036854775807) (hg : GOkT w) :
    Calls Tryz.prog 5 #[.slice a n c, .string s] w fun e w' => e = .returned (.bool true) ∧ Below w.heap.size w w' := by
  by_cases hbig : 1048576 < (s.size : Int)
  · clear hI
    go_enter Tryz.func5, Tryz.ntmps5
    go_wp2_with fail
    go_ret
    exact ⟨rfl, Below.refl _ _⟩
  have HI := hidOf hI
  have HG := hidOf hg
  have HS := hidOf (szTopicS_any a n c xs 1048576 w hI hn hm (by omega) (by omega))
  clear hI hg
  go_enter Tryz.func5, Tryz.ntmps5
  go_wp2_with fail
  refine (HS.out).mono ?_
  rintro e w1 ⟨⟨k, rfl, hk⟩, b1⟩
  clear HS
  rcases hk with hk | ⟨hk, _, hn1, hle⟩
  · go_wp2_with fail
    go_ret
    exact ⟨rfl, b1⟩
  have hk' : ¬ k < 0 := by omega
  have HLe := hidOf hle
  have HL2 := hidOf (show TLe xs 2097152 from fun x hx => (hle x hx).mono (by omega))
  have HN2 := hidOf (show n ≤ 2097152 by omega)
  have HN1 := hidOf hn1
  have HC1 := hidOf (toTopicS_any a n c xs w1 (HI.out.keep b1) HN2.out HL2.out)
  clear hk hle hn1
  go_wp2_with fail
  refine (HC1.out).mono ?_
  rintro e w2 ⟨ys, rfl, hT2, hs2, hr2, b2⟩
  have B2 := bl_trans b1 b2
  have HSp := hidOf (specTopicAt_any _ n n ys s w2 hT2 (wf_to hs2 hr2 HLe.out hw) HN1.out)
  rw [atT_tvs hs2] at HSp
  obtain ⟨o, ho⟩ : ∃ o, atT xs s = o := ⟨_, rfl⟩
  rw [ho] at HSp
  have HO := hidOf ho
  clear HC1 b1 b2 hT2 hs2 hr2 ho hk'
  go_wp2_with fail
  refine (HSp.out).mono ?_
  rintro e w3 ⟨rfl, b3⟩
  have B3 := bl_trans B2 b3
  have HC3 := hidOf (toTopicS_any a n c xs w3 (HI.out.keep B3) HN2.out HL2.out)
  clear HSp B2 b3
  go_wp2_with fail
  refine (HC3.out).mono ?_
  rintro e w4 ⟨zs, rfl, hT4, hs4, hr4, b4⟩
  have B4 := bl_trans B3 b4
  generalize hN4 : w3.heap.size = N4 at hT4 ⊢
  have HIm := hidOf (implTopicAt_any _ n n zs s w4 hT4 (wf_to hs4 hr4 HLe.out hw) HN1.out (HG.out.keep B4))
  rw [atT_tvs hs4, HO.out] at HIm
  have HT4 := hidOf hT4
  have HS4 := hidOf hs4
  have HR4 := hidOf hr4
  clear HC3 B3 b4 hT4 hs4 hr4 hN4
  go_wp2_with fail
  refine (HIm.out).mono ?_
  rintro e w5 ⟨rfl, b5⟩
  have B5 := bl_trans B4 b5
  have HT5 := hidOf (HT4.out.keep b5)
  have HC5 := hidOf (toTopicS_any a n c xs w5 (HI.out.keep B5) HN2.out HL2.out)
  clear HIm B4 b5 HT4
  generalize o = l
  go_wp2_with fail
  refine (HC5.out).mono ?_
  rintro e w6 ⟨us, rfl, hT6, hs6, hr6, b6⟩
  have B6 := bl_trans B5 b6
  have HEq := hidOf (eqTopicS_same _ _ n n n zs us w6 (HT5.out.keep b6) hT6 (by rw [HS4.out, hs6]) HN2.out (ToT.le HR4.out HL2.out) (ToT.le hr6 HL2.out))
  clear HC5 B5 b6 hT6 hs6 hr6
  go_wp2_with fail
  refine (HEq.out).mono ?_
  rintro e w7 ⟨rfl, b7⟩
  have B7 := bl_trans B6 b7
  clear HEq B6 b7
  go_wp2_with fail
  go_ret
  exact ⟨rfl, B7⟩
end Go.Proofs.YtojajaibeifhoaaGreatDoor
