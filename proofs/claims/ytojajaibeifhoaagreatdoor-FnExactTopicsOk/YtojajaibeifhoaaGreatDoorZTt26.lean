/-
  The program's TopicsOk, TopicAt: a name's place; which lists are right.
  TopicAt of both sides; the laws on TopicsOk and TopicAt.
  A list of topics among the arguments: what its cells are.
  A row that lists variables, whose law reads one more of the library's: the world's shape is kept beside the list.
-/
import Derived.Test.YtojajaibeifhoaaGreatDoorZTt19
import Derived.Test.YtojajaibeifhoaaGreatDoorZTt25
import Derived.Test.YtojajaibeifhoaaGreatDoorZTt12
import Derived.Test.YtojajaibeifhoaaGreatDoorRows
import Derived.HandedShaped
import Derived.Handed
namespace Go.Proofs.YtojajaibeifhoaaGreatDoor
open Go.RowKit Pl Il Tn

/-- Has it that name? -/
theorem placeFnT_any (x : Ta) (s : ByteArray) (N : Nat) (w : World) (hN : w.cell? ⟨N, 0, none⟩ = some (.string s)) :
    Calls Tryz.prog 114 #[.agg #[.string x.nm, .int .i64 x.v.cp, .int .i64 x.v.se, .slice x.M.ia x.M.i x.M.ic, .int .i64 x.v.nx, .slice x.M.sa x.M.s x.M.sc, .slice x.M.la x.M.l x.M.lc, .slice x.M.ga x.M.g x.M.gc, .bool x.v.cl], .pointer (some ⟨N, 0, none⟩)] w fun e w' => e = .returned (.bool (decide (x.nm = s))) ∧ Below w.heap.size w w' := by
  have hB : Below w.heap.size w (w.alloc (.cells #[.string x.nm, .int .i64 x.v.cp, .int .i64 x.v.se, .slice x.M.ia x.M.i x.M.ic, .int .i64 x.v.nx, .slice x.M.sa x.M.s x.M.sc, .slice x.M.la x.M.l x.M.lc, .slice x.M.ga x.M.g x.M.gc, .bool x.v.cl] 40)) := bl_alloc (Below.refl _ _) _
  have hN2 : ∀ o, (w.alloc o).cell? ⟨N, 0, none⟩ = some (.string s) := fun o => by rw [World.cell?_alloc_old _ _ _ (Nat.ne_of_lt (World.block_lt_of_cell? w _ hN))]; exact hN
  by_cases hq : x.nm = s
  · have hqe := beq_str hq
    have HE := hidOf (show decide (x.nm = s) = true by simpa using hq)
    clear hq
    go_enter Tryz.func114, Tryz.ntmps114
    go_wp2
    go_ret
    exact ⟨rbool HE.out.symm, hB⟩
  · have hqe := bne_str hq
    have HE := hidOf (show decide (x.nm = s) = false by simpa using hq)
    clear hq
    go_enter Tryz.func114, Tryz.ntmps114
    go_wp2
    go_ret
    exact ⟨rbool HE.out.symm, hB⟩
set_option maxRecDepth 100000 in
set_option maxHeartbeats 4000000 in
theorem idxTop_any (a : Option Addr) (n cap : Nat) (xs : List Ta) (s : ByteArray) (N : Nat) (w : World) (hI : TopAt w a n xs) (hn : n ≤ 2097152) (hN : w.cell? ⟨N, 0, none⟩ = some (.string s)) :
    Calls Tryz.prog 113 #[.slice a n cap, .func (.func 114) #[] #[.pointer (some ⟨N, 0, none⟩)]] w fun e w' => e = .returned (.int .i64 (placeT (nms xs) s)) ∧ Below w.heap.size w w' := by
  have HL := hidOf hI.len
  have HI := hidOf hI
  have HNn := hidOf hn
  clear hI
  go_enter Tryz.func113, Tryz.ntmps113
  go_wp2_with fail
  go_loopw [8] (fun i wr => ∃ (k : Nat), k ≤ n ∧ i = .int .i64 k ∧ (∀ j, j < k → ¬ (tg xs j).nm = s) ∧ Below w.heap.size w wr) (fun i _ => n - (intOf i).toNat)
  case atStart => exact ⟨0, Nat.zero_le _, rfl, fun j hj => (by omega), Below.refl _ _⟩
  case round =>
    rename World => wr
    obtain ⟨k, hk, rfl, hall, hB⟩ := hrel
    have HA := hidOf hall
    have HB := hidOf hB
    clear hall
    by_cases hlt : k < n
    · have hki : (0 : Int) ≤ (k : Int) ∧ (k : Int) < (n : Int) := by omega
      have hkl : k < xs.length := by rw [HL.out]; exact hlt
      obtain hr | ⟨b, off, rfl, hb, hcell⟩ := (HI.out.keep hB).row
      · omega
      obtain ⟨c0, c1, c2, c3, c4, c5, c6, c7, c8⟩ := hcell k hlt
      have hNr : wr.cell? ⟨N, 0, none⟩ = some (.string s) := by rw [hB.cell (p := ⟨N, 0, none⟩) (World.block_lt_of_cell? w _ hN)]; exact hN
      have HC := hidOf (placeFnT_any (tg xs k) s N wr hNr)
      obtain ⟨y, hy⟩ : ∃ y, tg xs k = y := ⟨_, rfl⟩
      rw [hy] at c0 c1 c2 c3 c4 c5 c6 c7 c8 HC
      have HY := hidOf hy
      have HKl := hidOf hkl
      obtain ⟨q, hq⟩ : ∃ q, decide (y.nm = s) = q := ⟨_, rfl⟩
      rw [hq] at HC
      have HQ := hidOf hq
      clear hy hB hNr hcell hkl hq
      go_wp2_with fail
      refine (HC.out).mono ?_
      rintro e w1 ⟨rfl, hb1⟩
      have HB1 := hidOf (bl_trans HB.out hb1)
      clear hb1 HC HB
      cases q
      · go_wp2
        go_roundw
        case rel =>
          refine ⟨k + 1, by omega, by go_num, fun j hj => ?_, HB1.out⟩
          by_cases e : j = k
          · rw [e, HY.out]; simpa using HQ.out
          · exact HA.out j (by omega)
        case measure => simp [intOf]; omega
      · go_wp2
        go_ret
        refine ⟨congrArg (fun z => Ending.returned (.int .i64 z)) ?_, HB1.out⟩
        symm
        refine placeT_at (k := k) (by simpa [nms] using HKl.out) (fun j hj => ?_) ?_
        · rw [nms_get (by have := HKl.out; omega)]
          exact HA.out j hj
        · rw [nms_get HKl.out, HY.out]
          simpa using HQ.out
    · have hki : ¬ (k : Int) < (n : Int) := by omega
      clear hB
      go_wp2
      go_ret
      refine ⟨congrArg (fun z => Ending.returned (.int .i64 z)) ?_, HB.out⟩
      symm
      refine placeT_none (fun j hj => ?_)
      have hj1 : j < xs.length := by simpa [nms] using hj
      rw [nms_get hj1]
      exact HA.out j (by have := HL.out; omega)
theorem placeTop_any (a : Option Addr) (n cap : Nat) (xs : List Ta) (s : ByteArray) (w : World) (hI : TopAt w a n xs) (hn : n ≤ 2097152) :
    Calls Tryz.prog 61 #[.slice a n cap, .string s] w fun e w' => e = .returned (.int .i64 (placeT (nms xs) s)) ∧ Below w.heap.size w w' := by
  have hB : Below w.heap.size w (w.alloc (.cells #[.string s] 9)) := bl_alloc (Below.refl _ _) _
  have HC := hidOf (idxTop_any a n cap xs s w.heap.size (w.alloc (.cells #[.string s] 9)) (hI.keep hB) hn (by simp [World.cell?_alloc_new]))
  clear hI
  go_enter Tryz.func61, Tryz.ntmps61
  go_wp2_with fail
  refine (HC.out).mono ?_
  rintro e w1 ⟨rfl, hb1⟩
  have HB1 := hidOf (bl_trans hB hb1)
  clear hb1 HC hB
  go_wp2
  go_ret
  exact ⟨rfl, HB1.out⟩
theorem placeT_lt {xs : List Ta} {k : Nat} (hk : k < xs.length) : placeT (nms xs) (tg xs k).nm < (k : Int) ↔ ∃ j, j < k ∧ (tg xs j).nm = (tg xs k).nm := by
  constructor
  · intro h
    apply Classical.byContradiction
    intro hno
    have : placeT (nms xs) (tg xs k).nm = (k : Int) := placeT_at (by simpa [nms] using hk) (fun j hj e => hno ⟨j, hj, by rw [nms_get (by omega)] at e; exact e⟩) (nms_get hk)
    omega
  · rintro ⟨j, hj, e⟩
    apply Classical.byContradiction
    intro hge
    unfold placeT at hge
    cases hf : (nms xs).findIdx? (fun n => decide (n = (tg xs k).nm)) with
    | none =>
      rw [hf] at hge
      simp only at hge
      omega
    | some i =>
      rw [hf] at hge
      simp only at hge
      rw [List.findIdx?_eq_some_iff_getElem] at hf
      obtain ⟨_, _, h3⟩ := hf
      have h4 := h3 j (by omega)
      have hj2 : j < xs.length := by omega
      have h5 := nms_get hj2
      rw [List.getD, List.getElem?_eq_getElem (by simpa [nms] using hj2), Option.getD_some] at h5
      rw [h5] at h4
      simp [e] at h4
set_option maxRecDepth 100000 in
set_option maxHeartbeats 8000000 in
theorem implTopics_any (a : Option Addr) (n c : Nat) (xs : List Ta) (w : World) (hI : TopAt w a n xs) (hW : TWf xs) (hn : n ≤ 1048576) (hg : GOkT w) :
    Calls Tryz.prog 19 #[.slice a n c] w fun e w' => e = .returned (.bool (okTs xs)) ∧ Below w.heap.size w w' := by
  have HL := hidOf hI.len
  by_cases hlong : 12 < (n : Int)
  · have HE := hidOf (okTs_long (xs := xs) (by have := HL.out; omega))
    clear hI
    go_enter Tryz.func19, Tryz.ntmps19
    go_wp2_with fail
    go_ret
    exact ⟨rbool HE.out.symm, Below.refl _ _⟩
  have HI := hidOf hI
  have HW := hidOf hW
  have HG := hidOf hg
  have HLe := hidOf (show xs.length ≤ 12 by have := HL.out; omega)
  clear hI hW hg
  go_enter Tryz.func19, Tryz.ntmps19
  go_wp2_with fail
  go_loopw [10] (fun i wr => ∃ k : Nat, k ≤ n ∧ i = .int .i64 k ∧ topTo xs k ∧ Below w.heap.size w wr) (fun i _ => n - (intOf i).toNat)
  case atStart => exact ⟨0, Nat.zero_le _, rfl, fun i hi => (by omega), Below.refl _ _⟩
  case round =>
    rename World => wr
    obtain ⟨k, hk, rfl, ht, hB⟩ := hrel
    have HT := hidOf ht
    clear ht
    by_cases hlt : k < n
    · have hki : (k : Int) < (n : Int) := by omega
      have hkl : k < xs.length := by rw [HL.out]; exact hlt
      obtain hr | ⟨b, off, rfl, hb, hcell⟩ := (HI.out.keep hB).row
      · omega
      have hmem := tg_mem hkl
      obtain ⟨x, hx⟩ : ∃ x, tg xs k = x := ⟨_, rfl⟩
      rw [hx] at hmem
      have hck := hcell k hlt
      rw [hx] at hck
      obtain ⟨q0, q1, q2, q3, q4, q5, q6, q7, q8⟩ := id hck
      obtain ⟨W1, hW1⟩ : ∃ W, W = wr.alloc (.cells #[.string x.nm, .int .i64 x.v.cp, .int .i64 x.v.se, .slice x.M.ia x.M.i x.M.ic, .int .i64 x.v.nx, .slice x.M.sa x.M.s x.M.sc, .slice x.M.la x.M.l x.M.lc, .slice x.M.ga x.M.g x.M.gc, .bool x.v.cl] 40) := ⟨_, rfl⟩
      have b1 : Below wr.heap.size wr W1 := by rw [hW1]; exact bl_alloc (Below.refl _ _) _
      have X1 : BoxL wr.heap.size (tC x) W1 := by rw [hW1]; exact BoxL.new wr (tC x) _
      have B1 := bl_trans hB b1
      have HX := hidOf hx
      have HKl := hidOf hkl
      have HN := hidOf (implName_any x.nm W1 (HI.out.nms x hmem) (HG.out.keep B1))
      obtain ⟨nq, hnq⟩ : ∃ q, rightN false x.nm = q := ⟨_, rfl⟩
      rw [hnq] at HN
      have HNq := hidOf hnq
      have HRk := hidOf (fun (u : World) (hu : Below w.heap.size w u) => implRingOk_any x.M x.v u ((HI.out.rin x hmem).keep hu) (HW.out.le x hmem) (HW.out.cap x hmem) (HW.out.wf x hmem))
      obtain ⟨rq, hrq⟩ : ∃ q, okR restR x.v = q := ⟨_, rfl⟩
      rw [hrq] at HRk
      have HRq := hidOf hrq
      have HPl := hidOf (fun (u : World) (hu : Below w.heap.size w u) => placeTop_any _ n c xs x.nm u (HI.out.keep hu) (by omega))
      obtain ⟨pl, hpl⟩ : ∃ p, placeT (nms xs) x.nm = p := ⟨_, rfl⟩
      rw [hpl] at HPl
      have HPq := hidOf (show pl < (k : Int) ↔ ∃ j, j < k ∧ (tg xs j).nm = (tg xs k).nm by rw [← hpl, ← hx]; exact placeT_lt hkl)
      clear hx hmem hnq hrq hpl hcell hkl hB hck
      go_upto_region 6 with fail
      try rw [← hW1]
      clear hW1 q0 q1 q2 q3 q4 q5 q6 q7 q8 b1
      generalize wr.heap.size = NX at X1 ⊢
      obtain ⟨q0, q1, q2, q3, q4, q5, q6, q7, q8⟩ := X1.c9T
      go_wp2_with fail
      refine (HN.out).mono ?_
      rintro e w2 ⟨rfl, b2⟩
      have HB2 := hidOf (bl_trans B1 b2)
      have X2 := X1.keep b2
      clear q0 q1 q2 q3 q4 q5 q6 q7 q8 X1 B1 b2 HN
      cases nq
      · have HE := hidOf (okTs_bad HKl.out (show okTa xs k = false by unfold okTa; rw [HX.out, HNq.out]; rfl))
        go_wp2_with fail
        go_ret
        exact ⟨rbool HE.out.symm, HB2.out⟩
      obtain ⟨q0, q1, q2, q3, q4, q5, q6, q7, q8⟩ := X2.c9T
      go_wp2_with fail
      refine (HPl.out _ HB2.out).mono ?_
      rintro e w3 ⟨rfl, b3⟩
      have HB3 := hidOf (bl_trans HB2.out b3)
      have X3 := X2.keep b3
      clear q0 q1 q2 q3 q4 q5 q6 q7 q8 X2 b3 HPl HB2
      by_cases hp : pl < (k : Int)
      · have HE := hidOf (okTs_bad HKl.out (show okTa xs k = false by
          obtain ⟨j, hj, e⟩ := HPq.out.1 hp
          unfold okTa
          have : ¬ ∀ i, i < k → ¬ (tg xs i).nm = (tg xs k).nm := fun h => h j hj e
          simp [this]))
        go_wp2_with fail
        go_ret
        exact ⟨rbool HE.out.symm, HB3.out⟩
      obtain ⟨q0, q1, q2, q3, q4, q5, q6, q7, q8⟩ := X3.c9T
      have HP := hidOf hp
      have hp' : decide (pl < (k : Int)) = false := by simpa using hp
      go_wp2_with fail
      refine (HRk.out _ HB3.out).mono ?_
      rintro e w4 ⟨rfl, b4⟩
      have HB4 := hidOf (bl_trans HB3.out b4)
      clear q0 q1 q2 q3 q4 q5 q6 q7 q8 X3 b4 HRk HB3 hp hp'
      cases rq
      · have HE := hidOf (okTs_bad HKl.out (show okTa xs k = false by unfold okTa; rw [HX.out, HRq.out, HNq.out]; rfl))
        go_wp2_with fail
        go_ret
        exact ⟨rbool HE.out.symm, HB4.out⟩
      have HS := hidOf (topTo_step HT.out (okTa_parts (by rw [HX.out]; exact HNq.out) (by rw [HX.out]; exact HRq.out) (fun i hi e => by have h1 := HPq.out.2 ⟨i, hi, e⟩; have h2 := HP.out; omega)))
      go_wp2_with fail
      go_roundw
      case rel => exact ⟨k + 1, by omega, by go_num, HS.out, HB4.out⟩
      case measure => simp [intOf]; omega
    · have HE := hidOf (okTs_all HLe.out (fun i hi => HT.out i (by have := HL.out; omega)))
      have hki : ¬ (k : Int) < (n : Int) := by omega
      go_wp2_with fail
      go_ret
      exact ⟨rbool HE.out.symm, hB⟩
end Go.Proofs.YtojajaibeifhoaaGreatDoor
namespace Go.Proofs.YtojajaibeifhoaaGreatDoor
open Go.RowKit Pl Il Tn

/-- The place of a name in a right list. -/
def atT (xs : List Ta) (s : ByteArray) : Int := if okTs xs = true then placeT (nms xs) s else -1
set_option maxRecDepth 100000 in
set_option maxHeartbeats 8000000 in
theorem specTopicAt_any (a : Option Addr) (n c : Nat) (xs : List Ta) (s : ByteArray) (w : World) (hI : TopAt w a n xs) (hW : TWf xs) (hn : n ≤ 1048576) :
    Calls Tryz.prog 21 #[.slice a n c, .string s] w fun e w' => e = .returned (.int .i64 (atT xs s)) ∧ Below w.heap.size w w' := by
  have HL := hidOf hI.len
  have HI := hidOf hI
  have HC := hidOf (specTopics_any a n c xs w hI hW hn)
  obtain ⟨q, hq⟩ : ∃ q, okTs xs = q := ⟨_, rfl⟩
  rw [hq] at HC
  have HQ := hidOf hq
  clear hI hW hq
  go_enter Tryz.func21, Tryz.ntmps21
  go_wp2_with fail
  refine (HC.out).mono ?_
  rintro e w1 ⟨rfl, b1⟩
  have HB1 := hidOf b1
  clear HC b1
  cases q
  · have HE := hidOf (show atT xs s = -1 by unfold atT; rw [if_neg (by rw [HQ.out]; simp)])
    go_wp2_with fail
    go_ret
    exact ⟨rint HE.out.symm, HB1.out⟩
  have HA := hidOf (show atT xs s = placeT (nms xs) s by unfold atT; rw [if_pos HQ.out])
  go_wp2_with fail
  go_loopw [5] (fun i wr => ∃ k : Nat, k ≤ n ∧ i = .int .i64 k ∧ (∀ j, j < k → ¬ (tg xs j).nm = s) ∧ Below w.heap.size w wr) (fun i _ => n - (intOf i).toNat)
  case atStart => exact ⟨0, Nat.zero_le _, rfl, fun j hj => (by omega), HB1.out⟩
  case round =>
    rename World => wr
    obtain ⟨k, hk, rfl, hno, hB⟩ := hrel
    have HNo := hidOf hno
    clear hno
    by_cases hlt : k < n
    · have hki : (k : Int) < (n : Int) := by omega
      have hkl : k < xs.length := by rw [HL.out]; exact hlt
      obtain hr | ⟨b, off, rfl, hb, hcell⟩ := (HI.out.keep hB).row
      · omega
      have c0 := (hcell k hlt).c0
      obtain ⟨x, hx⟩ : ∃ x, tg xs k = x := ⟨_, rfl⟩
      rw [hx] at c0
      have HX := hidOf hx
      have HKl := hidOf hkl
      have HB := hidOf hB
      clear hcell hx hkl hB
      by_cases hq : x.nm = s
      · have hqe := beq_str hq
        have HE := hidOf (show placeT (nms xs) s = (k : Int) from placeT_at (by simpa [nms] using HKl.out) (fun j hj => by rw [nms_get (by have := HKl.out; omega)]; exact HNo.out j hj) (by rw [nms_get HKl.out, HX.out]; exact hq))
        clear hq
        go_wp2_with fail
        go_ret
        exact ⟨rint (by rw [HA.out, HE.out]), HB.out⟩
      · have hqe := bne_str hq
        have HQ2 := hidOf hq
        clear hq
        go_wp2_with fail
        go_roundw
        case rel => exact ⟨k + 1, by omega, by go_num, fun j hj => (by
          by_cases e : j = k
          · rw [e, HX.out]; exact HQ2.out
          · exact HNo.out j (by omega)), HB.out⟩
        case measure => simp [intOf]; omega
    · have hki : ¬ (k : Int) < (n : Int) := by omega
      have HE := hidOf (show placeT (nms xs) s = -1 from placeT_none (fun j hj => by
        have hj1 : j < xs.length := by simpa [nms] using hj
        rw [nms_get hj1]
        exact HNo.out j (by have := HL.out; omega)))
      go_wp2_with fail
      go_ret
      exact ⟨rint (by rw [HA.out, HE.out]), hB⟩
theorem implTopicAt_any (a : Option Addr) (n c : Nat) (xs : List Ta) (s : ByteArray) (w : World) (hI : TopAt w a n xs) (hW : TWf xs) (hn : n ≤ 1048576) (hg : GOkT w) :
    Calls Tryz.prog 22 #[.slice a n c, .string s] w fun e w' => e = .returned (.int .i64 (atT xs s)) ∧ Below w.heap.size w w' := by
  have HI := hidOf hI
  have HC := hidOf (implTopics_any a n c xs w hI hW hn hg)
  obtain ⟨q, hq⟩ : ∃ q, okTs xs = q := ⟨_, rfl⟩
  rw [hq] at HC
  have HQ := hidOf hq
  clear hI hW hq hg
  go_enter Tryz.func22, Tryz.ntmps22
  go_wp2_with fail
  refine (HC.out).mono ?_
  rintro e w1 ⟨rfl, b1⟩
  have HB1 := hidOf b1
  cases q
  · have HE := hidOf (show atT xs s = -1 by unfold atT; rw [if_neg (by rw [HQ.out]; simp)])
    clear HC b1
    go_wp2_with fail
    go_ret
    exact ⟨rint HE.out.symm, HB1.out⟩
  have HA := hidOf (show atT xs s = placeT (nms xs) s by unfold atT; rw [if_pos HQ.out])
  have HP := hidOf (placeTop_any a n c xs s w1 (HI.out.keep b1) (by omega))
  clear HC b1
  go_wp2_with fail
  refine (HP.out).mono ?_
  rintro e w2 ⟨rfl, b2⟩
  have HB2 := hidOf (bl_trans HB1.out b2)
  clear b2 HP
  go_wp2_with fail
  go_ret
  exact ⟨rint HA.out.symm, HB2.out⟩
/-- Right lists are told apart from where they lie. -/
theorem tg_tvs {xs ys : List Ta} (h : tvs ys = tvs xs) (i : Nat) : (tg ys i).nm = (tg xs i).nm ∧ (tg ys i).v = (tg xs i).v := by
  have hl : ys.length = xs.length := by have := congrArg List.length h; simpa [tvs] using this
  by_cases hi : i < ys.length
  · exact ⟨(tvs_at h hi).1.symm, (tvs_at h hi).2.symm⟩
  · unfold tg
    rw [List.getD_eq_getElem?_getD, List.getD_eq_getElem?_getD, List.getElem?_eq_none (by omega), List.getElem?_eq_none (by omega)]
    exact ⟨rfl, rfl⟩
theorem okTs_tvs {xs ys : List Ta} (h : tvs ys = tvs xs) : okTs ys = okTs xs := by
  have hl : ys.length = xs.length := by have := congrArg List.length h; simpa [tvs] using this
  have ha : ∀ i, okTa ys i = okTa xs i := fun i => by
    unfold okTa
    rw [(tg_tvs h i).1, (tg_tvs h i).2]
    have : (∀ j, j < i → ¬ (tg ys j).nm = (tg xs i).nm) ↔ ∀ j, j < i → ¬ (tg xs j).nm = (tg xs i).nm := by
      constructor
      · intro k j hj; rw [← (tg_tvs h j).1]; exact k j hj
      · intro k j hj; rw [(tg_tvs h j).1]; exact k j hj
    simp only [this]
  have ht : topTo ys xs.length ↔ topTo xs xs.length := by
    unfold topTo
    constructor
    · intro k i hi; rw [← ha]; exact k i hi
    · intro k i hi; rw [ha]; exact k i hi
  unfold okTs
  exact congr (congrArg and (decide_eq_decide.2 (by rw [hl]))) (decide_eq_decide.2 (by rw [hl]; exact ht))
theorem nms_tvs {xs ys : List Ta} (h : tvs ys = tvs xs) : nms ys = nms xs := by
  have h2 := congrArg (List.map Prod.fst) h
  simp only [tvs, List.map_map] at h2
  exact h2
theorem atT_tvs {xs ys : List Ta} (h : tvs ys = tvs xs) (s : ByteArray) : atT ys s = atT xs s := by unfold atT; rw [okTs_tvs h, nms_tvs h]
theorem wf_to {xs ys : List Ta} (hs : tvs ys = tvs xs) (h : ∀ y, y ∈ ys → RCap y.M ∧ ∃ x, x ∈ xs ∧ ∀ k, RLe x.M k → RLe y.M k) (hle : TLe xs 1048576) (hw : ∀ x, x ∈ xs → RWf x.v) : TWf ys :=
  ⟨ToT.le h hle, fun y hy => (h y hy).1, fun y hy => by
    obtain ⟨i, hi, rfl⟩ := List.getElem_of_mem hy
    have hl : ys.length = xs.length := by have := congrArg List.length hs; simpa [tvs] using this
    have e := (tg_tvs hs i).2
    rw [tg_eq hi, tg_eq (by omega)] at e
    rw [e]
    exact hw _ (List.getElem_mem _)⟩
set_option maxRecDepth 100000 in
set_option maxHeartbeats 8000000 in
theorem exactTopicsOk_any (a : Option Addr) (n c : Nat) (xs : List Ta) (w : World) (hI : TopAt w a n xs) (hw : ∀ x, x ∈ xs → RWf x.v) (hn : n ≤ 9223372036854775807) (hm : TLe xs 9223372036854775807) (hg : GOkT w) :
    Calls Tryz.prog 4 #[.slice a n c] w fun e w' => e = .returned (.bool true) ∧ Below w.heap.size w w' := by
  have HI := hidOf hI
  have HG := hidOf hg
  have HS := hidOf (szTopicS_any a n c xs 1048576 w hI hn hm (by omega) (by omega))
  clear hI hg
  go_enter Tryz.func4, Tryz.ntmps4
  go_wp2_with fail
  refine (HS.out).mono ?_
  rintro e w1 ⟨⟨k, rfl, hk⟩, b1⟩
  clear HS
  rcases hk with hk | ⟨hk, _, hn1, hle⟩
  · go_wp2_with fail
    go_ret
    exact ⟨rfl, b1⟩
  have hk' : ¬ k < 0 := by omega
  have HLe := hidOf hle
  have HL2 := hidOf (show TLe xs 2097152 from fun x hx => (hle x hx).mono (by omega))
  have HN2 := hidOf (show n ≤ 2097152 by omega)
  have HN1 := hidOf hn1
  have HC1 := hidOf (toTopicS_any a n c xs w1 (HI.out.keep b1) HN2.out HL2.out)
  clear hk hle hn1
  go_wp2_with fail
  refine (HC1.out).mono ?_
  rintro e w2 ⟨ys, rfl, hT2, hs2, hr2, b2⟩
  have B2 := bl_trans b1 b2
  have HSp := hidOf (specTopics_any _ n n ys w2 hT2 (wf_to hs2 hr2 HLe.out hw) HN1.out)
  rw [okTs_tvs hs2] at HSp
  obtain ⟨o, ho⟩ : ∃ o, okTs xs = o := ⟨_, rfl⟩
  rw [ho] at HSp
  have HO := hidOf ho
  clear HC1 b1 b2 hT2 hs2 hr2 ho hk'
  go_wp2_with fail
  refine (HSp.out).mono ?_
  rintro e w3 ⟨rfl, b3⟩
  have B3 := bl_trans B2 b3
  have HC3 := hidOf (toTopicS_any a n c xs w3 (HI.out.keep B3) HN2.out HL2.out)
  clear HSp B2 b3
  go_wp2_with fail
  refine (HC3.out).mono ?_
  rintro e w4 ⟨zs, rfl, hT4, hs4, hr4, b4⟩
  have B4 := bl_trans B3 b4
  generalize hN4 : w3.heap.size = N4 at hT4 ⊢
  have HIm := hidOf (implTopics_any _ n n zs w4 hT4 (wf_to hs4 hr4 HLe.out hw) HN1.out (HG.out.keep B4))
  rw [okTs_tvs hs4, HO.out] at HIm
  have HT4 := hidOf hT4
  have HS4 := hidOf hs4
  have HR4 := hidOf hr4
  clear HC3 B3 b4 hT4 hs4 hr4 hN4
  go_wp2_with fail
  refine (HIm.out).mono ?_
  rintro e w5 ⟨rfl, b5⟩
  have B5 := bl_trans B4 b5
  have HT5 := hidOf (HT4.out.keep b5)
  have HC5 := hidOf (toTopicS_any a n c xs w5 (HI.out.keep B5) HN2.out HL2.out)
  clear HIm B4 b5 HT4
  generalize o = l
  go_wp2_with fail
  refine (HC5.out).mono ?_
  rintro e w6 ⟨us, rfl, hT6, hs6, hr6, b6⟩
  have B6 := bl_trans B5 b6
  have HEq := hidOf (eqTopicS_same _ _ n n n zs us w6 (HT5.out.keep b6) hT6 (by rw [HS4.out, hs6]) HN2.out (ToT.le HR4.out HL2.out) (ToT.le hr6 HL2.out))
  clear HC5 B5 b6 hT6 hs6 hr6
  go_wp2_with fail
  refine (HEq.out).mono ?_
  rintro e w7 ⟨rfl, b7⟩
  have B7 := bl_trans B6 b7
  clear HEq B6 b7
  go_wp2_with fail
  go_ret
  exact ⟨rfl, B7⟩
set_option maxRecDepth 100000 in
set_option maxHeartbeats 8000000 in
theorem exactTopicAt_any (a : Option Addr) (n c : Nat) (xs : List Ta) (s : ByteArray) (w : World) (hI : TopAt w a n xs) (hw : ∀ x, x ∈ xs → RWf x.v) (hn : n ≤ 9223372036854775807) (hm : TLe xs 9223372036854775807) (hg : GOkT w) :
    Calls Tryz.prog 5 #[.slice a n c, .string s] w fun e w' => e = .returned (.bool true) ∧ Below w.heap.size w w' := by
  by_cases hbig : 1048576 < (s.size : Int)
  · clear hI
    go_enter Tryz.func5, Tryz.ntmps5
    go_wp2_with fail
    go_ret
    exact ⟨rfl, Below.refl _ _⟩
  have HI := hidOf hI
  have HG := hidOf hg
  have HS := hidOf (szTopicS_any a n c xs 1048576 w hI hn hm (by omega) (by omega))
  clear hI hg
  go_enter Tryz.func5, Tryz.ntmps5
  go_wp2_with fail
  refine (HS.out).mono ?_
  rintro e w1 ⟨⟨k, rfl, hk⟩, b1⟩
  clear HS
  rcases hk with hk | ⟨hk, _, hn1, hle⟩
  · go_wp2_with fail
    go_ret
    exact ⟨rfl, b1⟩
  have hk' : ¬ k < 0 := by omega
  have HLe := hidOf hle
  have HL2 := hidOf (show TLe xs 2097152 from fun x hx => (hle x hx).mono (by omega))
  have HN2 := hidOf (show n ≤ 2097152 by omega)
  have HN1 := hidOf hn1
  have HC1 := hidOf (toTopicS_any a n c xs w1 (HI.out.keep b1) HN2.out HL2.out)
  clear hk hle hn1
  go_wp2_with fail
  refine (HC1.out).mono ?_
  rintro e w2 ⟨ys, rfl, hT2, hs2, hr2, b2⟩
  have B2 := bl_trans b1 b2
  have HSp := hidOf (specTopicAt_any _ n n ys s w2 hT2 (wf_to hs2 hr2 HLe.out hw) HN1.out)
  rw [atT_tvs hs2] at HSp
  obtain ⟨o, ho⟩ : ∃ o, atT xs s = o := ⟨_, rfl⟩
  rw [ho] at HSp
  have HO := hidOf ho
  clear HC1 b1 b2 hT2 hs2 hr2 ho hk'
  go_wp2_with fail
  refine (HSp.out).mono ?_
  rintro e w3 ⟨rfl, b3⟩
  have B3 := bl_trans B2 b3
  have HC3 := hidOf (toTopicS_any a n c xs w3 (HI.out.keep B3) HN2.out HL2.out)
  clear HSp B2 b3
  go_wp2_with fail
  refine (HC3.out).mono ?_
  rintro e w4 ⟨zs, rfl, hT4, hs4, hr4, b4⟩
  have B4 := bl_trans B3 b4
  generalize hN4 : w3.heap.size = N4 at hT4 ⊢
  have HIm := hidOf (implTopicAt_any _ n n zs s w4 hT4 (wf_to hs4 hr4 HLe.out hw) HN1.out (HG.out.keep B4))
  rw [atT_tvs hs4, HO.out] at HIm
  have HT4 := hidOf hT4
  have HS4 := hidOf hs4
  have HR4 := hidOf hr4
  clear HC3 B3 b4 hT4 hs4 hr4 hN4
  go_wp2_with fail
  refine (HIm.out).mono ?_
  rintro e w5 ⟨rfl, b5⟩
  have B5 := bl_trans B4 b5
  have HT5 := hidOf (HT4.out.keep b5)
  have HC5 := hidOf (toTopicS_any a n c xs w5 (HI.out.keep B5) HN2.out HL2.out)
  clear HIm B4 b5 HT4
  generalize o = l
  go_wp2_with fail
  refine (HC5.out).mono ?_
  rintro e w6 ⟨us, rfl, hT6, hs6, hr6, b6⟩
  have B6 := bl_trans B5 b6
  have HEq := hidOf (eqTopicS_same _ _ n n n zs us w6 (HT5.out.keep b6) hT6 (by rw [HS4.out, hs6]) HN2.out (ToT.le HR4.out HL2.out) (ToT.le hr6 HL2.out))
  clear HC5 B5 b6 hT6 hs6 hr6
  go_wp2_with fail
  refine (HEq.out).mono ?_
  rintro e w7 ⟨rfl, b7⟩
  have B7 := bl_trans B6 b7
  clear HEq B6 b7
  go_wp2_with fail
  go_ret
  exact ⟨rfl, B7⟩
end Go.Proofs.YtojajaibeifhoaaGreatDoor
namespace Go.Proofs.YtojajaibeifhoaaGreatDoor
open Go.ChangeShapes Go.WideShapes Go.ChangeAt Go.RowKit Go.Joins Go.Deep

theorem cellsT9 : Tryz.prog.cellsOf 90 = 9 := by kernel_rfl
theorem cellsR8 : Tryz.prog.cellsOf 88 = 8 := by kernel_rfl
theorem cellsKb : Tryz.prog.cellsOf 4 = 1 := by kernel_rfl
theorem cellsKs : Tryz.prog.cellsOf 9 = 1 := by kernel_rfl
theorem cellsKl : Tryz.prog.cellsOf 36 = 1 := by kernel_rfl
theorem cellsKm : Tryz.prog.cellsOf 85 = 1 := by kernel_rfl
theorem cellsKu : Tryz.prog.cellsOf 86 = 1 := by kernel_rfl
set_option maxRecDepth 100000 in
/-- A ring, out of the cells that hold it. -/
theorem ring_cells {H : Type} {enc : TypeId × Value → H} {W : World} {base n : Nat} {sp : Nat → Bool} {held : Bool} {c0 c1 c2 c3 c4 c5 c6 c7 : Value} {y : DataW H × List MemPlace} (hf : DataW.trod enc Tryz.prog W base sp held n 88 [c0, c1, c2, c3, c4, c5, c6, c7] = some y) :
    ∃ (M : Rm) (x : Rv), c0 = .int .i64 x.cp ∧ c1 = .int .i64 x.se ∧ c2 = .slice M.ia M.i M.ic ∧ c3 = .int .i64 x.nx ∧ c4 = .slice M.sa M.s M.sc ∧ c5 = .slice M.la M.l M.lc ∧ c6 = .slice M.ga M.g M.gc ∧ c7 = .bool x.cl ∧ RLe M 9223372036854775807 ∧ RIn W M x ∧ RWf x := by
  obtain ⟨xs, n, _, _, _, hlen, hff⟩ := DataW.trod_struct Tryz.underlying88 hf
  match xs, hlen with
  | [y0, y1, y2, y3, y4, y5, y6, y7], _ =>
    have g0 : DataW.trod enc Tryz.prog W base sp held n 3 [c0] = some y0 := by simpa [cellsTi, cellsKb, cellsKl, cellsKm, cellsKu] using hff 0 _ rfl
    have g1 : DataW.trod enc Tryz.prog W base sp held n 3 [c1] = some y1 := by simpa [cellsTi, cellsKb, cellsKl, cellsKm, cellsKu] using hff 1 _ rfl
    have g2 : DataW.trod enc Tryz.prog W base sp held n 85 [c2] = some y2 := by simpa [cellsTi, cellsKb, cellsKl, cellsKm, cellsKu] using hff 2 _ rfl
    have g3 : DataW.trod enc Tryz.prog W base sp held n 3 [c3] = some y3 := by simpa [cellsTi, cellsKb, cellsKl, cellsKm, cellsKu] using hff 3 _ rfl
    have g4 : DataW.trod enc Tryz.prog W base sp held n 86 [c4] = some y4 := by simpa [cellsTi, cellsKb, cellsKl, cellsKm, cellsKu] using hff 4 _ rfl
    have g5 : DataW.trod enc Tryz.prog W base sp held n 36 [c5] = some y5 := by simpa [cellsTi, cellsKb, cellsKl, cellsKm, cellsKu] using hff 5 _ rfl
    have g6 : DataW.trod enc Tryz.prog W base sp held n 36 [c6] = some y6 := by simpa [cellsTi, cellsKb, cellsKl, cellsKm, cellsKu] using hff 6 _ rfl
    have g7 : DataW.trod enc Tryz.prog W base sp held n 4 [c7] = some y7 := by simpa [cellsTi, cellsKb, cellsKl, cellsKm, cellsKu] using hff 7 _ rfl
    obtain ⟨cp, e0, _, w0⟩ := DataW.trod_int Tryz.underlying3 g0
    obtain ⟨se, e1, _, w1⟩ := DataW.trod_int Tryz.underlying3 g1
    obtain ⟨ia, i, ic, ts, rfl, hi, hts⟩ := msgs_cell g2
    obtain ⟨nx, e3, _, w3⟩ := DataW.trod_int Tryz.underlying3 g3
    obtain ⟨sa, s, sc, xs, rfl, hs, hxs, hfn, hxw⟩ := subs_cell g4
    obtain ⟨la, l, lc, ls, rfl, hl, hls, hlw⟩ := ints_cell g5
    obtain ⟨ga, g, gc, gs, rfl, hg, hgs, hgw⟩ := ints_cell g6
    obtain ⟨cl, e7, _⟩ := DataW.trod_bool Tryz.underlying4 g7
    simp at e0 e1 e3 e7
    subst e0 e1 e3 e7
    exact ⟨⟨ia, i, ic, sa, s, sc, xs, la, l, lc, ga, g, gc⟩, ⟨cp, se, ts, nx, svs xs, ls, gs, cl⟩, rfl, rfl, rfl, rfl, rfl, rfl, rfl, rfl, ⟨hi, hs, hfn, hl, hg⟩, ⟨hts, hxs, rfl, hls, hgs⟩, ⟨w0, w1, w3, fun q hq => (by obtain ⟨x, hx, rfl⟩ := List.mem_map.1 hq; exact hxw x hx), hlw, hgw⟩⟩
set_option maxRecDepth 100000 in
/-- A topic, out of the cells that hold it. -/
theorem topic_cells {H : Type} {enc : TypeId × Value → H} {W : World} {base n : Nat} {sp : Nat → Bool} {held : Bool} {c0 c1 c2 c3 c4 c5 c6 c7 c8 : Value} {y : DataW H × List MemPlace} (hf : DataW.trod enc Tryz.prog W base sp held n 90 [c0, c1, c2, c3, c4, c5, c6, c7, c8] = some y) :
    ∃ x : Ta, c0 = .string x.nm ∧ c1 = .int .i64 x.v.cp ∧ c2 = .int .i64 x.v.se ∧ c3 = .slice x.M.ia x.M.i x.M.ic ∧ c4 = .int .i64 x.v.nx ∧ c5 = .slice x.M.sa x.M.s x.M.sc ∧ c6 = .slice x.M.la x.M.l x.M.lc ∧ c7 = .slice x.M.ga x.M.g x.M.gc ∧ c8 = .bool x.v.cl ∧ x.nm.size ≤ maxLen ∧ RLe x.M 9223372036854775807 ∧ RIn W x.M x.v ∧ RWf x.v := by
  obtain ⟨xs, n, _, _, _, hlen, hff⟩ := DataW.trod_struct Tryz.underlying90 hf
  match xs, hlen with
  | [y0, y1], _ =>
    have g0 : DataW.trod enc Tryz.prog W base sp held n 9 [c0] = some y0 := by simpa [cellsKs, cellsR8] using hff 0 _ rfl
    have g1 : DataW.trod enc Tryz.prog W base sp held n 88 [c1, c2, c3, c4, c5, c6, c7, c8] = some y1 := by simpa [cellsKs, cellsR8] using hff 1 _ rfl
    obtain ⟨nm, e0, _, hnm⟩ := DataW.trod_string Tryz.underlying9 g0
    obtain ⟨M, x, rfl, rfl, rfl, rfl, rfl, rfl, rfl, rfl, hm, hi, hw⟩ := ring_cells g1
    simp at e0
    subst e0
    exact ⟨⟨nm, M, x⟩, rfl, rfl, rfl, rfl, rfl, rfl, rfl, rfl, rfl, hnm, hm, hi, hw⟩
set_option maxRecDepth 100000 in
theorem topics_of {H : Type} {enc : TypeId × Value → H} {W : World} {base fuel : Nat} {sp : Nat → Bool} {held : Bool} {a : Option Addr} {len cap : Nat} {x : DataW H × List MemPlace}
    (hf : DataW.trod enc Tryz.prog W base sp held fuel 46 (Value.slice a len cap).cells.toList = some x) : len ≤ 9223372036854775807 ∧ ∃ xs, TopAt W a len xs ∧ TLe xs 9223372036854775807 ∧ ∀ x, x ∈ xs → RWf x.v := by
  rcases open_slice Tryz.underlying46 hf with ⟨hcs, _⟩ | ⟨ad, l, c, m, n, D, Pl, hcs, _, hl, hm, hmm, _, hx⟩
  · simp [Value.cells] at hcs
    obtain ⟨rfl, rfl, rfl⟩ := hcs
    exact ⟨by omega, [], TopAt.nil _ _, fun x hx => (by cases hx), fun x hx => (by cases hx)⟩
  · simp [Value.cells] at hcs
    obtain ⟨rfl, rfl, rfl⟩ := hcs
    have hlm : len ≤ m := by rw [hmm]; split <;> omega
    have hlx : len ≤ 9223372036854775807 := by unfold maxLen at hm; omega
    obtain ⟨f, hfn⟩ := fn_ofT (α := Ta) Ta.zero (fun i (hi : i < len) => by
      obtain ⟨cs, h1, h2⟩ := hx i (by omega)
      rw [cellsT9] at h1
      obtain ⟨_, hlen, hcell⟩ := World.cells?_some h1
      match cs, hlen with
      | [c0, c1, c2, c3, c4, c5, c6, c7, c8], _ =>
        obtain ⟨x, rfl, rfl, rfl, rfl, rfl, rfl, rfl, rfl, rfl, hn, hm2, hi2, hw2⟩ := topic_cells h2
        have e0 := hcell 0 (by omega)
        have e1 := hcell 1 (by omega)
        have e2 := hcell 2 (by omega)
        have e3 := hcell 3 (by omega)
        have e4 := hcell 4 (by omega)
        have e5 := hcell 5 (by omega)
        have e6 := hcell 6 (by omega)
        have e7 := hcell 7 (by omega)
        have e8 := hcell 8 (by omega)
        rw [add_add] at e0 e1 e2 e3 e4 e5 e6 e7 e8
        exact (⟨x, by simpa using e0, by simpa using e1, by simpa using e2, by simpa using e3, by simpa using e4, by simpa using e5, by simpa using e6, by simpa using e7, by simpa using e8, hn, hm2, hi2, hw2⟩ : ∃ x : Ta, W.cell? (ad.add (i * 9)) = some (.string x.nm) ∧ W.cell? (ad.add (i * 9 + 1)) = some (.int .i64 x.v.cp) ∧ W.cell? (ad.add (i * 9 + 2)) = some (.int .i64 x.v.se) ∧ W.cell? (ad.add (i * 9 + 3)) = some (.slice x.M.ia x.M.i x.M.ic) ∧ W.cell? (ad.add (i * 9 + 4)) = some (.int .i64 x.v.nx) ∧ W.cell? (ad.add (i * 9 + 5)) = some (.slice x.M.sa x.M.s x.M.sc) ∧ W.cell? (ad.add (i * 9 + 6)) = some (.slice x.M.la x.M.l x.M.lc) ∧ W.cell? (ad.add (i * 9 + 7)) = some (.slice x.M.ga x.M.g x.M.gc) ∧ W.cell? (ad.add (i * 9 + 8)) = some (.bool x.v.cl) ∧ x.nm.size ≤ maxLen ∧ RLe x.M 9223372036854775807 ∧ RIn W x.M x.v ∧ RWf x.v))
    have mem : ∀ x, x ∈ (List.range len).map f → ∃ i, i < len ∧ f i = x := fun x hx => by
      simp only [List.mem_map, List.mem_range] at hx
      exact hx
    refine ⟨hlx, (List.range len).map f, ⟨by simp, fun x hx => ?_, fun x hx => ?_, ?_⟩, fun x hx => ?_, fun x hx => ?_⟩
    · obtain ⟨i, hi, rfl⟩ := mem x hx
      exact (hfn i hi).2.2.2.2.2.2.2.2.2.1
    · obtain ⟨i, hi, rfl⟩ := mem x hx
      exact (hfn i hi).2.2.2.2.2.2.2.2.2.2.2.1
    · rcases Nat.eq_zero_or_pos len with h | hpos
      · exact .inl h
      · obtain ⟨b, off, spot⟩ := ad
        have hc := (hfn 0 hpos).1
        have hspot : spot = none := by simpa [Addr.add] using World.cell?_spot hc
        subst hspot
        have hb : b < W.heap.size := by
          rw [Addr.add_lit] at hc
          rcases Nat.lt_or_ge b W.heap.size with h | h
          · exact h
          · simp [World.cell?, Array.getElem?_eq_none h] at hc
        refine .inr ⟨b, off, rfl, hb, fun i hi => ?_⟩
        obtain ⟨q0, q1, q2, q3, q4, q5, q6, q7, q8, _⟩ := hfn i hi
        rw [Addr.add_lit] at q0 q1 q2 q3 q4 q5 q6 q7 q8
        have e : tg ((List.range len).map f) i = f i := by simp [tg, List.getD, hi]
        rw [e]
        exact ⟨q0, q1, q2, q3, q4, q5, q6, q7, q8⟩
    · obtain ⟨i, hi, rfl⟩ := mem x hx
      exact (hfn i hi).2.2.2.2.2.2.2.2.2.2.1
    · obtain ⟨i, hi, rfl⟩ := mem x hx
      exact (hfn i hi).2.2.2.2.2.2.2.2.2.2.2.2
end Go.Proofs.YtojajaibeifhoaaGreatDoor
namespace Go.Proofs.YtojajaibeifhoaaGreatDoor
variable {H : Type} {enc : TypeId × Value → H}

theorem returnsInHanded_and_shaped {a : Assume} {C : Checked} {os : Os} {f : FuncId} {fn : Func} {s : ChangeSpec} {conds : List PathCond} {apart fresh handsOn again : Bool} {X : World → Array Value → Prop}
    (hX : ∀ (w w' : World) (args : Array Value), w.heap = w'.heap → X w args → X w' args)
    (own : ownKnob C.prog.godebug = none) (started : os.Started) (noInit : C.prog.inits.idxOf? f = none) (hfn : C.prog.funcs[f]? = some fn)
    (witness : ∃ (w : World) (tape : Tape) (i : Input), w.os = os ∧ (w.forCall tape i).Shaped C.prog ∧ i.vars = [] ∧ Input.okWide C.prog (w.forCall tape i) .any w.heap.size f i ∧
      ((s.pre enc C.prog fn conds apart (w.forCall tape i).memory i.args ∧ X (w.forCall tape i).memory i.args) ∧ sizedMet enc C.prog fn (OpenSpec.ofChange s) apart (w.forCall tape i).memory i.args) ∧ a.holds C.prog (lone (Frame.enter C.prog f i.args .normal) [] (w.forCall tape i)))
    (contract : ∀ (W : World) (base : Nat) (args : Array Value) (ds gs : List (DataW H)) (before : List MemPlace),
      (∀ (j : Nat) t v, fn.params[j]? = some t → args[j]? = some v → Value.okWide C.prog W .any base t v) →
      DataW.Whole enc C.prog fn.params.toList s.vars apart W args.toList ds gs before →
      conds.all (PathCond.test C.prog ⟨fn.params.toList, ds, s.plain.varTypes C.prog, gs⟩) = true →
      (DataW.weightsEach C.prog (fn.params.toList ++ s.plain.varTypes C.prog) (ds ++ gs)).all (· ≤ reachBytes) = true → X W args → W.ShapedOpen C.prog →
      a.holds C.prog (lone (Frame.enter C.prog f args .normal) [] W) →
      Calls C.prog f args W fun e W' => ∃ v, e = .returned v ∧ s.post enc C.prog fn apart fresh handsOn again W args v W') :
    ReturnsInHanded a C os f .any (fun w args => (s.pre enc C.prog fn conds apart w args ∧ X w args) ∧ sizedMet enc C.prog fn (OpenSpec.ofChange s) apart w args) (s.post enc C.prog fn apart fresh handsOn again) := by
  refine returnsInHanded_of_calls own started noInit witness ?_
  intro w tape i _ hsh _ hok hpre hholds
  obtain ⟨_, _, _, fn', hfn', _, _, _, _, hval⟩ := hok
  have e : fn' = fn := Option.some.inj (hfn'.symm.trans hfn)
  subst e
  obtain ⟨⟨⟨ds, gs, before, hw, hc⟩, hx⟩, hz⟩ := hpre
  have hw' := DataW.Whole.of_heap (w' := w.forCall tape i) (by rfl) hw
  refine (contract (w.forCall tape i) w.heap.size i.args ds gs before hval hw' hc (hz.weights hw) (hX _ _ _ (by rfl) hx) hsh hholds).mono fun e W' ⟨v, he, hp⟩ => ?_
  subst he
  exact ChangeSpec.post_blind hp
end Go.Proofs.YtojajaibeifhoaaGreatDoor
