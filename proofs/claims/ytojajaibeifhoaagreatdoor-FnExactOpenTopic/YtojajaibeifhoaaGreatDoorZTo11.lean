/-
  Walks of the laws' own helpers on messages: marked.
  The laws' own marks of numbers, with wide bounds.
  Which blocks a marking turns; what keeps, all the same.
-/
import Derived.Test.YtojajaibeifhoaaGreatDoorZTo10
import Derived.Test.YtojajaibeifhoaaGreatDoorZTo8
import Derived.Test.YtojajaibeifhoaaGreatDoorZTo3
import Derived.Test.YtojajaibeifhoaaGreatDoorZTo9
namespace Go.Proofs.YtojajaibeifhoaaGreatDoor
open Go.RowKit Pl Il

set_option maxHeartbeats 2000000 in
/-- The list is written over with marks; nothing but its own block turns. -/
theorem markMsgS_any (B : Nat) (a : Option Addr) (n cap : Nat) (ts : List Tm) (k : Nat) (w : World) (hO : OwnF B w a n ts) (hn : n ≤ 2097152) (k0 : 0 < k) (k1 : k + 3 * n ≤ 4000000000000000000) :
    Calls Tryz.prog 66 #[.slice a n cap, .int .i64 (k : Int)] w fun e w' => e = .returned (.int .i64 ((k + 3 * n : Nat) : Int)) ∧ OwnF B w' a n (marksF k n) ∧ TurnF a n w w' := by
  by_cases h0 : n = 0
  · subst h0
    clear hO
    go_enter Tryz.func66, Tryz.ntmps66
    go_wp2
    go_loop [1, 5] (fun x i => x = .int .i64 (k : Int) ∧ i = .int .i64 0) (fun _ _ => 0)
    case atStart => exact ⟨rfl, rfl⟩
    case round =>
      obtain ⟨rfl, rfl⟩ := hrel
      go_wp2
      go_ret
      exact ⟨rint (by omega), ⟨⟨marksF_len _ _, marksF_short k1, .inl rfl⟩, .inl rfl⟩, .inl ⟨rfl, Below.refl _ _⟩⟩
  · obtain ⟨⟨hlen, _, hr | ⟨b, off, rfl, hb, hcell⟩⟩, hown⟩ := hO
    · omega
    obtain ⟨hB, hfr⟩ : B ≤ b ∧ ∀ o, w.frozen? ⟨b, o, none⟩ = false := by
      rcases hown with h0' | ⟨b', off', e, hB, hf⟩
      · omega
      · cases e; exact ⟨hB, hf⟩
    have hS := hidOf (MarkF.mk (k := k) (m := 0) ⟨rfl, rfl, rfl, Nat.le_refl _, fun _ _ _ => rfl⟩ hb (fun j hj => ⟨_, _, _, (hcell j hj).1, (hcell j hj).2.1, (hcell j hj).2.2, fun h => by omega⟩) hfr)
    clear hcell hfr hown hlen
    go_enter Tryz.func66, Tryz.ntmps66
    go_wp2
    go_loopw [1, 5] (fun x i wr => ∃ m : Nat, m ≤ n ∧ i = .int .i64 m ∧ x = .int .i64 ((k + 3 * m : Nat) : Int) ∧ MarkF w b off n k m wr) (fun _ i _ => n - (intOf i).toNat)
    case atStart => exact ⟨0, Nat.zero_le _, rfl, by simp, hS.out⟩
    case round =>
      rename_i wr
      obtain ⟨m, hm, rfl, rfl, hM⟩ := hrel
      clear hS
      by_cases hlt : m < n
      · obtain ⟨q, hq⟩ : ∃ q, q = k + 3 * m := ⟨_, rfl⟩
        have hq1 : 0 < q ∧ q + 3 ≤ 4000000000000000000 := by omega
        obtain ⟨v0, v1, v2, hv0, hv1, hv2, _⟩ := hM.cells m hlt
        have hf := hM.fr
        have hb2 := hM.lt
        have hst := fun (X u : World) => MarkF.step' (X := X) (u := u) hM
        have hn3 : ((k + 3 * (m + 1) : Nat) : Int) = (q : Int) + 1 + 1 + 1 := by omega
        have q2 : (q : Int) + 1 + 1 = ((q + 2 : Nat) : Int) := by omega
        have q1 : (q : Int) + 1 = ((q + 1 : Nat) : Int) := by omega
        rw [← hq] at hst ⊢
        obtain ⟨X, hX⟩ : ∃ X, X = (wr.setCell ⟨b, off + m * 3, none⟩ (.int .i64 (q : Int))).setCell ⟨b, off + m * 3 + 1, none⟩ (.int .i64 ((q : Int) + 1)) := ⟨_, rfl⟩
        have hst2 := fun u => hst X u (by rw [hX, q1])
        have hX2 : X.cell? ⟨b, off + m * 3 + 2, none⟩ = some v2 := by
          rw [hX, World.cell?_setCell_other _ _ _ _ (by intro e'; injection e' with _ e2; omega), World.cell?_setCell_other _ _ _ _ (by intro e'; injection e' with _ e2; omega)]; exact hv2
        have hXf : ∀ o, X.frozen? ⟨b, o, none⟩ = false := fun o => by rw [hX]; simpa using hf o
        have hXs : b < X.heap.size := by rw [hX]; simpa using hb2
        have HX := hidOf (And.intro hX2 (And.intro hXf hXs))
        have HST := hidOf hst2
        have HQ := hidOf (And.intro hq hn3)
        have Q2 := hidOf q2
        clear hM hst hq hst2 hX2 hXf hXs hn3 q1 q2
        go_wp2_with fail
        rw [← hX, Q2.out]
        refine (markText_any (q + 2) X (by omega) (by omega)).mono ?_
        rintro e u ⟨rfl, hbu⟩
        have hu2 : u.cell? ⟨b, off + m * 3 + 2, none⟩ = some v2 := by rw [hbu.cell (p := ⟨b, off + m * 3 + 2, none⟩) HX.out.2.2]; exact HX.out.1
        have huf : ∀ o, u.frozen? ⟨b, o, none⟩ = false := fun o => by rw [hbu.frozen (p := ⟨b, o, none⟩) HX.out.2.2]; exact HX.out.2.1 o
        have HS2 := hidOf (HST.out u hbu)
        clear hbu HST hX hv0 hv1 hv2 hf HX
        go_wp2
        go_roundw
        case rel => exact ⟨m + 1, by omega, by go_num, by rw [HQ.out.2]; exact congrArg (Value.int .i64) (by omega), HS2.out⟩
        case measure => simp [intOf]; omega
      · obtain rfl : m = n := by omega
        go_wp2
        go_ret
        refine ⟨rfl, ⟨⟨marksF_len _ _, marksF_short k1, .inr ⟨b, off, rfl, hM.lt, fun i hi => ?_⟩⟩, .inr ⟨b, off, rfl, hB, hM.fr⟩⟩, .inr ⟨by omega, b, off, rfl, hM.ex⟩⟩
        obtain ⟨v0, v1, v2, hv0, hv1, hv2, hk⟩ := hM.cells i hi
        rw [hv0, hv1, hv2, (hk hi).1, (hk hi).2.1, (hk hi).2.2, marksF_get hi]
        exact ⟨rfl, rfl, rfl⟩
set_option maxHeartbeats 2000000 in
theorem heldMsgS_marks (a : Option Addr) (n cap k : Nat) (w : World) (hI : TmAt w a n (marksF k n)) (hn : n ≤ 2097152) (k0 : 0 < k) (k1 : k + 3 * n ≤ 4000000000000000000) :
    Calls Tryz.prog 69 #[.slice a n cap, .int .i64 (k : Int)] w fun e w' => e = .returned (.int .i64 ((k + 3 * n : Nat) : Int)) ∧ Below w.heap.size w w' := by
  obtain ⟨hlen, _, rfl | ⟨b, off, rfl, hb, hcell⟩⟩ := hI
  · go_enter Tryz.func69, Tryz.ntmps69
    go_wp2
    go_loop [1, 5] (fun x i => x = .int .i64 (k : Int) ∧ i = .int .i64 0) (fun _ _ => 0)
    case atStart => exact ⟨rfl, rfl⟩
    case round =>
      obtain ⟨rfl, rfl⟩ := hrel
      go_wp2
      go_ret
      exact ⟨rint (by omega), Below.refl _ _⟩
  · clear hlen
    go_enter Tryz.func69, Tryz.ntmps69
    go_wp2
    go_loopw [1, 5] (fun x i wr => ∃ m : Nat, m ≤ n ∧ i = .int .i64 m ∧ x = .int .i64 ((k + 3 * m : Nat) : Int) ∧ Below w.heap.size w wr) (fun _ i _ => n - (intOf i).toNat)
    case atStart => exact ⟨0, Nat.zero_le _, rfl, by simp, Below.refl _ _⟩
    case round =>
      rename_i wr
      obtain ⟨m, hm, rfl, rfl, hB⟩ := hrel
      by_cases hlt : m < n
      · obtain ⟨hc, hc2, hc3⟩ := hcell m hlt
        rw [marksF_get hlt] at hc hc2 hc3
        obtain ⟨q, hq⟩ : ∃ q, q = k + 3 * m := ⟨_, rfl⟩
        have hq1 : 0 < q ∧ q + 3 ≤ 4000000000000000000 := by omega
        rw [← hq] at hc hc2 hc3 ⊢
        have c1 := cellK hc hB
        have c2 := cellK hc2 hB
        have c3 := cellK hc3 hB
        have e1 : ((q : Int) != (q : Int)) = false := by simp
        have e2 : (((q + 1 : Nat) : Int) != (q : Int) + 1) = false := by simp
        have hn3 : ((k + 3 * (m + 1) : Nat) : Int) = (q : Int) + 1 + 1 + 1 := by omega
        have Q2 := hidOf (by omega : (q : Int) + 1 + 1 = ((q + 2 : Nat) : Int))
        have HN := hidOf hn3
        have hS : RdH b (off + m * 3 + 2) (.string (mkT (q + 2))) w wr := ⟨c3, hB⟩
        have HC : ∀ (u : World) (z : Int), z = ((q + 2 : Nat) : Int) → Hid (Calls Tryz.prog 65 #[.int .i64 z] u fun e w' => e = .returned (.string (mkT (q + 2))) ∧ Below u.heap.size u w') := fun u z hz => by
          rw [hz]; exact hidOf (markText_any (q + 2) u (by omega) (by omega))
        simp only at c1 c2 c3
        clear hcell hq hc hc2 hc3 hn3 hB
        generalize mkT (q + 2) = t at hS HC c3
        go_wp2_with fail
        go_region_held3 (fun w' => RdH b (off + m * 3 + 2) (.string t) w w') (first | (exact hS.drew) | (exact RdH.keep (by assumption) (by assumption))) (first | (go_at_call 65; refine ((HC _ _ (by omega)).out).mono ?_; rintro e w1 ⟨rfl, hb1⟩))
        all_goals (rename_i hT; have hB2 := hidOf hT.2; clear hT hS)
        all_goals go_wp2
        all_goals go_roundw
        case rel => exact ⟨m + 1, by omega, by go_num, by rw [HN.out], hB2.out⟩
        case measure => simp [intOf]; omega
      · obtain rfl : m = n := by omega
        clear hcell
        go_wp2
        go_ret
        exact ⟨rfl, hB⟩
end Go.Proofs.YtojajaibeifhoaaGreatDoor
namespace Go.Proofs.YtojajaibeifhoaaGreatDoor
open Go.RowKit Pl Il

/-- The list is written over with marks; nothing but its own block turns. -/
theorem markIntW_any (B : Nat) (a : Option Addr) (n cap : Nat) (xs : List Int) (k : Int) (w : World) (hO : OwnAt B w a n xs) (hn : n ≤ 2097152) (k0 : 0 ≤ k) (k1 : k ≤ 4000000000000000000) :
    Calls Tryz.prog 68 #[.slice a n cap, .int .i64 k] w fun e w' => e = .returned (.int .i64 (k + (n : Int))) ∧ OwnAt B w' a n (marks k n) ∧ (n = 0 ∧ w' = w ∨ 0 < n ∧ ∃ b off, a = some ⟨b, off, none⟩ ∧ w.grownBy w' (some b)) := by
  obtain ⟨⟨hlen, hrow⟩, hown⟩ := hO
  replace hrow : n = 0 ∨ 0 < n ∧ ∃ b off, a = some ⟨b, off, none⟩ ∧ b < w.heap.size ∧ ∀ i, i < n → w.cell? ⟨b, off + i, none⟩ = some (.int .i64 (xs.getD i 0)) := by
    rcases Nat.eq_zero_or_pos n with h0 | hpos
    · exact .inl h0
    · rcases hrow with h0 | h
      · exact .inl h0
      · exact .inr ⟨hpos, h⟩
  rcases hrow with rfl | ⟨hpos, b, off, rfl, hb, hcell⟩
  · go_enter Tryz.func68, Tryz.ntmps68
    go_wp2
    go_loop [1, 5] (fun x i => x = .int .i64 k ∧ i = .int .i64 0) (fun _ _ => 0)
    case atStart => exact ⟨rfl, rfl⟩
    case round =>
      obtain ⟨rfl, rfl⟩ := hrel
      go_wp2
      go_ret
      refine ⟨rint (by simp), ⟨⟨marks_len _ _, .inl rfl⟩, .inl rfl⟩, ?_⟩
      first | exact rfl | exact .inl rfl | exact .inl ⟨rfl, rfl⟩
  · have hfr : ∀ j, j < n → w.frozen? ⟨b, off + j, none⟩ = false := by
      rcases hown with h0 | ⟨b', off', e, _, hf⟩
      · intro j hj; omega
      · cases e; exact hf
    have hB : n = 0 ∨ B ≤ b := by
      rcases hown with h0 | ⟨b', off', e, hB, _⟩
      · exact .inl h0
      · cases e; exact .inr hB
    have hS : Marking w b off n k 0 w := ⟨⟨rfl, rfl, rfl, Nat.le_refl _, fun _ _ _ => rfl⟩, hb, fun j hj => ⟨_, hcell j hj, fun h => by omega⟩, hfr⟩
    clear hcell hfr hown
    go_enter Tryz.func68, Tryz.ntmps68
    go_wp2
    go_loopw [1, 5] (fun x i wr => ∃ m : Nat, m ≤ n ∧ i = .int .i64 m ∧ x = .int .i64 (k + (m : Int)) ∧ Marking w b off n k m wr) (fun _ i _ => n - (intOf i).toNat)
    case atStart => exact ⟨0, Nat.zero_le _, rfl, by simp, hS⟩
    case round =>
      rename_i wr
      obtain ⟨m, hm, rfl, rfl, hM⟩ := hrel
      clear hS
      by_cases hlt : m < n
      · obtain ⟨v, hv, _⟩ := hM.cells m hlt
        have hf := hM.fr m hlt
        have HM : Hid _ := hM.step
        clear hM
        go_wp2
        go_roundw
        case rel => exact ⟨m + 1, by omega, by go_num, by go_num, HM.out⟩
        case measure => simp [intOf]; omega
      · obtain rfl : m = n := by omega
        go_wp2
        go_ret
        refine ⟨rfl, ⟨⟨marks_len _ _, .inr ⟨b, off, rfl, hM.lt, fun i hi => ?_⟩⟩, ?_⟩, .inr ⟨hpos, b, off, rfl, hM.ex⟩⟩
        · obtain ⟨v, hv, hk⟩ := hM.cells i hi
          rw [hv, hk hi, marks_get hi]
        · rcases hB with h0 | hB
          · exact .inl h0
          · exact .inr ⟨b, off, rfl, hB, hM.fr⟩
theorem heldIntW_marks (a : Option Addr) (n cap : Nat) (k : Int) (w : World) (hI : IntsAt w a n (marks k n)) (hn : n ≤ 2097152) (k0 : 0 ≤ k) (k1 : k ≤ 4000000000000000000) :
    Calls Tryz.prog 71 #[.slice a n cap, .int .i64 k] w fun e w' => e = .returned (.int .i64 (k + (n : Int))) ∧ w' = w := by
  obtain ⟨hlen, rfl | ⟨b, off, rfl, hb, hcell⟩⟩ := hI
  · go_enter Tryz.func71, Tryz.ntmps71
    go_wp2
    go_loop [1, 5] (fun x i => x = .int .i64 k ∧ i = .int .i64 0) (fun _ _ => 0)
    case atStart => exact ⟨rfl, rfl⟩
    case round =>
      obtain ⟨rfl, rfl⟩ := hrel
      go_wp2
      go_ret
      exact ⟨rint (by simp), rfl⟩
  · go_enter Tryz.func71, Tryz.ntmps71
    go_wp2
    go_loop [1, 5] (fun x i => ∃ m : Nat, m ≤ n ∧ i = .int .i64 m ∧ x = .int .i64 (k + (m : Int))) (fun _ i => n - (intOf i).toNat)
    case atStart => exact ⟨0, Nat.zero_le _, rfl, by simp⟩
    case round =>
      obtain ⟨m, hm, rfl, rfl⟩ := hrel
      by_cases hlt : m < n
      · have hc := hcell m hlt
        rw [marks_get hlt] at hc
        clear hcell
        go_wp2
        go_round
        case rel => exact ⟨m + 1, by omega, by go_num, by go_num⟩
        case measure => simp [intOf]; omega
      · obtain rfl : m = n := by omega
        clear hcell
        go_wp2
        go_ret
        exact ⟨rfl, rfl⟩
end Go.Proofs.YtojajaibeifhoaaGreatDoor
namespace Go.Proofs.YtojajaibeifhoaaGreatDoor
open Go.RowKit Pl Il

/-- Nothing but the blocks of these lists has turned. -/
structure TurnL (ls : List (Option Addr × Nat)) (w w' : World) : Prop where
  os : w'.os = w.os
  tape : w'.tape = w.tape
  output : w'.output = w.output
  size : w.heap.size ≤ w'.heap.size
  block : ∀ k, k < w.heap.size → (∀ p, p ∈ ls → 0 < p.2 → ∀ off, p.1 ≠ some ⟨k, off, none⟩) → w'.heap[k]? = w.heap[k]?
theorem TurnL.refl (ls : List (Option Addr × Nat)) (w : World) : TurnL ls w w := ⟨rfl, rfl, rfl, Nat.le_refl _, fun _ _ _ => rfl⟩
theorem TurnL.trans {ls : List (Option Addr × Nat)} {w w1 w2 : World} (h : TurnL ls w w1) (h' : TurnL ls w1 w2) : TurnL ls w w2 :=
  ⟨h'.os.trans h.os, h'.tape.trans h.tape, h'.output.trans h.output, Nat.le_trans h.size h'.size, fun k hk hn => (h'.block k (Nat.lt_of_lt_of_le hk h.size) hn).trans (h.block k hk hn)⟩
theorem TurnL.mono {ls ms : List (Option Addr × Nat)} {w w' : World} (h : TurnL ls w w') (hs : ∀ p, p ∈ ls → p ∈ ms) : TurnL ms w w' :=
  ⟨h.os, h.tape, h.output, h.size, fun k hk hn => h.block k hk fun p hp => hn p (hs p hp)⟩
theorem TurnL.ofBelow {ls : List (Option Addr × Nat)} {w w' : World} (h : Below w.heap.size w w') : TurnL ls w w' := ⟨h.os, h.tape, h.output, h.size, fun k hk _ => h.block k hk⟩
theorem TurnL.ofGrown {a : Option Addr} {n b off : Nat} {w w' : World} (hn : 0 < n) (ha : a = some ⟨b, off, none⟩) (h : w.grownBy w' (some b)) : TurnL [(a, n)] w w' :=
  ⟨h.os, h.tape, h.output, h.size, fun k hk hne => h.block k hk (by
    intro e
    injection e with e
    subst e
    exact hne (a, n) (by simp) hn off ha)⟩
theorem TurnL.ofF {a : Option Addr} {n : Nat} {w w' : World} (h : TurnF a n w w') : TurnL [(a, n)] w w' := by
  rcases h with ⟨_, h⟩ | ⟨hn, b, off, ha, h⟩
  · exact TurnL.ofBelow h
  · exact TurnL.ofGrown hn ha h
theorem TurnL.ofI {a : Option Addr} {n : Nat} {w w' : World} (h : n = 0 ∧ w' = w ∨ 0 < n ∧ ∃ b off, a = some ⟨b, off, none⟩ ∧ w.grownBy w' (some b)) : TurnL [(a, n)] w w' := by
  rcases h with ⟨_, rfl⟩ | ⟨hn, b, off, ha, h⟩
  · exact TurnL.refl _ _
  · exact TurnL.ofGrown hn ha h
theorem TurnL.below {ls : List (Option Addr × Nat)} {w w' : World} {B : Nat} (h : TurnL ls w w') (hB : B ≤ w.heap.size) (hl : ∀ p, p ∈ ls → Abv p.1 p.2 B) : Below B w w' :=
  ⟨h.os, h.tape, h.output, h.size, fun k hk => h.block k (by omega) fun p hp h0 off e => by
    rcases hl p hp with q | q
    · omega
    · have := q _ _ e; omega⟩
theorem TurnL.keepB {ls : List (Option Addr × Nat)} {w w' : World} (h : TurnL ls w w') {b off n : Nat} (hb : b < w.heap.size) (hn : 0 < n) (hf : ∀ p, p ∈ ls → Far p.1 p.2 (some ⟨b, off, none⟩) n) : w'.heap[b]? = w.heap[b]? :=
  h.block b hb fun p hp h0 off' e => by
    rcases hf p hp with q | q | q
    · omega
    · omega
    · exact q b off' b off e rfl rfl
theorem TmAt.turn {ls : List (Option Addr × Nat)} {w w' : World} {a : Option Addr} {n : Nat} {ts : List Tm} (h : TmAt w a n ts) (ht : TurnL ls w w') (hf : ∀ p, p ∈ ls → Far p.1 p.2 a n) : TmAt w' a n ts := by
  refine ⟨h.len, h.short, ?_⟩
  rcases Nat.eq_zero_or_pos n with h0 | h0
  · exact .inl h0
  rcases h.row with k | ⟨b, off, rfl, hlt, hc⟩
  · exact .inl k
  · have key := ht.keepB hlt h0 hf
    refine .inr ⟨b, off, rfl, Nat.lt_of_lt_of_le hlt ht.size, fun i hi => ?_⟩
    obtain ⟨h1, h2, h3⟩ := hc i hi
    exact ⟨by rw [← h1]; exact World.cell?_of_block key, by rw [← h2]; exact World.cell?_of_block key, by rw [← h3]; exact World.cell?_of_block key⟩
theorem OwnF.turn {ls : List (Option Addr × Nat)} {B : Nat} {w w' : World} {a : Option Addr} {n : Nat} {ts : List Tm} (h : OwnF B w a n ts) (ht : TurnL ls w w') (hf : ∀ p, p ∈ ls → Far p.1 p.2 a n) : OwnF B w' a n ts := by
  refine ⟨h.tm.turn ht hf, ?_⟩
  rcases Nat.eq_zero_or_pos n with h0 | h0
  · exact .inl h0
  rcases h.own with k | ⟨b, off, rfl, hB, hfr⟩
  · exact .inl k
  rcases h.tm.row with k | ⟨b', off', e, hlt, _⟩
  · exact .inl k
  · cases e
    have key := ht.keepB hlt h0 hf
    exact .inr ⟨b, off, rfl, hB, fun o => by rw [← hfr o]; exact World.frozen?_of_block key⟩
theorem IntsAt.turn {ls : List (Option Addr × Nat)} {w w' : World} {a : Option Addr} {n : Nat} {xs : List Int} (h : IntsAt w a n xs) (ht : TurnL ls w w') (hf : ∀ p, p ∈ ls → Far p.1 p.2 a n) : IntsAt w' a n xs := by
  refine ⟨h.len, ?_⟩
  rcases Nat.eq_zero_or_pos n with h0 | h0
  · exact .inl h0
  rcases h.row with k | ⟨b, off, rfl, hlt, hc⟩
  · exact .inl k
  · have key := ht.keepB hlt h0 hf
    exact .inr ⟨b, off, rfl, Nat.lt_of_lt_of_le hlt ht.size, fun i hi => by rw [← hc i hi]; exact World.cell?_of_block key⟩
theorem Il.OwnAt.turn {ls : List (Option Addr × Nat)} {B : Nat} {w w' : World} {a : Option Addr} {n : Nat} {xs : List Int} (h : Il.OwnAt B w a n xs) (ht : TurnL ls w w') (hf : ∀ p, p ∈ ls → Far p.1 p.2 a n) : Il.OwnAt B w' a n xs := by
  refine ⟨IntsAt.turn h.ints ht hf, ?_⟩
  rcases Nat.eq_zero_or_pos n with h0 | h0
  · exact .inl h0
  rcases h.own with k | ⟨b, off, rfl, hB, hfr⟩
  · exact .inl k
  rcases h.ints.row with k | ⟨b', off', e, hlt, _⟩
  · exact .inl k
  · cases e
    have key := ht.keepB hlt h0 hf
    exact .inr ⟨b, off, rfl, hB, fun i hi => by rw [← hfr i hi]; exact World.frozen?_of_block key⟩
theorem SubAt.turn {ls : List (Option Addr × Nat)} {w w' : World} {a : Option Addr} {n : Nat} {xs : List Sa} (h : SubAt w a n xs) (ht : TurnL ls w w') (hf : ∀ p, p ∈ ls → Far p.1 p.2 a n) (hx : ∀ x, x ∈ xs → ∀ p, p ∈ ls → Far p.1 p.2 x.a x.n) : SubAt w' a n xs := by
  refine ⟨h.len, fun x hm => (h.fil x hm).turn ht (hx x hm), ?_⟩
  rcases Nat.eq_zero_or_pos n with h0 | h0
  · exact .inl h0
  rcases h.row with k | ⟨b, off, rfl, hlt, hc⟩
  · exact .inl k
  · have key := ht.keepB hlt h0 hf
    exact .inr ⟨b, off, rfl, Nat.lt_of_lt_of_le hlt ht.size, fun i hi => (hc i hi).same fun j _ => World.cell?_of_block key⟩
theorem OwnS.turn {ls : List (Option Addr × Nat)} {B : Nat} {w w' : World} {a : Option Addr} {n : Nat} {xs : List Sa} (h : OwnS B w a n xs) (ht : TurnL ls w w') (hf : ∀ p, p ∈ ls → Far p.1 p.2 a n) (hx : ∀ x, x ∈ xs → ∀ p, p ∈ ls → Far p.1 p.2 x.a x.n) : OwnS B w' a n xs := by
  refine ⟨h.sub.turn ht hf hx, ?_, fun x hm => (h.fow x hm).turn ht (hx x hm), h.apt, h.apa⟩
  rcases Nat.eq_zero_or_pos n with h0 | h0
  · exact .inl h0
  rcases h.own with k | ⟨b, off, rfl, hB, hfr⟩
  · exact .inl k
  rcases h.sub.row with k | ⟨b', off', e, hlt, _⟩
  · exact .inl k
  · cases e
    have key := ht.keepB hlt h0 hf
    exact .inr ⟨b, off, rfl, hB, fun o => by rw [← hfr o]; exact World.frozen?_of_block key⟩
/-- Marks for subscribers: six numbers, then the filter's. -/
def mkSa (k : Nat) (x : Sa) : Sa := ⟨⟨(k : Int), ((k + 1 : Nat) : Int), ((k + 2 : Nat) : Int), ((k + 3 : Nat) : Int), ((k + 4 : Nat) : Int), ((k + 5 : Nat) : Int), marksF (k + 6) x.n⟩, x.a, x.n, x.c⟩
def cntS (xs : List Sa) : Nat := xs.foldl (fun a x => a + (6 + 3 * x.n)) 0
def mkSs (k : Nat) (xs : List Sa) : List Sa := (List.range xs.length).map fun i => mkSa (k + cntS (xs.take i)) (sg xs i)
theorem mkSs_len (k : Nat) (xs : List Sa) : (mkSs k xs).length = xs.length := by simp [mkSs]
theorem mkSs_get {k : Nat} {xs : List Sa} {i : Nat} (h : i < xs.length) : sg (mkSs k xs) i = mkSa (k + cntS (xs.take i)) (sg xs i) := by
  rw [sg_eq (by rw [mkSs_len]; exact h)]
  simp [mkSs]
theorem cntS_next {xs : List Sa} {i : Nat} (h : i < xs.length) : cntS (xs.take (i + 1)) = cntS (xs.take i) + (6 + 3 * (sg xs i).n) := by
  unfold cntS
  rw [List.take_succ_eq_append_getElem h, List.foldl_append, sg_eq h]
  rfl
theorem cntS_le {xs : List Sa} {K : Nat} (h : ∀ x, x ∈ xs → x.n ≤ K) : ∀ i : Nat, cntS (xs.take i) ≤ i * (6 + 3 * K)
  | 0 => by simp [cntS]
  | i + 1 => by
    have ih := cntS_le h i
    rw [Nat.succ_mul]
    rcases Nat.lt_or_ge i xs.length with hi | hi
    · rw [cntS_next hi]
      have := h _ (sg_mem hi)
      omega
    · rw [List.take_of_length_le (by omega)]
      rw [List.take_of_length_le hi] at ih
      omega
/-- The first m are marked. -/
def mkTo (k m : Nat) (xs : List Sa) : List Sa := (List.range xs.length).map fun i => if i < m then mkSa (k + cntS (xs.take i)) (sg xs i) else sg xs i
theorem mkTo_len (k m : Nat) (xs : List Sa) : (mkTo k m xs).length = xs.length := by simp [mkTo]
theorem mkTo_get {k m : Nat} {xs : List Sa} {i : Nat} (h : i < xs.length) : sg (mkTo k m xs) i = if i < m then mkSa (k + cntS (xs.take i)) (sg xs i) else sg xs i := by
  rw [sg_eq (by rw [mkTo_len]; exact h)]
  simp [mkTo]
theorem mkTo_zero (k : Nat) (xs : List Sa) : mkTo k 0 xs = xs := by
  refine List.ext_getElem (mkTo_len _ _ _) fun i h1 h2 => ?_
  rw [← sg_eq h1, ← sg_eq h2, mkTo_get h2]
  simp
theorem mkTo_all (k : Nat) (xs : List Sa) : mkTo k xs.length xs = mkSs k xs := by
  refine List.ext_getElem (by rw [mkTo_len, mkSs_len]) fun i h1 h2 => ?_
  have h3 : i < xs.length := by rw [mkTo_len] at h1; exact h1
  rw [← sg_eq h1, ← sg_eq h2, mkTo_get h3, mkSs_get h3, if_pos h3]
theorem mkTo_mem {k m : Nat} {xs : List Sa} {y : Sa} (h : y ∈ mkTo k m xs) : ∃ i, i < xs.length ∧ y.a = (sg xs i).a ∧ y.n = (sg xs i).n ∧ y = sg (mkTo k m xs) i := by
  obtain ⟨i, hi, rfl⟩ := List.getElem_of_mem h
  rw [mkTo_len] at hi
  refine ⟨i, hi, ?_, ?_, (sg_eq _).symm⟩
  · rw [← sg_eq (by rw [mkTo_len]; exact hi), mkTo_get hi]
    split <;> rfl
  · rw [← sg_eq (by rw [mkTo_len]; exact hi), mkTo_get hi]
    split <;> rfl
theorem mkTo_same {k m : Nat} {xs : List Sa} {i : Nat} (h : i < xs.length) : (sg (mkTo k m xs) i).a = (sg xs i).a ∧ (sg (mkTo k m xs) i).n = (sg xs i).n := by
  rw [mkTo_get h]
  split <;> exact ⟨rfl, rfl⟩
end Go.Proofs.YtojajaibeifhoaaGreatDoor
