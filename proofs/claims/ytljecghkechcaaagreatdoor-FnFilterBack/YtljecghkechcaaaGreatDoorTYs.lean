/-
  Walks: one word of a filter's text, as the specification reads it.
-/
import Derived.Test.YtljecghkechcaaaGreatDoorTXs
import Derived.Test.YtljecghkechcaaaGreatDoorTYn
import Derived.Test.YtljecghkechcaaaGreatDoorG1
namespace Go.Proofs.YtljecghkechcaaaGreatDoor
open Go.RowKit Pl Il Nu

/-- What is told of a word. -/
def rdV (r : Tm × Bool) : Value := .tuple #[.agg #[.int .i64 r.1.1, .int .i64 r.1.2.1, .string r.1.2.2], .bool r.2]
theorem beqS {a b : ByteArray} (h : a = b) : (a.toList == b.toList) = true := by simp [h]
theorem bneS {a b : ByteArray} (h : ¬ a = b) : (a.toList == b.toList) = false := by
  cases hh : (a.toList == b.toList)
  · rfl
  · exfalso
    apply h
    have := beq_iff_eq.1 hh
    rw [ByteArray.toList_eq, ByteArray.toList_eq] at this
    exact baE this
theorem numV_eq (l : ByteArray) : numV (numL l.data.toList) = .tuple #[.int .i64 (numT l), .bool (numOk l)] := by
  unfold numT numOk
  cases numL l.data.toList <;> rfl
theorem rdV_of {r q : Tm × Bool} (h : r = q) : Ending.returned (rdV q) = .returned (rdV r) := by rw [h]
theorem step_e {s : ByteArray} {op : Int} {q : ByteArray} (hq : wordT op = q) (h : s = q) : stepS s op = some ((op, 0, noB), true) := by
  unfold stepS; rw [hq, if_pos h]
theorem step_s {s : ByteArray} {op : Int} {q : ByteArray} (hq : wordT op = q) (h : ¬ s = q) (h2 : s.size ≤ q.size ∨ ¬ s.extract 0 q.size = q) : stepS s op = none := by
  unfold stepS; rw [hq, if_neg h, if_pos h2]
theorem step_n {s : ByteArray} {op : Int} {q : ByteArray} (hq : wordT op = q) (h : ¬ s = q) (h2 : ¬ s.size ≤ q.size) (h3 : s.extract 0 q.size = q) (hN : hasN op = true) :
    stepS s op = some ((op, numT (s.extract q.size s.size), noB), numOk (s.extract q.size s.size)) := by
  unfold stepS; rw [hq, if_neg h, if_neg (by rintro (k | k); exact h2 k; exact k h3), if_pos hN]
theorem step_t {s : ByteArray} {op : Int} {q : ByteArray} (hq : wordT op = q) (h : ¬ s = q) (h2 : ¬ s.size ≤ q.size) (h3 : s.extract 0 q.size = q) (hN : ¬ hasN op = true) (h6 : op = 6 ∨ op = 7) :
    stepS s op = some ((op, 0, s.extract q.size s.size), true) := by
  unfold stepS; rw [hq, if_neg h, if_neg (by rintro (k | k); exact h2 k; exact k h3), if_neg hN, if_pos h6]
theorem step_o {s : ByteArray} {op : Int} {q : ByteArray} (hq : wordT op = q) (h : ¬ s = q) (h2 : ¬ s.size ≤ q.size) (h3 : s.extract 0 q.size = q) (hN : ¬ hasN op = true) (h6 : ¬ (op = 6 ∨ op = 7)) :
    stepS s op = none := by
  unfold stepS; rw [hq, if_neg h, if_neg (by rintro (k | k); exact h2 k; exact k h3), if_neg hN, if_neg h6]
theorem lt_leS {k : Nat} {p : Nat → Prop} (h : ∀ j, j < k → p j) (hk : p k) : ∀ j, j < k + 1 → p j := by
  intro j hj
  rcases Nat.lt_succ_iff_lt_or_eq.1 hj with g | rfl
  · exact h j g
  · exact hk

set_option maxHeartbeats 4000000 in
theorem l8Term_any (s : ByteArray) (w : World) (hs : s.size ≤ 1048576) :
    Calls Tryz.prog 26 #[.string s] w fun e w' => e = .returned (rdV (rdS s)) ∧ Below w.heap.size w w' := by
  have hX0 := Box3.new w (.int .i64 0) (.int .i64 0) (.string ⟨#[]⟩) 38
  have hb0 := bl_alloc (Below.refl w.heap.size w) (.cells #[.int .i64 0, .int .i64 0, .string ⟨#[]⟩] 38)
  have HX0 := hidOf hX0
  have HB0 := hidOf hb0
  clear hX0 hb0
  go_enter Tryz.func26, Tryz.ntmps26
  go_wp2
  go_loopw [4] (fun i wr => ∃ k : Nat, k ≤ 10 ∧ i = .int .i64 ((k : Int) + 1) ∧ (∀ j : Nat, j < k → stepS s ((j : Int) + 1) = none) ∧ Box3 w.heap.size (.int .i64 0) (.int .i64 0) (.string ⟨#[]⟩) wr ∧ Below w.heap.size w wr) (fun i _ => 11 - (intOf i).toNat)
  case atStart => exact ⟨0, Nat.zero_le _, rfl, fun j hj => absurd hj (Nat.not_lt_zero _), HX0.out, HB0.out⟩
  case round =>
    rename_i wr
    clear HX0 HB0
    obtain ⟨k, hk, rfl, hn, hX, hB⟩ := hrel
    have HN := hidOf hn
    have HX := hidOf hX
    clear hn hX
    by_cases hlt : k < 10
    · obtain ⟨op, hop⟩ : ∃ op : Int, (k : Int) + 1 = op := ⟨_, rfl⟩
      have h1 : 1 ≤ op := by omega
      have h10 : op ≤ 10 := by omega
      have HW := hidOf (fun u => l8Word_any op u h1 h10)
      have hz := word_size op
      obtain ⟨q, hq⟩ : ∃ q, wordT op = q := ⟨_, rfl⟩
      rw [hq] at HW hz
      have HQ := hidOf hq
      have HK := hidOf hop
      rw [hop]
      have hkk : (k : Int) = op - 1 := by omega
      clear hq hop
      go_wp2_with fail
      refine (HW.out _).mono ?_
      rintro e w1 ⟨rfl, hb1⟩
      have HX1 := hidOf (HX.out.keep hb1)
      have hB1 := bl_trans hB hb1
      clear hb1 hB HX HW
      by_cases he : s = q
      · have hbe := beqS he
        have HE := hidOf he
        clear he
        obtain ⟨_, x0, x1, x2, fr⟩ := HX1.out
        go_wp2
        refine bodyPost_ret (v := .tuple #[.agg #[.int .i64 op, .int .i64 0, .string ⟨#[]⟩], .bool true]) (by simp [results, Tryz.results26, go_sem, x0, x1, x2]) rfl ⟨rdV_of (rdS_hit (k := k) (r := ((op, 0, noB), true)) hlt HN.out (by rw [HK.out]; exact step_e HQ.out HE.out)), ?_⟩
        exact bl_set3 hB1 _ (Nat.le_refl _) _ _ _
      have hbe := bneS he
      have HE := hidOf he
      clear he
      by_cases hle : s.size ≤ q.size
      · have hle' : (s.size : Int) ≤ (q.size : Int) := by omega
        have HS := hidOf (step_s HQ.out HE.out (.inl hle))
        go_wp2
        go_roundw
        case rel => exact ⟨k + 1, hlt, by rw [← HK.out]; go_num, lt_leS HN.out (by rw [HK.out]; exact HS.out), HX1.out, hB1⟩
        case measure => simp [intOf]; omega
      · have hle' : ¬ (s.size : Int) ≤ (q.size : Int) := by omega
        have HLE := hidOf hle
        have hqs : q.size ≤ s.size := by omega
        clear hle
        by_cases hp : s.extract 0 q.size = q
        · have hbp := beqS hp
          have HP := hidOf hp
          clear hp
          obtain ⟨r, hr⟩ : ∃ r, s.extract q.size s.size = r := ⟨_, rfl⟩
          have hrs : r.size ≤ 1048576 := by rw [← hr, ByteArray.size_extract]; omega
          by_cases h4 : op = 4 ∨ op = 5
          · have HN4 := hidOf (show hasN op = true by rcases h4 with rfl | rfl <;> rfl)
            have HS := hidOf (step_n HQ.out HE.out HLE.out HP.out HN4.out)
            rw [hr] at HS
            have h45 : ((op == 4) = true) ∨ ((op == 4) = false ∧ (op == 5) = true) := by rcases h4 with rfl | rfl <;> simp
            clear h4
            rcases h45 with h4 | ⟨h4, h5⟩ <;>
            · go_wp2_with fail
              first | rw [hr] | skip
              refine (number_any r _ (by unfold maxLen; omega)).mono ?_
              rintro e w2 ⟨rfl, hw2⟩
              have hb2 : Below w1.heap.size w1 w2 := by rw [hw2]; exact Below.refl _ _
              clear hw2
              rw [numV_eq]
              have hB2 := bl_trans hB1 hb2
              obtain ⟨_, x0, x1, x2, fr⟩ := HX1.out.keep hb2
              clear hb2
              go_wp2
              refine bodyPost_ret (v := .tuple #[.agg #[.int .i64 op, .int .i64 (numT r), .string ⟨#[]⟩], .bool (numOk r)]) (by simp [results, Tryz.results26, go_sem, x0, x1, x2]) rfl ⟨rdV_of (rdS_hit (k := k) (r := ((op, numT r, noB), numOk r)) hlt HN.out (by rw [HK.out]; exact HS.out)), ?_⟩
              exact bl_set3 hB2 _ (Nat.le_refl _) _ _ _
          · have h40 : (op == 4) = false := by simp; omega
            have h50 : (op == 5) = false := by simp; omega
            have HN4 := hidOf (show ¬ hasN op = true by simp [hasN]; omega)
            clear h4
            by_cases h6 : op = 6 ∨ op = 7
            · have HS := hidOf (step_t HQ.out HE.out HLE.out HP.out HN4.out h6)
              rw [hr] at HS
              have h67 : ((op == 6) = true) ∨ ((op == 6) = false ∧ (op == 7) = true) := by rcases h6 with rfl | rfl <;> simp
              clear h6
              obtain ⟨_, x0, x1, x2, fr⟩ := HX1.out
              rcases h67 with h6 | ⟨h6, h7⟩ <;>
              · go_wp2
                first | rw [hr] | skip
                refine bodyPost_ret (v := .tuple #[.agg #[.int .i64 op, .int .i64 0, .string r], .bool true]) (by simp [results, Tryz.results26, go_sem, x0, x1, x2]) rfl ⟨rdV_of (rdS_hit (k := k) (r := ((op, 0, r), true)) hlt HN.out (by rw [HK.out]; exact HS.out)), ?_⟩
                exact bl_set3 hB1 _ (Nat.le_refl _) _ _ _
            · have HS := hidOf (step_o HQ.out HE.out HLE.out HP.out HN4.out h6)
              have h60 : (op == 6) = false := by simp; omega
              have h70 : (op == 7) = false := by simp; omega
              clear h6
              go_wp2
              go_roundw
              case rel => exact ⟨k + 1, hlt, by rw [← HK.out]; go_num, lt_leS HN.out (by rw [HK.out]; exact HS.out), HX1.out, hB1⟩
              case measure => simp [intOf]; omega
        · have hbp := bneS hp
          have HS := hidOf (step_s HQ.out HE.out (.inr hp))
          clear hp
          go_wp2
          go_roundw
          case rel => exact ⟨k + 1, hlt, by rw [← HK.out]; go_num, lt_leS HN.out (by rw [HK.out]; exact HS.out), HX1.out, hB1⟩
          case measure => simp [intOf]; omega
    · obtain rfl : k = 10 := by omega
      obtain ⟨_, x0, x1, x2, fr⟩ := HX.out
      go_wp2
      refine bodyPost_ret (v := .tuple #[.agg #[.int .i64 0, .int .i64 0, .string ⟨#[]⟩], .bool false]) (by simp [results, Tryz.results26, go_sem, x0, x1, x2]) rfl ⟨rdV_of (rdS_none HN.out), ?_⟩
      exact bl_set3 hB _ (Nat.le_refl _) _ _ _
end Go.Proofs.YtljecghkechcaaaGreatDoor
