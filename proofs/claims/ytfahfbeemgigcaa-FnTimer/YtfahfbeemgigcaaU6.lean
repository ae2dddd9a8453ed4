/-
  The program's clocks: a heap of a right clock's timers, the clock of a heap.
-/
import Derived.Test.YtfahfbeemgigcaaU5
import Derived.Test.YtfahfbeemgigcaaCC
namespace Go.Proofs.Ytfahfbeemgigcaa
open Go.RowKit Pl Il Th

theorem isTok_any (x : Int) (w : World) :
    Calls Try.prog 41 #[.int .i64 x] w fun e w' => e = .returned (.bool (decide (0 ≤ x) && decide (x ≤ 23))) ∧ w' = w := by
  go_enter Try.func41, Try.ntmps41
  go_wp2
  all_goals go_ret
  all_goals (refine ⟨rbool ?_, rfl⟩; rw [Bool.eq_iff_iff]; simp; try omega)

/-- What is told of a clock: a heap of its timers, or that it is not right. -/
def CtP (now : Int) (n : Nat) (ts : List (Int × Int)) (w : World) (e : Ending) (w' : World) : Prop :=
  (okClock now ts = true ∧ ∃ hb tv, e = .returned (.tuple #[.pointer (some ⟨hb, 0, none⟩), .bool true]) ∧ HMem w.heap.size w' hb tv (n : Int) (numL 0 ts) ∧ Below w.heap.size w w') ∨
  (okClock now ts = false ∧ e = .returned (.tuple #[.pointer none, .bool false]) ∧ Below w.heap.size w w')
theorem ok_no_now {now : Int} {ts : List (Int × Int)} (h : now < 0 ∨ 1000000000 < now ∨ 40 < ts.length) : okClock now ts = false := by
  unfold okClock
  rcases h with h | h | h
  · rw [decide_eq_false (by omega : ¬ 0 ≤ now)]; simp
  · rw [decide_eq_false (by omega : ¬ now ≤ 1000000000)]; simp
  · rw [decide_eq_false (by omega : ¬ ts.length ≤ 40)]; simp
theorem ok_no_l {now : Int} {ts : List (Int × Int)} {k : Nat} (h : okL (now + 1) (ts.take k) = false) : okClock now ts = false := by
  unfold okClock; rw [okL_bad h]; simp
theorem ok_yes {now : Int} {ts : List (Int × Int)} {k : Nat} (h0 : ¬ now < 0) (h1 : ¬ 1000000000 < now) (h2 : ts.length ≤ 40) (hk : ts.length ≤ k) (h : okL (now + 1) (ts.take k) = true) : okClock now ts = true := by
  rw [List.take_of_length_le hk] at h
  unfold okClock
  rw [decide_eq_true (by omega : 0 ≤ now), decide_eq_true (by omega : now ≤ 1000000000), decide_eq_true h2, h]; rfl
theorem okOne_no {m : Int} {p : Int × Int} (h : p.1 < m ∨ 1000000000 < p.1 ∨ (decide (0 ≤ p.2) && decide (p.2 ≤ 23)) = false) : okOne m p = false := by
  cases e : okOne m p with
  | false => rfl
  | true =>
    have := (okOne_iff m p).1 e
    rcases h with h | h | h
    · omega
    · omega
    · rw [decide_eq_true this.2.2.1, decide_eq_true this.2.2.2] at h; cases h
theorem okOne_yes {m : Int} {p : Int × Int} (h1 : ¬ p.1 < m) (h2 : ¬ 1000000000 < p.1) (h3 : (decide (0 ≤ p.2) && decide (p.2 ≤ 23)) = true) : okOne m p = true := by
  simp only [Bool.and_eq_true, decide_eq_true_eq] at h3
  exact (okOne_iff m p).2 ⟨by omega, by omega, h3.1, h3.2⟩
theorem HMem.new (w : World) : HMem w.heap.size (w.alloc (.cells #[.slice none 0 0, .int .i64 0, fv] 80)) w.heap.size (.slice none 0 0) 0 [] :=
  ⟨heap_alloc_new w _, World.ownsRow_nil _ _ _ _, Nat.le_refl _⟩

set_option maxRecDepth 100000 in
set_option maxHeartbeats 2000000 in
theorem ctimers_any (now : Int) (a : Option Addr) (n cap : Nat) (ts : List (Int × Int)) (w : World) (hI : TimAt w a n ts) (hn : n ≤ 9223372036854775807) :
    Calls Try.prog 35 #[.agg #[.int .i64 now, .slice a n cap]] w fun e w' => CtP now n ts w e w' := by
  have b0 : Below w.heap.size w (w.alloc (.cells #[.int .i64 now, .slice a n cap] 26)) := bl_alloc (Below.refl _ _) _
  by_cases hbad : now < 0 ∨ 1000000000 < now ∨ 40 < n
  · have hres := hidOf (ok_no_now (now := now) (ts := ts) (by rw [hI.len]; exact hbad))
    clear hI
    by_cases h0 : now < 0
    · clear hbad
      go_enter Try.func35, Try.ntmps35
      go_wp2
      go_ret2
      exact .inr ⟨hres.out, rfl, b0⟩
    · by_cases h1 : 1000000000 < now
      · clear hbad
        go_enter Try.func35, Try.ntmps35
        go_wp2
        go_ret2
        exact .inr ⟨hres.out, rfl, b0⟩
      · have h2 : (40 : Int) < (n : Int) := by omega
        clear hbad
        go_enter Try.func35, Try.ntmps35
        go_wp2
        go_ret2
        exact .inr ⟨hres.out, rfl, b0⟩
  · have h0 : ¬ now < 0 := by omega
    have h1 : ¬ 1000000000 < now := by omega
    have h2 : ¬ (40 : Int) < (n : Int) := by omega
    have hlen := hI.len
    have HL := hidOf hlen
    have H1 := HMem.new (w.alloc (.cells #[.int .i64 now, .slice a n cap] 26))
    have hsz : (w.alloc (.cells #[.int .i64 now, .slice a n cap] 26)).heap.size = w.heap.size + 1 := by simp
    rw [hsz] at H1
    have H1' : HMem w.heap.size ((w.alloc (.cells #[.int .i64 now, .slice a n cap] 26)).alloc (.cells #[.slice none 0 0, .int .i64 0, fv] 80)) (w.heap.size + 1) (.slice none 0 0) 0 [] := ⟨H1.blk, H1.row.mono (by omega), by omega⟩
    have hFF : HFr w.heap.size w ((w.alloc (.cells #[.int .i64 now, .slice a n cap] 26)).alloc (.cells #[.slice none 0 0, .int .i64 0, fv] 80)) := HFr.of (bl_alloc b0 _) (Nat.le_refl _)
    unfold fv at H1' hFF
    have HH := hidOf H1'
    have HF := hidOf hFF
    have HI := hidOf hI
    clear hbad hlen H1 H1' hFF hsz hI b0
    go_enter Try.func35, Try.ntmps35
    go_wp2_with fail
    go_loopw [5, 30] (fun x i wr => ∃ (k : Nat) (tv : Value), k ≤ n ∧ i = .int .i64 k ∧ x = .int .i64 (lastAt (now + 1) (ts.take k)) ∧ okL (now + 1) (ts.take k) = true ∧ HMem w.heap.size wr (w.heap.size + 1) tv (k : Int) (numL 0 (ts.take k)) ∧ HFr w.heap.size w wr) (fun _ i _ => n - (intOf i).toNat)
    case atStart => exact ⟨0, _, Nat.zero_le _, rfl, rfl, rfl, HH.out, HF.out⟩
    case round =>
      rename_i wr
      obtain ⟨k, tv, hk, rfl, rfl, hok, hM, hF⟩ := hrel
      have HM := hidOf hM
      have HFr' := hidOf hF
      have HOK := hidOf hok
      clear HH HF hM hok
      by_cases hlt : k < n
      · obtain ⟨_, h' | ⟨b, off, e, hb, hcell⟩⟩ := HI.out
        · omega
        have hc : wr.cell? ⟨b, off + k * 2, none⟩ = some (.int .i64 (tg ts k).1) := by rw [hF.below.cell (p := ⟨b, off + k * 2, none⟩) hb]; exact (hcell k hlt).1
        have hc2 : wr.cell? ⟨b, off + k * 2 + 1, none⟩ = some (.int .i64 (tg ts k).2) := by rw [hF.below.cell (p := ⟨b, off + k * 2 + 1, none⟩) hb]; exact (hcell k hlt).2
        have hki : (k : Int) < (n : Int) := by omega
        have htk : ts.take (k + 1) = ts.take k ++ [tg ts k] := take_tg (by have := HL.out; omega)
        subst e
        obtain ⟨y, hy⟩ : ∃ y, tg ts k = y := ⟨_, rfl⟩
        rw [hy] at hc hc2 htk
        obtain ⟨m, hm⟩ : ∃ m, lastAt (now + 1) (ts.take k) = m := ⟨_, rfl⟩
        rw [hm]
        have HTK := hidOf htk
        have HMm := hidOf hm
        have hA : Below wr.heap.size wr (wr.alloc (.cells #[.int .i64 y.1, .int .i64 y.2] 36)) := bl_alloc (Below.refl _ _) _
        have HA := hidOf hA
        clear hcell htk hy hm hF hA
        have hno : okOne m y = false → okClock now ts = false := fun h => ok_no_l (k := k + 1) (by rw [HTK.out, okL_snoc, HMm.out, h]; simp)
        have HNO := hidOf hno
        clear hno
        by_cases t1 : y.1 < m
        · have hres := hidOf (HNO.out (okOne_no (.inl t1)))
          go_wp2
          go_ret2
          exact .inr ⟨hres.out, rfl, (HFr'.out.trans (HFr.of HA.out HM.out.size)).below⟩
        · by_cases t2 : 1000000000 < y.1
          · have hres := hidOf (HNO.out (okOne_no (.inr (.inl t2))))
            go_wp2
            go_ret2
            exact .inr ⟨hres.out, rfl, (HFr'.out.trans (HFr.of HA.out HM.out.size)).below⟩
          · go_wp2_with fail
            refine (isTok_any y.2 _).mono ?_
            rintro e2 w2 ⟨rfl, rfl⟩
            cases t3 : (decide (0 ≤ y.2) && decide (y.2 ≤ 23))
            · have hres := hidOf (HNO.out (okOne_no (.inr (.inr t3))))
              go_wp2
              go_ret2
              exact .inr ⟨hres.out, rfl, (HFr'.out.trans (HFr.of HA.out HM.out.size)).below⟩
            · have hyes := okOne_yes (m := m) (p := y) (by omega) (by omega) t3
              have hok2 : okL (now + 1) (ts.take (k + 1)) = true := by rw [HTK.out, okL_snoc, HMm.out, hyes, HOK.out]; rfl
              have hlk : (ts.take k).length = k := by rw [List.length_take]; have := HL.out; omega
              have hpush : pushL (numL 0 (ts.take k)) ⟨y.1, y.2, (k : Int)⟩ = numL 0 (ts.take (k + 1)) := by
                have := push_num (m := now + 1) (ts := ts.take k) (p := y) (by rw [← HTK.out]; exact hok2)
                rw [hlk] at this
                rw [this, HTK.out]
              have hset := set_any w.heap.size (w.heap.size + 1) tv (k : Int) (numL 0 (ts.take k)) y _ (HM.out.keep HA.out) (by rw [length_numL, hlk]; omega) (by omega) (by omega)
              rw [hpush] at hset
              have HSet := hidOf hset
              have HOK2 := hidOf hok2
              clear hset hpush hlk hok2 hyes
              go_wp2_with fail
              refine (HSet.out).mono ?_
              rintro e3 w3 ⟨rfl, ⟨tv3, h3⟩, hF3⟩
              have H3 := hidOf h3
              have HF3 := hidOf ((HFr'.out.trans (HFr.of HA.out HM.out.size)).trans hF3)
              clear h3 hF3 HSet
              go_wp2
              go_roundw
              case rel => exact ⟨k + 1, tv3, by omega, by go_num, by rw [HTK.out, lastAt_snoc], HOK2.out, by have e : ((k + 1 : Nat) : Int) = (k : Int) + 1 := (by omega); rw [e]; exact H3.out, HF3.out⟩
              case measure => simp [intOf]; omega
      · have hres := hidOf (ok_yes (now := now) (ts := ts) (k := k) (by omega) (by omega) (by have := HL.out; omega) (by have := HL.out; omega) HOK.out)
        have hM2 : HMem w.heap.size wr (w.heap.size + 1) tv (n : Int) (numL 0 ts) := by
          have := HM.out
          rw [List.take_of_length_le (by have := HL.out; omega)] at this
          have e : k = n := by omega
          rw [← e]; exact this
        have HM2 := hidOf hM2
        clear hM2 hF
        have hki : ¬ (k : Int) < (n : Int) := by omega
        go_wp2
        go_ret2
        exact .inl ⟨hres.out, _, _, rfl, HM2.out, HFr'.out.below⟩
end Go.Proofs.Ytfahfbeemgigcaa
