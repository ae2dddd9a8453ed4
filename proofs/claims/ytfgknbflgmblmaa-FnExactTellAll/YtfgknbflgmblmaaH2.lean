/-
  Walks of functions that make a list of numbers, or write into one.
-/
import Derived.Test.YtfgknbflgmblmaaH1
import Derived.Laws.MakeOwn
namespace Go.Proofs.Ytfgknbflgmblmaa
open Go.RowKit Pl Il

theorem info3 : (Try.prog.info? 3).map (fun i => (i.zero, i.size, i.bytes)) = some (some (.int .i64 0), 1, 8) := by kernel_rfl

/-- A new row in block g: its first k places hold xs's. -/
structure Filling (w : World) (g n : Nat) (xs : List Int) (k : Nat) (wr : World) : Prop where
  below : Below w.heap.size w wr
  ge : w.heap.size ≤ g
  lt : g < wr.heap.size
  cells : ∀ j, j < n → ∃ v, wr.cell? ⟨g, j, none⟩ = some v ∧ (j < k → v = .int .i64 (xs.getD j 0))
  fr : ∀ j, wr.frozen? ⟨g, j, none⟩ = false
theorem Filling.step {w : World} {g n : Nat} {xs : List Int} {k : Nat} {wr : World} (h : Filling w g n xs k wr) (x : Int) (hx : xs.getD k 0 = x) : Filling w g n xs (k + 1) (wr.setCell ⟨g, k, none⟩ (.int .i64 x)) where
  below := h.below.setCell (p := ⟨g, k, none⟩) h.ge _
  ge := h.ge
  lt := by simpa using h.lt
  cells := fun j hj => by
    obtain ⟨v, hv, hk⟩ := h.cells j hj
    by_cases e : j = k
    · subst e
      exact ⟨_, World.cell?_setCell_same _ _ _ hv, fun _ => by rw [hx]⟩
    · refine ⟨v, ?_, fun hlt => hk (by omega)⟩
      rw [World.cell?_setCell_other _ _ _ _ (by intro e'; cases e'; exact e rfl)]; exact hv
  fr := fun j => by simpa using h.fr j
theorem Filling.own {w : World} {g n : Nat} {xs : List Int} {wr : World} (h : Filling w g n xs n wr) (hl : xs.length = n) : OwnAt w.heap.size wr (some ⟨g, 0, none⟩) n xs :=
  ⟨⟨hl, .inr ⟨g, 0, rfl, h.lt, fun i hi => by obtain ⟨v, hv, hk⟩ := h.cells i hi; rw [Nat.zero_add, hv, hk hi]⟩⟩, .inr ⟨g, 0, rfl, h.ge, fun i _ => by rw [Nat.zero_add]; exact h.fr i⟩⟩
theorem Filling.start (w : World) (n : Nat) (xs : List Int) (t : TypeId) : Filling w w.heap.size n xs 0 (w.alloc (.cells (madeCells (Value.int .i64 0).cells n) t)) where
  below := bl_alloc (Below.refl _ _) _
  ge := Nat.le_refl _
  lt := by simp
  cells := fun j hj => by
    rw [World.cell?_alloc_new]
    exact ⟨(madeCells (Value.int .i64 0).cells n)[j]'(by rw [size_madeCells]; exact hj), by rw [Array.getElem?_eq_getElem], fun h => by omega⟩
  fr := fun j => by simp [go_sem]

theorem make_ints (n : Nat) (hn : n ≤ 2097152) (w : World) : (Instr.makeSlice 24 (.int .i64 (n : Int)) (.int .i64 (n : Int))).run Try.prog w = .ok (.slice (some ⟨w.heap.size, 0, none⟩) n n) (w.alloc (.cells (madeCells (Value.int .i64 0).cells n) 3)) := by
  obtain ⟨i, hi, hz0, hz1, hz2⟩ := info_parts info3
  have := run_make (P := Try.prog) w 24 3 i (.int .i64 0) Try.underlying24 hi hz0 .i64 .i64 (n : Int) (n : Int) (by omega) (by omega) (by rw [hz2]; omega) (by omega)
  rw [hz1] at this
  simpa using this
theorem toIntS_any (a : Option Addr) (n cap : Nat) (xs : List Int) (w : World) (hI : IntsAt w a n xs) (hn : n ≤ 2097152) :
    Calls Try.prog 64 #[.slice a n cap] w fun e w' => e = .returned (.slice (some ⟨w.heap.size, 0, none⟩) n n) ∧ OwnAt w.heap.size w' (some ⟨w.heap.size, 0, none⟩) n xs ∧ Below w.heap.size w w' := by
  have hmk := make_ints n hn
  have hS := Filling.start w n xs 3
  obtain ⟨hlen, rfl | ⟨b, off, rfl, hb, hcell⟩⟩ := hI
  · have hx : xs = [] := List.length_eq_zero_iff.1 hlen
    subst hx
    have hmk0 : ∀ w : World, (Instr.makeSlice 24 (.int .i64 0) (.int .i64 0)).run Try.prog w = .ok (.slice (some ⟨w.heap.size, 0, none⟩) 0 0) (w.alloc (.cells (madeCells (Value.int .i64 0).cells 0) 3)) := fun w => make_ints 0 (by omega) w
    clear hmk
    have hmk := hmk0
    clear hmk0
    go_enter Try.func64, Try.ntmps64
    go_wp2
    go_loopw [4] (fun i wr => i = .int .i64 0 ∧ Filling w w.heap.size 0 [] 0 wr) (fun _ _ => 0)
    case atStart => exact ⟨rfl, hS⟩
    case round =>
      obtain ⟨rfl, hF⟩ := hrel
      clear hS hmk
      go_wp2
      go_ret
      exact ⟨rfl, hF.own rfl, hF.below⟩
  · go_enter Try.func64, Try.ntmps64
    go_wp2
    go_loopw [4] (fun i wr => ∃ k : Nat, k ≤ n ∧ i = .int .i64 k ∧ Filling w w.heap.size n xs k wr) (fun i _ => n - (intOf i).toNat)
    case atStart => exact ⟨0, Nat.zero_le _, rfl, hS⟩
    case round =>
      rename_i wr
      obtain ⟨k, hk, rfl, hF⟩ := hrel
      clear hS hmk
      by_cases hlt : k < n
      · have hc : wr.cell? ⟨b, off + k, none⟩ = some (.int .i64 (xs.getD k 0)) := by rw [hF.below.cell (p := ⟨b, off + k, none⟩) hb]; exact hcell k hlt
        generalize hy : xs.getD k 0 = y at hc
        obtain ⟨v, hv, _⟩ := hF.cells k hlt
        have hfr := hF.fr k
        have hN := hF.step y hy
        have HF : Hid _ := hN
        clear hy hcell hF hN
        go_wp2
        go_roundw
        case rel => exact ⟨k + 1, by omega, by go_num, HF.out⟩
        case measure => simp [intOf]; omega
      · obtain rfl : k = n := by omega
        clear hcell
        go_wp2
        go_ret
        exact ⟨rfl, hF.own hlen, hF.below⟩

theorem marks_get {k : Int} {n j : Nat} (h : j < n) : (marks k n).getD j 0 = k + (j : Int) := by
  simp [marks, List.getD, List.getElem?_map, List.getElem?_range h]
theorem marks_len (k : Int) (n : Nat) : (marks k n).length = n := by simp [marks]

/-- Marks are written into a row, place by place. -/
structure Marking (w : World) (b off n : Nat) (k : Int) (m : Nat) (wr : World) : Prop where
  ex : w.grownBy wr (some b)
  lt : b < wr.heap.size
  cells : ∀ j, j < n → ∃ v, wr.cell? ⟨b, off + j, none⟩ = some v ∧ (j < m → v = .int .i64 (k + (j : Int)))
  fr : ∀ j, j < n → wr.frozen? ⟨b, off + j, none⟩ = false
theorem Marking.step {w : World} {b off n : Nat} {k : Int} {m : Nat} {wr : World} (h : Marking w b off n k m wr) : Marking w b off n k (m + 1) (wr.setCell ⟨b, off + m, none⟩ (.int .i64 (k + (m : Int)))) where
  ex := by
    refine ⟨h.ex.os, h.ex.tape, h.ex.output, by simpa using h.ex.size, fun i hi hn => ?_⟩
    rw [Below.heap_setCell wr ⟨b, off + m, none⟩ _ i (by rintro rfl; exact hn rfl)]
    exact h.ex.block i hi hn
  lt := by simpa using h.lt
  cells := fun j hj => by
    obtain ⟨v, hv, hk⟩ := h.cells j hj
    by_cases e : j = m
    · subst e
      exact ⟨_, World.cell?_setCell_same _ _ _ hv, fun _ => rfl⟩
    · refine ⟨v, ?_, fun hlt => hk (by omega)⟩
      rw [World.cell?_setCell_other _ _ _ _ (by intro e'; injection e' with _ e2; omega)]; exact hv
  fr := fun j hj => by simpa using h.fr j hj

/-- The list is written over with marks; nothing but its own block turns. -/
theorem markIntS_any (B : Nat) (a : Option Addr) (n cap : Nat) (xs : List Int) (k : Int) (w : World) (hO : OwnAt B w a n xs) (hn : n ≤ 2097152) (k0 : 0 ≤ k) (k1 : k ≤ 1000000000) :
    Calls Try.prog 37 #[.slice a n cap, .int .i64 k] w fun e w' => e = .returned (.int .i64 (k + (n : Int))) ∧ OwnAt B w' a n (marks k n) ∧ (n = 0 ∧ w' = w ∨ 0 < n ∧ ∃ b off, a = some ⟨b, off, none⟩ ∧ w.grownBy w' (some b)) := by
  obtain ⟨⟨hlen, hrow⟩, hown⟩ := hO
  replace hrow : n = 0 ∨ 0 < n ∧ ∃ b off, a = some ⟨b, off, none⟩ ∧ b < w.heap.size ∧ ∀ i, i < n → w.cell? ⟨b, off + i, none⟩ = some (.int .i64 (xs.getD i 0)) := by
    rcases Nat.eq_zero_or_pos n with h0 | hpos
    · exact .inl h0
    · rcases hrow with h0 | h
      · exact .inl h0
      · exact .inr ⟨hpos, h⟩
  rcases hrow with rfl | ⟨hpos, b, off, rfl, hb, hcell⟩
  · go_enter Try.func37, Try.ntmps37
    go_wp2
    go_loop [1, 5] (fun x i => x = .int .i64 k ∧ i = .int .i64 0) (fun _ _ => 0)
    case atStart => exact ⟨rfl, rfl⟩
    case round =>
      obtain ⟨rfl, rfl⟩ := hrel
      go_wp2
      go_ret
      refine ⟨rint (by simp), ⟨⟨marks_len _ _, .inl rfl⟩, .inl rfl⟩, ?_⟩
      first | exact rfl | exact .inl rfl | exact .inl ⟨rfl, rfl⟩
  · have hfr : ∀ j, j < n → w.frozen? ⟨b, off + j, none⟩ = false := by
      rcases hown with h0 | ⟨b', off', e, _, hf⟩
      · intro j hj; omega
      · cases e; exact hf
    have hB : n = 0 ∨ B ≤ b := by
      rcases hown with h0 | ⟨b', off', e, hB, _⟩
      · exact .inl h0
      · cases e; exact .inr hB
    have hS : Marking w b off n k 0 w := ⟨⟨rfl, rfl, rfl, Nat.le_refl _, fun _ _ _ => rfl⟩, hb, fun j hj => ⟨_, hcell j hj, fun h => by omega⟩, hfr⟩
    clear hcell hfr hown
    go_enter Try.func37, Try.ntmps37
    go_wp2
    go_loopw [1, 5] (fun x i wr => ∃ m : Nat, m ≤ n ∧ i = .int .i64 m ∧ x = .int .i64 (k + (m : Int)) ∧ Marking w b off n k m wr) (fun _ i _ => n - (intOf i).toNat)
    case atStart => exact ⟨0, Nat.zero_le _, rfl, by simp, hS⟩
    case round =>
      rename_i wr
      obtain ⟨m, hm, rfl, rfl, hM⟩ := hrel
      clear hS
      by_cases hlt : m < n
      · obtain ⟨v, hv, _⟩ := hM.cells m hlt
        have hf := hM.fr m hlt
        have HM : Hid _ := hM.step
        clear hM
        go_wp2
        go_roundw
        case rel => exact ⟨m + 1, by omega, by go_num, by go_num, HM.out⟩
        case measure => simp [intOf]; omega
      · obtain rfl : m = n := by omega
        go_wp2
        go_ret
        refine ⟨rfl, ⟨⟨marks_len _ _, .inr ⟨b, off, rfl, hM.lt, fun i hi => ?_⟩⟩, ?_⟩, .inr ⟨hpos, b, off, rfl, hM.ex⟩⟩
        · obtain ⟨v, hv, hk⟩ := hM.cells i hi
          rw [hv, hk hi, marks_get hi]
        · rcases hB with h0 | hB
          · exact .inl h0
          · exact .inr ⟨b, off, rfl, hB, hM.fr⟩

theorem heldIntS_marks (a : Option Addr) (n cap : Nat) (k : Int) (w : World) (hI : IntsAt w a n (marks k n)) (hn : n ≤ 2097152) (k0 : 0 ≤ k) (k1 : k ≤ 1000000000) :
    Calls Try.prog 38 #[.slice a n cap, .int .i64 k] w fun e w' => e = .returned (.int .i64 (k + (n : Int))) ∧ w' = w := by
  obtain ⟨hlen, rfl | ⟨b, off, rfl, hb, hcell⟩⟩ := hI
  · go_enter Try.func38, Try.ntmps38
    go_wp2
    go_loop [1, 5] (fun x i => x = .int .i64 k ∧ i = .int .i64 0) (fun _ _ => 0)
    case atStart => exact ⟨rfl, rfl⟩
    case round =>
      obtain ⟨rfl, rfl⟩ := hrel
      go_wp2
      go_ret
      exact ⟨rint (by simp), rfl⟩
  · go_enter Try.func38, Try.ntmps38
    go_wp2
    go_loop [1, 5] (fun x i => ∃ m : Nat, m ≤ n ∧ i = .int .i64 m ∧ x = .int .i64 (k + (m : Int))) (fun _ i => n - (intOf i).toNat)
    case atStart => exact ⟨0, Nat.zero_le _, rfl, by simp⟩
    case round =>
      obtain ⟨m, hm, rfl, rfl⟩ := hrel
      by_cases hlt : m < n
      · have hc := hcell m hlt
        rw [marks_get hlt] at hc
        clear hcell
        go_wp2
        go_round
        case rel => exact ⟨m + 1, by omega, by go_num, by go_num⟩
        case measure => simp [intOf]; omega
      · obtain rfl : m = n := by omega
        clear hcell
        go_wp2
        go_ret
        exact ⟨rfl, rfl⟩
end Go.Proofs.Ytfgknbflgmblmaa
