/-
  Walks of functions that read, make or write a list of truth values.
-/
import Derived.Test.YtgklnpkeffobnaaH2
import Derived.Test.YtgklnpkeffobnaaBools
namespace Go.Proofs.Ytgklnpkeffobnaa
open Go.RowKit Pl Il

theorem info4 : (Try.prog.info? 4).map (fun i => (i.zero, i.size, i.bytes)) = some (some (.bool false), 1, 1) := by kernel_rfl
def eqBL (xs ys : List Bool) : Bool := decide (xs = ys)
theorem eqb_step {xs ys : List Bool} {k : Nat} (hk : k < xs.length) (hk' : k < ys.length) (h : xs.take k = ys.take k) (he : (xs.getD k false != ys.getD k false) = false) : xs.take (k + 1) = ys.take (k + 1) := by
  rw [List.take_succ_eq_append_getElem hk, List.take_succ_eq_append_getElem hk', h]
  have e : xs.getD k false = xs[k] := by simp [List.getD, List.getElem?_eq_getElem hk]
  have e' : ys.getD k false = ys[k] := by simp [List.getD, List.getElem?_eq_getElem hk']
  rw [e, e'] at he
  have : xs[k] = ys[k] := by simpa using he
  rw [this]
theorem eqb_no {xs ys : List Bool} {k : Nat} (he : (xs.getD k false != ys.getD k false) = true) : eqBL xs ys = false := by
  unfold eqBL
  rw [decide_eq_false_iff_not]
  rintro rfl
  simp at he
theorem eqb_len {xs ys : List Bool} (hl : ¬ xs.length = ys.length) : eqBL xs ys = false := by
  unfold eqBL
  rw [decide_eq_false_iff_not]
  rintro rfl
  exact hl rfl
theorem eqb_end {xs ys : List Bool} {k : Nat} (hl : xs.length = ys.length) (hk : xs.length ≤ k) (h : xs.take k = ys.take k) : eqBL xs ys = true := by
  rw [List.take_of_length_le hk, List.take_of_length_le (by omega)] at h
  simp [eqBL, h]

theorem eqBoolS_any (a a' : Option Addr) (n n' cap cap' : Nat) (xs ys : List Bool) (w : World) (hI : BoolsAt w a n xs) (hJ : BoolsAt w a' n' ys) (hn : n ≤ 2097152) (hn' : n' ≤ 2097152) :
    Calls Try.prog 51 #[.slice a n cap, .slice a' n' cap'] w fun e w' => e = .returned (.bool (eqBL xs ys)) ∧ Below w.heap.size w w' := by
  by_cases hl : n = n'
  · subst hl
    obtain ⟨hlen, rfl | ⟨b, off, rfl, hb, hcell⟩⟩ := hI
    · have : xs = [] := List.length_eq_zero_iff.1 hlen
      have e2 : ys = [] := List.length_eq_zero_iff.1 hJ.len
      subst this e2
      go_enter Try.func51, Try.ntmps51
      go_wp2
      go_loop [5] (fun i => i = .int .i64 0) (fun _ => 0)
      case atStart => rfl
      case round =>
        subst hrel
        go_wp2
        go_ret
        exact ⟨rfl, Below.refl _ _⟩
    · obtain ⟨hlen', rfl | ⟨b', off', rfl, hb', hcell'⟩⟩ := hJ
      · have : xs = [] := List.length_eq_zero_iff.1 hlen
        have e2 : ys = [] := List.length_eq_zero_iff.1 hlen'
        subst this e2
        go_enter Try.func51, Try.ntmps51
        go_wp2
        go_loop [5] (fun i => i = .int .i64 0) (fun _ => 0)
        case atStart => rfl
        case round =>
          subst hrel
          go_wp2
          go_ret
          exact ⟨rfl, Below.refl _ _⟩
      · go_enter Try.func51, Try.ntmps51
        go_wp2
        go_loopw [5] (fun i wr => ∃ k : Nat, k ≤ n ∧ i = .int .i64 k ∧ xs.take k = ys.take k ∧ ∃ q, wr = w.drewN q) (fun i _ => n - (intOf i).toNat)
        case atStart => exact ⟨0, Nat.zero_le _, rfl, rfl, 0, rfl⟩
        case round =>
          obtain ⟨k, hk, rfl, hno, q, rfl⟩ := hrel
          have Hno : Hid _ := hno
          clear hno
          by_cases hlt : k < n
          · have hc := hcell k hlt
            have hc' := hcell' k hlt
            generalize hy : xs.getD k false = y at hc
            generalize hz : ys.getD k false = z at hc'
            have HY : Hid _ := hy
            have HZ : Hid _ := hz
            clear hy hz hcell hcell'
            have hki : (k : Int) < (n : Int) := by omega
            cases y <;> cases z
            · go_wp2
              go_quiet (fail)
              go_wp2
              go_roundw
              case rel => exact ⟨k + 1, by omega, by go_num, eqb_step (by omega) (by omega) Hno.out (by rw [HY.out, HZ.out]; rfl), _, rfl⟩
              case measure => simp [intOf]; omega
            · go_wp2
              go_quiet (fail)
              go_wp2
              go_ret
              exact ⟨rbool (eqb_no (k := k) (by rw [HY.out, HZ.out]; rfl)).symm, bl_drewN (bl_drewN (Below.refl _ _) _) _⟩
            · go_wp2
              go_quiet (fail)
              go_wp2
              go_ret
              exact ⟨rbool (eqb_no (k := k) (by rw [HY.out, HZ.out]; rfl)).symm, bl_drewN (bl_drewN (Below.refl _ _) _) _⟩
            · go_wp2
              go_quiet (fail)
              go_wp2
              go_roundw
              case rel => exact ⟨k + 1, by omega, by go_num, eqb_step (by omega) (by omega) Hno.out (by rw [HY.out, HZ.out]; rfl), _, rfl⟩
              case measure => simp [intOf]; omega
          · clear hcell hcell'
            go_wp2
            go_ret
            exact ⟨rbool (eqb_end (by omega) (by omega) Hno.out).symm, bl_drewN (Below.refl _ _) _⟩
  · have hne : ((n : Int) != (n' : Int)) = true := by simp; omega
    have hq := eqb_len (xs := xs) (ys := ys) (by rw [hI.len, hJ.len]; exact hl)
    clear hI hJ
    go_enter Try.func51, Try.ntmps51
    go_wp2
    go_ret
    exact ⟨rbool hq.symm, Below.refl _ _⟩

/-- A new row in block g: its first k places hold xs's. -/
structure FillB (w : World) (g n : Nat) (xs : List Bool) (k : Nat) (wr : World) : Prop where
  below : Below w.heap.size w wr
  ge : w.heap.size ≤ g
  lt : g < wr.heap.size
  cells : ∀ j, j < n → ∃ v, wr.cell? ⟨g, j, none⟩ = some v ∧ (j < k → v = .bool (xs.getD j false))
  fr : ∀ j, wr.frozen? ⟨g, j, none⟩ = false
theorem FillB.step {w : World} {g n : Nat} {xs : List Bool} {k : Nat} {wr : World} (h : FillB w g n xs k wr) (x : Bool) (hx : xs.getD k false = x) : FillB w g n xs (k + 1) (wr.setCell ⟨g, k, none⟩ (.bool x)) where
  below := h.below.setCell (p := ⟨g, k, none⟩) h.ge _
  ge := h.ge
  lt := by simpa using h.lt
  cells := fun j hj => by
    obtain ⟨v, hv, hk⟩ := h.cells j hj
    by_cases e : j = k
    · subst e
      exact ⟨_, World.cell?_setCell_same _ _ _ hv, fun _ => by rw [hx]⟩
    · refine ⟨v, ?_, fun hlt => hk (by omega)⟩
      rw [World.cell?_setCell_other _ _ _ _ (by intro e'; cases e'; exact e rfl)]; exact hv
  fr := fun j => by simpa using h.fr j
theorem FillB.own {w : World} {g n : Nat} {xs : List Bool} {wr : World} (h : FillB w g n xs n wr) (hl : xs.length = n) : OwnB w.heap.size wr (some ⟨g, 0, none⟩) n xs :=
  ⟨⟨hl, .inr ⟨g, 0, rfl, h.lt, fun i hi => by obtain ⟨v, hv, hk⟩ := h.cells i hi; rw [Nat.zero_add, hv, hk hi]⟩⟩, .inr ⟨g, 0, rfl, h.ge, fun i _ => by rw [Nat.zero_add]; exact h.fr i⟩⟩
theorem FillB.start (w : World) (n : Nat) (xs : List Bool) (t : TypeId) : FillB w w.heap.size n xs 0 (w.alloc (.cells (madeCells (Value.bool false).cells n) t)) where
  below := bl_alloc (Below.refl _ _) _
  ge := Nat.le_refl _
  lt := by simp
  cells := fun j hj => by
    rw [World.cell?_alloc_new]
    exact ⟨(madeCells (Value.bool false).cells n)[j]'(by rw [size_madeCells]; exact hj), by rw [Array.getElem?_eq_getElem], fun h => by omega⟩
  fr := fun j => by simp [go_sem]

theorem make_bools (n : Nat) (hn : n ≤ 2097152) (w : World) : (Instr.makeSlice 25 (.int .i64 (n : Int)) (.int .i64 (n : Int))).run Try.prog w = .ok (.slice (some ⟨w.heap.size, 0, none⟩) n n) (w.alloc (.cells (madeCells (Value.bool false).cells n) 4)) := by
  obtain ⟨i, hi, hz0, hz1, hz2⟩ := info_parts info4
  have := run_make (P := Try.prog) w 25 4 i (.bool false) Try.underlying25 hi hz0 .i64 .i64 (n : Int) (n : Int) (by omega) (by omega) (by rw [hz2]; omega) (by omega)
  rw [hz1] at this
  simpa using this

theorem toBoolS_any (a : Option Addr) (n cap : Nat) (xs : List Bool) (w : World) (hI : BoolsAt w a n xs) (hn : n ≤ 2097152) :
    Calls Try.prog 50 #[.slice a n cap] w fun e w' => e = .returned (.slice (some ⟨w.heap.size, 0, none⟩) n n) ∧ OwnB w.heap.size w' (some ⟨w.heap.size, 0, none⟩) n xs ∧ Below w.heap.size w w' := by
  have hmk := make_bools n hn
  have hS := FillB.start w n xs 4
  obtain ⟨hlen, rfl | ⟨b, off, rfl, hb, hcell⟩⟩ := hI
  · have hx : xs = [] := List.length_eq_zero_iff.1 hlen
    subst hx
    have hmk0 : ∀ w : World, (Instr.makeSlice 25 (.int .i64 0) (.int .i64 0)).run Try.prog w = .ok (.slice (some ⟨w.heap.size, 0, none⟩) 0 0) (w.alloc (.cells (madeCells (Value.bool false).cells 0) 4)) := fun w => make_bools 0 (by omega) w
    clear hmk
    have hmk := hmk0
    clear hmk0
    go_enter Try.func50, Try.ntmps50
    go_wp2
    go_loopw [4] (fun i wr => i = .int .i64 0 ∧ FillB w w.heap.size 0 [] 0 wr) (fun _ _ => 0)
    case atStart => exact ⟨rfl, hS⟩
    case round =>
      obtain ⟨rfl, hF⟩ := hrel
      clear hS hmk
      go_wp2
      go_ret
      exact ⟨rfl, hF.own rfl, hF.below⟩
  · go_enter Try.func50, Try.ntmps50
    go_wp2
    go_loopw [4] (fun i wr => ∃ k : Nat, k ≤ n ∧ i = .int .i64 k ∧ FillB w w.heap.size n xs k wr) (fun i _ => n - (intOf i).toNat)
    case atStart => exact ⟨0, Nat.zero_le _, rfl, hS⟩
    case round =>
      rename_i wr
      obtain ⟨k, hk, rfl, hF⟩ := hrel
      clear hS hmk
      by_cases hlt : k < n
      · have hc : wr.cell? ⟨b, off + k, none⟩ = some (.bool (xs.getD k false)) := by rw [hF.below.cell (p := ⟨b, off + k, none⟩) hb]; exact hcell k hlt
        generalize hy : xs.getD k false = y at hc
        obtain ⟨v, hv, _⟩ := hF.cells k hlt
        have hfr := hF.fr k
        have hN := hF.step y hy
        have HF : Hid _ := hN
        clear hy hcell hF hN
        go_wp2
        go_roundw
        case rel => exact ⟨k + 1, by omega, by go_num, HF.out⟩
        case measure => simp [intOf]; omega
      · obtain rfl : k = n := by omega
        clear hcell
        go_wp2
        go_ret
        exact ⟨rfl, hF.own hlen, hF.below⟩

/-- Which of k, k + 1 and so on three divides. -/
def marksB (k : Int) (n : Nat) : List Bool := (List.range n).map fun (i : Nat) => (k + (i : Int)) % 3 == 0
theorem marksB_get {k : Int} {n j : Nat} (h : j < n) : (marksB k n).getD j false = ((k + (j : Int)) % 3 == 0) := by
  simp [marksB, List.getD, List.getElem?_map, List.getElem?_range h]
theorem marksB_len (k : Int) (n : Nat) : (marksB k n).length = n := by simp [marksB]

/-- Marks are written into a row, place by place. -/
structure MarkB (w : World) (b off n : Nat) (k : Int) (m : Nat) (wr : World) : Prop where
  ex : w.grownBy wr (some b)
  lt : b < wr.heap.size
  cells : ∀ j, j < n → ∃ v, wr.cell? ⟨b, off + j, none⟩ = some v ∧ (j < m → v = .bool ((k + (j : Int)) % 3 == 0))
  fr : ∀ j, j < n → wr.frozen? ⟨b, off + j, none⟩ = false
theorem MarkB.step {w : World} {b off n : Nat} {k : Int} {m : Nat} {wr : World} (h : MarkB w b off n k m wr) : MarkB w b off n k (m + 1) (wr.setCell ⟨b, off + m, none⟩ (.bool ((k + (m : Int)) % 3 == 0))) where
  ex := by
    refine ⟨h.ex.os, h.ex.tape, h.ex.output, by simpa using h.ex.size, fun i hi hn => ?_⟩
    rw [Below.heap_setCell wr ⟨b, off + m, none⟩ _ i (by rintro rfl; exact hn rfl)]
    exact h.ex.block i hi hn
  lt := by simpa using h.lt
  cells := fun j hj => by
    obtain ⟨v, hv, hk⟩ := h.cells j hj
    by_cases e : j = m
    · subst e
      exact ⟨_, World.cell?_setCell_same _ _ _ hv, fun _ => rfl⟩
    · refine ⟨v, ?_, fun hlt => hk (by omega)⟩
      rw [World.cell?_setCell_other _ _ _ _ (by intro e'; injection e' with _ e2; omega)]; exact hv
  fr := fun j hj => by simpa using h.fr j hj

/-- The list is written over with marks; nothing but its own block turns. -/
theorem markBoolS_any (B : Nat) (a : Option Addr) (n cap : Nat) (xs : List Bool) (k : Int) (w : World) (hO : OwnB B w a n xs) (hn : n ≤ 2097152) (k0 : 0 ≤ k) (k1 : k ≤ 1000000000) :
    Calls Try.prog 52 #[.slice a n cap, .int .i64 k] w fun e w' => e = .returned (.int .i64 (k + (n : Int))) ∧ OwnB B w' a n (marksB k n) ∧ (n = 0 ∧ w' = w ∨ 0 < n ∧ ∃ b off, a = some ⟨b, off, none⟩ ∧ w.grownBy w' (some b)) := by
  obtain ⟨⟨hlen, hrow⟩, hown⟩ := hO
  replace hrow : n = 0 ∨ 0 < n ∧ ∃ b off, a = some ⟨b, off, none⟩ ∧ b < w.heap.size ∧ ∀ i, i < n → w.cell? ⟨b, off + i, none⟩ = some (.bool (xs.getD i false)) := by
    rcases Nat.eq_zero_or_pos n with h0 | hpos
    · exact .inl h0
    · rcases hrow with h0 | h
      · exact .inl h0
      · exact .inr ⟨hpos, h⟩
  rcases hrow with rfl | ⟨hpos, b, off, rfl, hb, hcell⟩
  · go_enter Try.func52, Try.ntmps52
    go_wp2
    go_loop [1, 5] (fun x i => x = .int .i64 k ∧ i = .int .i64 0) (fun _ _ => 0)
    case atStart => exact ⟨rfl, rfl⟩
    case round =>
      obtain ⟨rfl, rfl⟩ := hrel
      go_wp2
      go_ret
      refine ⟨rint (by simp), ⟨⟨marksB_len _ _, .inl rfl⟩, .inl rfl⟩, ?_⟩
      first | exact rfl | exact .inl rfl | exact .inl ⟨rfl, rfl⟩
  · have hfr : ∀ j, j < n → w.frozen? ⟨b, off + j, none⟩ = false := by
      rcases hown with h0 | ⟨b', off', e, _, hf⟩
      · intro j hj; omega
      · cases e; exact hf
    have hB : n = 0 ∨ B ≤ b := by
      rcases hown with h0 | ⟨b', off', e, hB, _⟩
      · exact .inl h0
      · cases e; exact .inr hB
    have hS : MarkB w b off n k 0 w := ⟨⟨rfl, rfl, rfl, Nat.le_refl _, fun _ _ _ => rfl⟩, hb, fun j hj => ⟨_, hcell j hj, fun h => by omega⟩, hfr⟩
    clear hcell hfr hown
    go_enter Try.func52, Try.ntmps52
    go_wp2
    go_loopw [1, 5] (fun x i wr => ∃ m : Nat, m ≤ n ∧ i = .int .i64 m ∧ x = .int .i64 (k + (m : Int)) ∧ MarkB w b off n k m wr) (fun _ i _ => n - (intOf i).toNat)
    case atStart => exact ⟨0, Nat.zero_le _, rfl, by simp, hS⟩
    case round =>
      rename_i wr
      obtain ⟨m, hm, rfl, rfl, hM⟩ := hrel
      clear hS
      by_cases hlt : m < n
      · obtain ⟨v, hv, _⟩ := hM.cells m hlt
        have hf := hM.fr m hlt
        have HM : Hid _ := hM.step
        clear hM
        go_wp2
        go_roundw
        case rel => exact ⟨m + 1, by omega, by go_num, by go_num, HM.out⟩
        case measure => simp [intOf]; omega
      · obtain rfl : m = n := by omega
        go_wp2
        go_ret
        refine ⟨rfl, ⟨⟨marksB_len _ _, .inr ⟨b, off, rfl, hM.lt, fun i hi => ?_⟩⟩, ?_⟩, .inr ⟨hpos, b, off, rfl, hM.ex⟩⟩
        · obtain ⟨v, hv, hk⟩ := hM.cells i hi
          rw [hv, hk hi, marksB_get hi]
        · rcases hB with h0 | hB
          · exact .inl h0
          · exact .inr ⟨b, off, rfl, hB, hM.fr⟩

theorem heldBoolS_marks (a : Option Addr) (n cap : Nat) (k : Int) (w : World) (hI : BoolsAt w a n (marksB k n)) (hn : n ≤ 2097152) (k0 : 0 ≤ k) (k1 : k ≤ 1000000000) :
    Calls Try.prog 53 #[.slice a n cap, .int .i64 k] w fun e w' => e = .returned (.int .i64 (k + (n : Int))) ∧ w' = w := by
  obtain ⟨hlen, rfl | ⟨b, off, rfl, hb, hcell⟩⟩ := hI
  · go_enter Try.func53, Try.ntmps53
    go_wp2
    go_loop [1, 5] (fun x i => x = .int .i64 k ∧ i = .int .i64 0) (fun _ _ => 0)
    case atStart => exact ⟨rfl, rfl⟩
    case round =>
      obtain ⟨rfl, rfl⟩ := hrel
      go_wp2
      go_ret
      exact ⟨rint (by simp), rfl⟩
  · go_enter Try.func53, Try.ntmps53
    go_wp2
    go_loop [1, 5] (fun x i => ∃ m : Nat, m ≤ n ∧ i = .int .i64 m ∧ x = .int .i64 (k + (m : Int))) (fun _ i => n - (intOf i).toNat)
    case atStart => exact ⟨0, Nat.zero_le _, rfl, by simp⟩
    case round =>
      obtain ⟨m, hm, rfl, rfl⟩ := hrel
      by_cases hlt : m < n
      · have hc := hcell m hlt
        rw [marksB_get hlt] at hc
        clear hcell
        go_wp2
        go_round
        case rel => exact ⟨m + 1, by omega, by go_num, by go_num⟩
        case measure => simp [intOf]; omega
      · obtain rfl : m = n := by omega
        clear hcell
        go_wp2
        go_ret
        exact ⟨rfl, rfl⟩
end Go.Proofs.Ytgklnpkeffobnaa
