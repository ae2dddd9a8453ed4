/-
  Walks of the laws' own helpers on clocks: made anew, compared, weighed.
-/
import Derived.Test.YtfahfbeemgigcaaCT
import Derived.Deep.RegionHeld3
namespace Go.Proofs.Ytfahfbeemgigcaa
open Go.RowKit Pl Il

def tV (p : Int × Int) : Value := .agg #[.int .i64 p.1, .int .i64 p.2]
theorem toTimer_any (p : Int × Int) (w : World) :
    Calls Try.prog 61 #[tV p] w fun e w' => e = .returned (tV p) ∧ Below w.heap.size w w' := by
  obtain ⟨x, y⟩ := p
  unfold tV
  have hB := hidOf (bl_alloc (bl_alloc (bl_alloc (Below.refl w.heap.size w) (.cells #[.int .i64 x, .int .i64 y] 90)) (.cells #[.int .i64 x, .int .i64 y] 36)) (.cells #[.int .i64 x, .int .i64 y] 36))
  go_enter Try.func61, Try.ntmps61
  go_wp2
  refine bodyPost_ret (v := .agg #[.int .i64 x, .int .i64 y]) (by simp [results, Try.results61, go_sem]) rfl ⟨rfl, hB.out⟩

/-- A new row in block g: its first k places hold ts's. -/
structure FillT (w : World) (g n : Nat) (ts : List (Int × Int)) (k : Nat) (wr : World) : Prop where
  below : Below w.heap.size w wr
  ge : w.heap.size ≤ g
  lt : g < wr.heap.size
  cells : ∀ j, j < n → ∃ v0 v1, wr.cell? ⟨g, j * 2, none⟩ = some v0 ∧ wr.cell? ⟨g, j * 2 + 1, none⟩ = some v1 ∧ (j < k → v0 = .int .i64 (tg ts j).1 ∧ v1 = .int .i64 (tg ts j).2)
  fr : ∀ j, wr.frozen? ⟨g, j, none⟩ = false
theorem FillT.keep {w : World} {g n : Nat} {ts : List (Int × Int)} {k : Nat} {wr u : World} (h : FillT w g n ts k wr) (hb : Below wr.heap.size wr u) : FillT w g n ts k u where
  below := bl_trans h.below hb
  ge := h.ge
  lt := Nat.lt_of_lt_of_le h.lt hb.size
  cells := fun j hj => by
    obtain ⟨v0, v1, h0, h1, hk⟩ := h.cells j hj
    exact ⟨v0, v1, by rw [hb.cell (p := ⟨g, j * 2, none⟩) h.lt]; exact h0, by rw [hb.cell (p := ⟨g, j * 2 + 1, none⟩) h.lt]; exact h1, hk⟩
  fr := fun j => by rw [hb.frozen (p := ⟨g, j, none⟩) h.lt]; exact h.fr j
theorem FillT.step {w : World} {g n : Nat} {ts : List (Int × Int)} {k : Nat} {wr : World} (h : FillT w g n ts k wr) (p : Int × Int) (hp : tg ts k = p) : FillT w g n ts (k + 1) ((wr.setCell ⟨g, k * 2, none⟩ (.int .i64 p.1)).setCell ⟨g, k * 2 + 1, none⟩ (.int .i64 p.2)) where
  below := (h.below.setCell (p := ⟨g, k * 2, none⟩) h.ge _).setCell (p := ⟨g, k * 2 + 1, none⟩) h.ge _
  ge := h.ge
  lt := by simpa using h.lt
  cells := fun j hj => by
    obtain ⟨v0, v1, h0, h1, hk⟩ := h.cells j hj
    by_cases e : j = k
    · subst e
      have h1' : (wr.setCell ⟨g, j * 2, none⟩ (.int .i64 p.1)).cell? ⟨g, j * 2 + 1, none⟩ = some v1 := by
        rw [World.cell?_setCell_other _ _ _ _ (by intro e'; injection e' with _ e2; omega)]; exact h1
      refine ⟨_, _, ?_, World.cell?_setCell_same _ _ _ h1', fun _ => by rw [hp]; exact ⟨rfl, rfl⟩⟩
      rw [World.cell?_setCell_other _ _ _ _ (by intro e'; injection e' with _ e2; omega)]
      exact World.cell?_setCell_same _ _ _ h0
    · refine ⟨v0, v1, ?_, ?_, fun hlt => hk (by omega)⟩
      · rw [World.cell?_setCell_other _ _ _ _ (by intro e'; injection e' with _ e2; omega), World.cell?_setCell_other _ _ _ _ (by intro e'; injection e' with _ e2; omega)]; exact h0
      · rw [World.cell?_setCell_other _ _ _ _ (by intro e'; injection e' with _ e2; omega), World.cell?_setCell_other _ _ _ _ (by intro e'; injection e' with _ e2; omega)]; exact h1
  fr := fun j => by simpa using h.fr j
theorem FillT.own {w : World} {g n : Nat} {ts : List (Int × Int)} {wr : World} (h : FillT w g n ts n wr) (hl : ts.length = n) : OwnT w.heap.size wr (some ⟨g, 0, none⟩) n ts :=
  ⟨⟨hl, .inr ⟨g, 0, rfl, h.lt, fun i hi => by obtain ⟨v0, v1, h0, h1, hk⟩ := h.cells i hi; rw [Nat.zero_add, h0, h1, (hk hi).1, (hk hi).2]; exact ⟨rfl, rfl⟩⟩⟩, .inr ⟨g, 0, rfl, h.ge, h.fr⟩⟩
theorem FillT.start (w : World) (n : Nat) (ts : List (Int × Int)) (t : TypeId) (z : Array Value) : FillT w w.heap.size n ts 0 (w.alloc (.cells (madeCells z (n * 2)) t)) where
  below := bl_alloc (Below.refl _ _) _
  ge := Nat.le_refl _
  lt := by simp
  cells := fun j hj => by
    rw [World.cell?_alloc_new, World.cell?_alloc_new]
    exact ⟨(madeCells z (n * 2))[j * 2]'(by rw [size_madeCells]; omega), (madeCells z (n * 2))[j * 2 + 1]'(by rw [size_madeCells]; omega), by rw [Array.getElem?_eq_getElem], by rw [Array.getElem?_eq_getElem], fun h => by omega⟩
  fr := fun j => by simp [go_sem]
theorem infoT : (Try.prog.info? 36).map (fun i => (i.zero, i.size, i.bytes)) = some (some (.agg #[.int .i64 0, .int .i64 0]), 2, 16) := by kernel_rfl
theorem make_tims (n : Nat) (hn : n ≤ 2097152) (w : World) : (Instr.makeSlice 24 (.int .i64 (n : Int)) (.int .i64 (n : Int))).run Try.prog w = .ok (.slice (some ⟨w.heap.size, 0, none⟩) n n) (w.alloc (.cells (madeCells (Value.agg #[.int .i64 0, .int .i64 0]).cells (n * 2)) 36)) := by
  obtain ⟨i, hi, hz0, hz1, hz2⟩ := info_parts infoT
  have := run_make (P := Try.prog) w 24 36 i (.agg #[.int .i64 0, .int .i64 0]) Try.underlying24 hi hz0 .i64 .i64 (n : Int) (n : Int) (by omega) (by omega) (by rw [hz2]; omega) (by omega)
  rw [hz1] at this
  simpa using this

theorem toTimerS_any (a : Option Addr) (n cap : Nat) (ts : List (Int × Int)) (w : World) (hI : TimAt w a n ts) (hn : n ≤ 2097152) :
    Calls Try.prog 47 #[.slice a n cap] w fun e w' => e = .returned (.slice (some ⟨w.heap.size, 0, none⟩) n n) ∧ OwnT w.heap.size w' (some ⟨w.heap.size, 0, none⟩) n ts ∧ Below w.heap.size w w' := by
  have hmk := make_tims n hn
  have hS := hidOf (FillT.start w n ts 36 (Value.agg #[.int .i64 0, .int .i64 0]).cells)
  obtain ⟨hlen, rfl | ⟨b, off, rfl, hb, hcell⟩⟩ := hI
  · have hx : ts = [] := List.length_eq_zero_iff.1 hlen
    subst hx
    have hmk0 : ∀ w : World, (Instr.makeSlice 24 (.int .i64 0) (.int .i64 0)).run Try.prog w = .ok (.slice (some ⟨w.heap.size, 0, none⟩) 0 0) (w.alloc (.cells (madeCells (Value.agg #[.int .i64 0, .int .i64 0]).cells (0 * 2)) 36)) := fun w => make_tims 0 (by omega) w
    clear hmk
    have hmk := hmk0
    clear hmk0
    go_enter Try.func47, Try.ntmps47
    go_wp2
    go_loopw [4] (fun i wr => i = .int .i64 0 ∧ FillT w w.heap.size 0 [] 0 wr) (fun _ _ => 0)
    case atStart => exact ⟨rfl, hS.out⟩
    case round =>
      obtain ⟨rfl, hF⟩ := hrel
      clear hS hmk
      go_wp2
      go_ret
      exact ⟨rfl, hF.own rfl, hF.below⟩
  · go_enter Try.func47, Try.ntmps47
    go_wp2_with fail
    go_loopw [4] (fun i wr => ∃ k : Nat, k ≤ n ∧ i = .int .i64 k ∧ FillT w w.heap.size n ts k wr) (fun i _ => n - (intOf i).toNat)
    case atStart => exact ⟨0, Nat.zero_le _, rfl, hS.out⟩
    case round =>
      rename_i wr
      obtain ⟨k, hk, rfl, hF⟩ := hrel
      have HL := hidOf hlen
      clear hS hmk hlen
      by_cases hlt : k < n
      · have hc : wr.cell? ⟨b, off + k * 2, none⟩ = some (.int .i64 (tg ts k).1) := by rw [hF.below.cell (p := ⟨b, off + k * 2, none⟩) hb]; exact (hcell k hlt).1
        have hc2 : wr.cell? ⟨b, off + k * 2 + 1, none⟩ = some (.int .i64 (tg ts k).2) := by rw [hF.below.cell (p := ⟨b, off + k * 2 + 1, none⟩) hb]; exact (hcell k hlt).2
        have HC := fun u => hidOf (toTimer_any (tg ts k) u)
        unfold tV at HC
        obtain ⟨y, hy⟩ : ∃ y, tg ts k = y := ⟨_, rfl⟩
        rw [hy] at hc hc2 HC
        have HY := hidOf hy
        have HF := hidOf hF
        clear hy hcell hF
        go_wp2_with fail
        refine ((HC _).out).mono ?_
        rintro e w1 ⟨rfl, hb1⟩
        have hF1 := HF.out.keep hb1
        obtain ⟨v0, v1, hv0, hv1, _⟩ := hF1.cells k hlt
        have hfr := hF1.fr
        have HF1 := hidOf (hF1.step y HY.out)
        clear hF1 HF HC hc hc2 hb1
        go_wp2
        go_roundw
        case rel => exact ⟨k + 1, by omega, by go_num, HF1.out⟩
        case measure => simp [intOf]; omega
      · obtain rfl : k = n := by omega
        clear hcell
        go_wp2
        go_ret
        exact ⟨rfl, hF.own HL.out, hF.below⟩

theorem eqTimer_any (p q : Int × Int) (w : World) :
    Calls Try.prog 62 #[tV p, tV q] w fun e w' => e = .returned (.bool (decide (p = q))) ∧ Below w.heap.size w w' := by
  obtain ⟨x, y⟩ := p
  obtain ⟨x', y'⟩ := q
  unfold tV
  have hB : Below w.heap.size w ((w.alloc (.cells #[.int .i64 x, .int .i64 y] 36)).alloc (.cells #[.int .i64 x', .int .i64 y'] 36)) := bl_alloc (bl_alloc (Below.refl _ _) _) _
  go_enter Try.func62, Try.ntmps62
  go_wp2
  all_goals go_ret
  all_goals refine ⟨rbool ?_, hB⟩
  all_goals simp_all

/-- Are the two lists the same? -/
def eqTL (xs ys : List (Int × Int)) : Bool := decide (xs = ys)
theorem eqT_step {xs ys : List (Int × Int)} {k : Nat} (hk : k < xs.length) (hk' : k < ys.length) (h : xs.take k = ys.take k) (he : tg xs k = tg ys k) : xs.take (k + 1) = ys.take (k + 1) := by
  rw [take_tg hk, take_tg hk', h, he]
theorem eqT_no {xs ys : List (Int × Int)} {k : Nat} (he : ¬ tg xs k = tg ys k) : eqTL xs ys = false := by
  unfold eqTL
  rw [decide_eq_false_iff_not]
  rintro rfl
  exact he rfl
theorem eqT_len {xs ys : List (Int × Int)} (hl : ¬ xs.length = ys.length) : eqTL xs ys = false := by
  unfold eqTL
  rw [decide_eq_false_iff_not]
  rintro rfl
  exact hl rfl
theorem eqT_end {xs ys : List (Int × Int)} {k : Nat} (hl : xs.length = ys.length) (hk : xs.length ≤ k) (h : xs.take k = ys.take k) : eqTL xs ys = true := by
  rw [List.take_of_length_le hk, List.take_of_length_le (by omega)] at h
  simp [eqTL, h]

abbrev EqS (b o b' o' : Nat) (x y : Int × Int) (w0 w : World) : Prop :=
  w.cell? ⟨b, o, none⟩ = some (.int .i64 x.1) ∧ w.cell? ⟨b, o + 1, none⟩ = some (.int .i64 x.2) ∧ w.cell? ⟨b', o', none⟩ = some (.int .i64 y.1) ∧ w.cell? ⟨b', o' + 1, none⟩ = some (.int .i64 y.2) ∧ Below w0.heap.size w0 w
theorem cellK {w w' : World} {a : Addr} {v : Value} (h : w.cell? a = some v) (hb : Below w.heap.size w w') : w'.cell? a = some v := by
  rw [hb.cell (p := a) (World.block_lt_of_cell? w a h)]; exact h
theorem EqS.keep {b o b' o' : Nat} {x y : Int × Int} {w0 w w' : World} (h : EqS b o b' o' x y w0 w) (q : Below w.heap.size w w') : EqS b o b' o' x y w0 w' :=
  ⟨cellK h.1 q, cellK h.2.1 q, cellK h.2.2.1 q, cellK h.2.2.2.1 q, bl_trans h.2.2.2.2 q⟩
theorem EqS.drew {b o b' o' : Nat} {x y : Int × Int} {w0 w : World} (h : EqS b o b' o' x y w0 w) : EqS b o b' o' x y w0 w.drew := h.keep (Below.refl _ _).drew

theorem eqTimerS_any (a a' : Option Addr) (n n' cap cap' : Nat) (xs ys : List (Int × Int)) (w : World) (hI : TimAt w a n xs) (hJ : TimAt w a' n' ys) (hn : n ≤ 2097152) (hn' : n' ≤ 2097152) :
    Calls Try.prog 48 #[.slice a n cap, .slice a' n' cap'] w fun e w' => e = .returned (.bool (eqTL xs ys)) ∧ Below w.heap.size w w' := by
  by_cases hl : n = n'
  · subst hl
    by_cases h0 : n = 0
    · subst h0
      have e1 : xs = [] := List.length_eq_zero_iff.1 hI.len
      have e2 : ys = [] := List.length_eq_zero_iff.1 hJ.len
      subst e1 e2
      clear hI hJ
      go_enter Try.func48, Try.ntmps48
      go_wp2
      go_loop [5] (fun i => i = .int .i64 0) (fun _ => 0)
      case atStart => rfl
      case round =>
        subst hrel
        go_wp2
        go_ret
        exact ⟨rfl, Below.refl _ _⟩
    · obtain ⟨hlen, hr | ⟨b, off, rfl, hb, hcell⟩⟩ := hI
      · omega
      obtain ⟨hlen', hr | ⟨b', off', rfl, hb', hcell'⟩⟩ := hJ
      · omega
      have HL := hidOf hlen
      have HL' := hidOf hlen'
      clear hlen hlen'
      go_enter Try.func48, Try.ntmps48
      go_wp2
      go_loopw [5] (fun i wr => ∃ k : Nat, k ≤ n ∧ i = .int .i64 k ∧ xs.take k = ys.take k ∧ Below w.heap.size w wr) (fun i _ => n - (intOf i).toNat)
      case atStart => exact ⟨0, Nat.zero_le _, rfl, rfl, Below.refl _ _⟩
      case round =>
        rename_i wr
        obtain ⟨k, hk, rfl, hno, hB⟩ := hrel
        have Hno := hidOf hno
        clear hno
        by_cases hlt : k < n
        · have hS : EqS b (off + k * 2) b' (off' + k * 2) (tg xs k) (tg ys k) w wr := ⟨by rw [hB.cell (p := ⟨b, off + k * 2, none⟩) hb]; exact (hcell k hlt).1, by rw [hB.cell (p := ⟨b, off + k * 2 + 1, none⟩) hb]; exact (hcell k hlt).2, by rw [hB.cell (p := ⟨b', off' + k * 2, none⟩) hb']; exact (hcell' k hlt).1, by rw [hB.cell (p := ⟨b', off' + k * 2 + 1, none⟩) hb']; exact (hcell' k hlt).2, hB⟩
          have HC := fun u => hidOf (eqTimer_any (tg xs k) (tg ys k) u)
          unfold tV at HC
          have hki : (0 : Int) ≤ (k : Int) ∧ (k : Int) < (n : Int) := by omega
          obtain ⟨x, hx⟩ : ∃ x, tg xs k = x := ⟨_, rfl⟩
          obtain ⟨y, hy⟩ : ∃ y, tg ys k = y := ⟨_, rfl⟩
          rw [hx, hy] at hS HC
          have HX := hidOf hx
          have HY := hidOf hy
          clear hcell hcell' hx hy hB
          go_wp2_with fail
          go_region_held3 (fun w' => EqS b (off + k * 2) b' (off' + k * 2) x y w w') (first | (exact hS.drew) | (exact EqS.keep (by assumption) (by assumption))) (first | (go_at_call 62; refine ((HC _).out).mono ?_; rintro e w1 ⟨rfl, hb1⟩))
          rename_i hT
          by_cases hxy : x = y
          · have hd : decide (x = y) = true := by simp [hxy]
            have hB2 := hT.2.2.2.2
            have Hxy := hidOf hxy
            rw [hd]
            clear hd hxy hS hT
            go_wp2
            go_roundw
            case rel => exact ⟨k + 1, by omega, by go_num, eqT_step (by have := HL.out; omega) (by have := HL'.out; omega) Hno.out (by rw [HX.out, HY.out]; exact Hxy.out), hB2⟩
            case measure => simp [intOf]; omega
          · have hd : decide (x = y) = false := by simp [hxy]
            have hB2 := hT.2.2.2.2
            have Hxy := hidOf hxy
            rw [hd]
            clear hd hxy hS hT
            go_wp2
            go_ret
            exact ⟨rbool (eqT_no (k := k) (by rw [HX.out, HY.out]; exact Hxy.out)).symm, hB2⟩
        · clear hcell hcell'
          go_wp2
          go_ret
          exact ⟨rbool (eqT_end (by have := HL.out; have := HL'.out; omega) (by have := HL.out; omega) Hno.out).symm, hB⟩
  · have hne : ((n : Int) != (n' : Int)) = true := by simp; omega
    have hq := eqT_len (xs := xs) (ys := ys) (by rw [hI.len, hJ.len]; exact hl)
    clear hI hJ
    go_enter Try.func48, Try.ntmps48
    go_wp2
    go_ret
    exact ⟨rbool hq.symm, Below.refl _ _⟩
end Go.Proofs.Ytfahfbeemgigcaa
