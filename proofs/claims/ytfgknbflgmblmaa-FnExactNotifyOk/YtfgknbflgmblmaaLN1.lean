/-
  Walks of the laws' own helpers on notifications: made anew, compared, weighed.
-/
import Derived.Test.YtfgknbflgmblmaaNX
import Derived.Deep.RegionHeld3
namespace Go.Proofs.Ytfgknbflgmblmaa
open Go.RowKit Pl Il

def gV (p : Int × Bool) : Value := .agg #[.int .i64 p.1, .bool p.2]
theorem toGrant_any (p : Int × Bool) (w : World) :
    Calls Try.prog 88 #[gV p] w fun e w' => e = .returned (gV p) ∧ Below w.heap.size w w' := by
  obtain ⟨x, y⟩ := p
  unfold gV
  have hB := hidOf (bl_alloc (bl_alloc (bl_alloc (Below.refl w.heap.size w) (.cells #[.int .i64 x, .bool y] 101)) (.cells #[.int .i64 x, .bool y] 44)) (.cells #[.int .i64 x, .bool y] 44))
  go_enter Try.func88, Try.ntmps88
  go_wp2
  refine bodyPost_ret (v := .agg #[.int .i64 x, .bool y]) (by simp [results, Try.results88, go_sem]) rfl ⟨rfl, hB.out⟩

/-- A new row in block g: its first k places hold ts's. -/
structure FillG (w : World) (g n : Nat) (ts : List (Int × Bool)) (k : Nat) (wr : World) : Prop where
  below : Below w.heap.size w wr
  ge : w.heap.size ≤ g
  lt : g < wr.heap.size
  cells : ∀ j, j < n → ∃ v0 v1, wr.cell? ⟨g, j * 2, none⟩ = some v0 ∧ wr.cell? ⟨g, j * 2 + 1, none⟩ = some v1 ∧ (j < k → v0 = .int .i64 (gg ts j).1 ∧ v1 = .bool (gg ts j).2)
  fr : ∀ j, wr.frozen? ⟨g, j, none⟩ = false
theorem FillG.keep {w : World} {g n : Nat} {ts : List (Int × Bool)} {k : Nat} {wr u : World} (h : FillG w g n ts k wr) (hb : Below wr.heap.size wr u) : FillG w g n ts k u where
  below := bl_trans h.below hb
  ge := h.ge
  lt := Nat.lt_of_lt_of_le h.lt hb.size
  cells := fun j hj => by
    obtain ⟨v0, v1, h0, h1, hk⟩ := h.cells j hj
    exact ⟨v0, v1, by rw [hb.cell (p := ⟨g, j * 2, none⟩) h.lt]; exact h0, by rw [hb.cell (p := ⟨g, j * 2 + 1, none⟩) h.lt]; exact h1, hk⟩
  fr := fun j => by rw [hb.frozen (p := ⟨g, j, none⟩) h.lt]; exact h.fr j
theorem FillG.step {w : World} {g n : Nat} {ts : List (Int × Bool)} {k : Nat} {wr : World} (h : FillG w g n ts k wr) (p : Int × Bool) (hp : gg ts k = p) : FillG w g n ts (k + 1) ((wr.setCell ⟨g, k * 2, none⟩ (.int .i64 p.1)).setCell ⟨g, k * 2 + 1, none⟩ (.bool p.2)) where
  below := (h.below.setCell (p := ⟨g, k * 2, none⟩) h.ge _).setCell (p := ⟨g, k * 2 + 1, none⟩) h.ge _
  ge := h.ge
  lt := by simpa using h.lt
  cells := fun j hj => by
    obtain ⟨v0, v1, h0, h1, hk⟩ := h.cells j hj
    by_cases e : j = k
    · subst e
      have h1' : (wr.setCell ⟨g, j * 2, none⟩ (.int .i64 p.1)).cell? ⟨g, j * 2 + 1, none⟩ = some v1 := by
        rw [World.cell?_setCell_other _ _ _ _ (by intro e'; injection e' with _ e2; omega)]; exact h1
      refine ⟨_, _, ?_, World.cell?_setCell_same _ _ _ h1', fun _ => by rw [hp]; exact ⟨rfl, rfl⟩⟩
      rw [World.cell?_setCell_other _ _ _ _ (by intro e'; injection e' with _ e2; omega)]
      exact World.cell?_setCell_same _ _ _ h0
    · refine ⟨v0, v1, ?_, ?_, fun hlt => hk (by omega)⟩
      · rw [World.cell?_setCell_other _ _ _ _ (by intro e'; injection e' with _ e2; omega), World.cell?_setCell_other _ _ _ _ (by intro e'; injection e' with _ e2; omega)]; exact h0
      · rw [World.cell?_setCell_other _ _ _ _ (by intro e'; injection e' with _ e2; omega), World.cell?_setCell_other _ _ _ _ (by intro e'; injection e' with _ e2; omega)]; exact h1
  fr := fun j => by simpa using h.fr j
theorem FillG.own {w : World} {g n : Nat} {ts : List (Int × Bool)} {wr : World} (h : FillG w g n ts n wr) (hl : ts.length = n) : OwnG w.heap.size wr (some ⟨g, 0, none⟩) n ts :=
  ⟨⟨hl, .inr ⟨g, 0, rfl, h.lt, fun i hi => by obtain ⟨v0, v1, h0, h1, hk⟩ := h.cells i hi; rw [Nat.zero_add, h0, h1, (hk hi).1, (hk hi).2]; exact ⟨rfl, rfl⟩⟩⟩, .inr ⟨g, 0, rfl, h.ge, h.fr⟩⟩
theorem FillG.start (w : World) (n : Nat) (ts : List (Int × Bool)) (t : TypeId) (z : Array Value) : FillG w w.heap.size n ts 0 (w.alloc (.cells (madeCells z (n * 2)) t)) where
  below := bl_alloc (Below.refl _ _) _
  ge := Nat.le_refl _
  lt := by simp
  cells := fun j hj => by
    rw [World.cell?_alloc_new, World.cell?_alloc_new]
    exact ⟨(madeCells z (n * 2))[j * 2]'(by rw [size_madeCells]; omega), (madeCells z (n * 2))[j * 2 + 1]'(by rw [size_madeCells]; omega), by rw [Array.getElem?_eq_getElem], by rw [Array.getElem?_eq_getElem], fun h => by omega⟩
  fr := fun j => by simp [go_sem]
theorem infoG : (Try.prog.info? 44).map (fun i => (i.zero, i.size, i.bytes)) = some (some (.agg #[.int .i64 0, .bool false]), 2, 16) := by kernel_rfl
theorem make_grs (n : Nat) (hn : n ≤ 2097152) (w : World) : (Instr.makeSlice 25 (.int .i64 (n : Int)) (.int .i64 (n : Int))).run Try.prog w = .ok (.slice (some ⟨w.heap.size, 0, none⟩) n n) (w.alloc (.cells (madeCells (Value.agg #[.int .i64 0, .bool false]).cells (n * 2)) 44)) := by
  obtain ⟨i, hi, hz0, hz1, hz2⟩ := info_parts infoG
  have := run_make (P := Try.prog) w 25 44 i (.agg #[.int .i64 0, .bool false]) Try.underlying25 hi hz0 .i64 .i64 (n : Int) (n : Int) (by omega) (by omega) (by rw [hz2]; omega) (by omega)
  rw [hz1] at this
  simpa using this

theorem toGrantS_any (a : Option Addr) (n cap : Nat) (ts : List (Int × Bool)) (w : World) (hI : GrAt w a n ts) (hn : n ≤ 2097152) :
    Calls Try.prog 65 #[.slice a n cap] w fun e w' => e = .returned (.slice (some ⟨w.heap.size, 0, none⟩) n n) ∧ OwnG w.heap.size w' (some ⟨w.heap.size, 0, none⟩) n ts ∧ Below w.heap.size w w' := by
  have hmk := make_grs n hn
  have hS := hidOf (FillG.start w n ts 44 (Value.agg #[.int .i64 0, .bool false]).cells)
  obtain ⟨hlen, rfl | ⟨b, off, rfl, hb, hcell⟩⟩ := hI
  · have hx : ts = [] := List.length_eq_zero_iff.1 hlen
    subst hx
    have hmk0 : ∀ w : World, (Instr.makeSlice 25 (.int .i64 0) (.int .i64 0)).run Try.prog w = .ok (.slice (some ⟨w.heap.size, 0, none⟩) 0 0) (w.alloc (.cells (madeCells (Value.agg #[.int .i64 0, .bool false]).cells (0 * 2)) 44)) := fun w => make_grs 0 (by omega) w
    clear hmk
    have hmk := hmk0
    clear hmk0
    go_enter Try.func65, Try.ntmps65
    go_wp2
    go_loopw [4] (fun i wr => i = .int .i64 0 ∧ FillG w w.heap.size 0 [] 0 wr) (fun _ _ => 0)
    case atStart => exact ⟨rfl, hS.out⟩
    case round =>
      obtain ⟨rfl, hF⟩ := hrel
      clear hS hmk
      go_wp2
      go_ret
      exact ⟨rfl, hF.own rfl, hF.below⟩
  · go_enter Try.func65, Try.ntmps65
    go_wp2_with fail
    go_loopw [4] (fun i wr => ∃ k : Nat, k ≤ n ∧ i = .int .i64 k ∧ FillG w w.heap.size n ts k wr) (fun i _ => n - (intOf i).toNat)
    case atStart => exact ⟨0, Nat.zero_le _, rfl, hS.out⟩
    case round =>
      rename_i wr
      obtain ⟨k, hk, rfl, hF⟩ := hrel
      have HL := hidOf hlen
      clear hS hmk hlen
      by_cases hlt : k < n
      · have hc : wr.cell? ⟨b, off + k * 2, none⟩ = some (.int .i64 (gg ts k).1) := by rw [hF.below.cell (p := ⟨b, off + k * 2, none⟩) hb]; exact (hcell k hlt).1
        have hc2 : wr.cell? ⟨b, off + k * 2 + 1, none⟩ = some (.bool (gg ts k).2) := by rw [hF.below.cell (p := ⟨b, off + k * 2 + 1, none⟩) hb]; exact (hcell k hlt).2
        have HC := fun u => hidOf (toGrant_any (gg ts k) u)
        unfold gV at HC
        obtain ⟨y, hy⟩ : ∃ y, gg ts k = y := ⟨_, rfl⟩
        rw [hy] at hc hc2 HC
        have HY := hidOf hy
        have HF := hidOf hF
        clear hy hcell hF
        go_wp2_with fail
        refine ((HC _).out).mono ?_
        rintro e w1 ⟨rfl, hb1⟩
        have hF1 := HF.out.keep hb1
        obtain ⟨v0, v1, hv0, hv1, _⟩ := hF1.cells k hlt
        have hfr := hF1.fr
        have HF1 := hidOf (hF1.step y HY.out)
        clear hF1 HF HC hc hc2 hb1
        go_wp2
        go_roundw
        case rel => exact ⟨k + 1, by omega, by go_num, HF1.out⟩
        case measure => simp [intOf]; omega
      · obtain rfl : k = n := by omega
        clear hcell
        go_wp2
        go_ret
        exact ⟨rfl, hF.own HL.out, hF.below⟩

theorem eqGrant_any (p q : Int × Bool) (w : World) :
    Calls Try.prog 90 #[gV p, gV q] w fun e w' => e = .returned (.bool (decide (p = q))) ∧ Below w.heap.size w w' := by
  obtain ⟨x, y⟩ := p
  obtain ⟨x', y'⟩ := q
  unfold gV
  have hB : Below w.heap.size w ((w.alloc (.cells #[.int .i64 x, .bool y] 44)).alloc (.cells #[.int .i64 x', .bool y'] 44)) := bl_alloc (bl_alloc (Below.refl _ _) _) _
  go_enter Try.func90, Try.ntmps90
  go_wp2
  all_goals go_ret
  all_goals refine ⟨rbool ?_, hB⟩
  all_goals simp_all

/-- Are the two lists the same? -/
def eqGL (xs ys : List (Int × Bool)) : Bool := decide (xs = ys)
theorem eqG_step {xs ys : List (Int × Bool)} {k : Nat} (hk : k < xs.length) (hk' : k < ys.length) (h : xs.take k = ys.take k) (he : gg xs k = gg ys k) : xs.take (k + 1) = ys.take (k + 1) := by
  rw [take_gg hk, take_gg hk', h, he]
theorem eqG_no {xs ys : List (Int × Bool)} {k : Nat} (he : ¬ gg xs k = gg ys k) : eqGL xs ys = false := by
  unfold eqGL
  rw [decide_eq_false_iff_not]
  rintro rfl
  exact he rfl
theorem eqG_len {xs ys : List (Int × Bool)} (hl : ¬ xs.length = ys.length) : eqGL xs ys = false := by
  unfold eqGL
  rw [decide_eq_false_iff_not]
  rintro rfl
  exact hl rfl
theorem eqG_end {xs ys : List (Int × Bool)} {k : Nat} (hl : xs.length = ys.length) (hk : xs.length ≤ k) (h : xs.take k = ys.take k) : eqGL xs ys = true := by
  rw [List.take_of_length_le hk, List.take_of_length_le (by omega)] at h
  simp [eqGL, h]

abbrev EqS (b o b' o' : Nat) (x y : Int × Bool) (w0 w : World) : Prop :=
  w.cell? ⟨b, o, none⟩ = some (.int .i64 x.1) ∧ w.cell? ⟨b, o + 1, none⟩ = some (.bool x.2) ∧ w.cell? ⟨b', o', none⟩ = some (.int .i64 y.1) ∧ w.cell? ⟨b', o' + 1, none⟩ = some (.bool y.2) ∧ Below w0.heap.size w0 w
theorem cellK {w w' : World} {a : Addr} {v : Value} (h : w.cell? a = some v) (hb : Below w.heap.size w w') : w'.cell? a = some v := by
  rw [hb.cell (p := a) (World.block_lt_of_cell? w a h)]; exact h
theorem EqS.keep {b o b' o' : Nat} {x y : Int × Bool} {w0 w w' : World} (h : EqS b o b' o' x y w0 w) (q : Below w.heap.size w w') : EqS b o b' o' x y w0 w' :=
  ⟨cellK h.1 q, cellK h.2.1 q, cellK h.2.2.1 q, cellK h.2.2.2.1 q, bl_trans h.2.2.2.2 q⟩
theorem EqS.drew {b o b' o' : Nat} {x y : Int × Bool} {w0 w : World} (h : EqS b o b' o' x y w0 w) : EqS b o b' o' x y w0 w.drew := h.keep (Below.refl _ _).drew

theorem eqGrantS_any (a a' : Option Addr) (n n' cap cap' : Nat) (xs ys : List (Int × Bool)) (w : World) (hI : GrAt w a n xs) (hJ : GrAt w a' n' ys) (hn : n ≤ 2097152) (hn' : n' ≤ 2097152) :
    Calls Try.prog 70 #[.slice a n cap, .slice a' n' cap'] w fun e w' => e = .returned (.bool (eqGL xs ys)) ∧ Below w.heap.size w w' := by
  by_cases hl : n = n'
  · subst hl
    by_cases h0 : n = 0
    · subst h0
      have e1 : xs = [] := List.length_eq_zero_iff.1 hI.len
      have e2 : ys = [] := List.length_eq_zero_iff.1 hJ.len
      subst e1 e2
      clear hI hJ
      go_enter Try.func70, Try.ntmps70
      go_wp2
      go_loop [5] (fun i => i = .int .i64 0) (fun _ => 0)
      case atStart => rfl
      case round =>
        subst hrel
        go_wp2
        go_ret
        exact ⟨rfl, Below.refl _ _⟩
    · obtain ⟨hlen, hr | ⟨b, off, rfl, hb, hcell⟩⟩ := hI
      · omega
      obtain ⟨hlen', hr | ⟨b', off', rfl, hb', hcell'⟩⟩ := hJ
      · omega
      have HL := hidOf hlen
      have HL' := hidOf hlen'
      clear hlen hlen'
      go_enter Try.func70, Try.ntmps70
      go_wp2
      go_loopw [5] (fun i wr => ∃ k : Nat, k ≤ n ∧ i = .int .i64 k ∧ xs.take k = ys.take k ∧ Below w.heap.size w wr) (fun i _ => n - (intOf i).toNat)
      case atStart => exact ⟨0, Nat.zero_le _, rfl, rfl, Below.refl _ _⟩
      case round =>
        rename_i wr
        obtain ⟨k, hk, rfl, hno, hB⟩ := hrel
        have Hno := hidOf hno
        clear hno
        by_cases hlt : k < n
        · have hS : EqS b (off + k * 2) b' (off' + k * 2) (gg xs k) (gg ys k) w wr := ⟨by rw [hB.cell (p := ⟨b, off + k * 2, none⟩) hb]; exact (hcell k hlt).1, by rw [hB.cell (p := ⟨b, off + k * 2 + 1, none⟩) hb]; exact (hcell k hlt).2, by rw [hB.cell (p := ⟨b', off' + k * 2, none⟩) hb']; exact (hcell' k hlt).1, by rw [hB.cell (p := ⟨b', off' + k * 2 + 1, none⟩) hb']; exact (hcell' k hlt).2, hB⟩
          have HC := fun u => hidOf (eqGrant_any (gg xs k) (gg ys k) u)
          unfold gV at HC
          have hki : (0 : Int) ≤ (k : Int) ∧ (k : Int) < (n : Int) := by omega
          obtain ⟨x, hx⟩ : ∃ x, gg xs k = x := ⟨_, rfl⟩
          obtain ⟨y, hy⟩ : ∃ y, gg ys k = y := ⟨_, rfl⟩
          rw [hx, hy] at hS HC
          have HX := hidOf hx
          have HY := hidOf hy
          clear hcell hcell' hx hy hB
          go_wp2_with fail
          go_region_held3 (fun w' => EqS b (off + k * 2) b' (off' + k * 2) x y w w') (first | (exact hS.drew) | (exact EqS.keep (by assumption) (by assumption))) (first | (go_at_call 90; refine ((HC _).out).mono ?_; rintro e w1 ⟨rfl, hb1⟩))
          rename_i hT
          by_cases hxy : x = y
          · have hd : decide (x = y) = true := by simp [hxy]
            have hB2 := hT.2.2.2.2
            have Hxy := hidOf hxy
            rw [hd]
            clear hd hxy hS hT
            go_wp2
            go_roundw
            case rel => exact ⟨k + 1, by omega, by go_num, eqG_step (by have := HL.out; omega) (by have := HL'.out; omega) Hno.out (by rw [HX.out, HY.out]; exact Hxy.out), hB2⟩
            case measure => simp [intOf]; omega
          · have hd : decide (x = y) = false := by simp [hxy]
            have hB2 := hT.2.2.2.2
            have Hxy := hidOf hxy
            rw [hd]
            clear hd hxy hS hT
            go_wp2
            go_ret
            exact ⟨rbool (eqG_no (k := k) (by rw [HX.out, HY.out]; exact Hxy.out)).symm, hB2⟩
        · clear hcell hcell'
          go_wp2
          go_ret
          exact ⟨rbool (eqG_end (by have := HL.out; have := HL'.out; omega) (by have := HL.out; omega) Hno.out).symm, hB⟩
  · have hne : ((n : Int) != (n' : Int)) = true := by simp; omega
    have hq := eqG_len (xs := xs) (ys := ys) (by rw [hI.len, hJ.len]; exact hl)
    clear hI hJ
    go_enter Try.func70, Try.ntmps70
    go_wp2
    go_ret
    exact ⟨rbool hq.symm, Below.refl _ _⟩
end Go.Proofs.Ytfgknbflgmblmaa
