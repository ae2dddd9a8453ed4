/-
  Walks of the laws' own helpers on terms: made anew, compared, weighed.
-/
import Derived.Test.YtffpecdjfcgadaaGreatDoorZTm3
import Derived.Deep.RegionHeld3
namespace Go.Proofs.YtffpecdjfcgadaaGreatDoor
open Go.RowKit Pl Il

def qV (p : Tm) : Value := .agg #[.int .i64 p.1, .int .i64 p.2.1, .string p.2.2]
theorem toTerm_any (p : Tm) (w : World) :
    Calls Tryz.prog 102 #[qV p] w fun e w' => e = .returned (qV p) ∧ Below w.heap.size w w' := by
  obtain ⟨x, y, s⟩ := p
  unfold qV
  go_enter Tryz.func102, Tryz.ntmps102
  go_wp2
  refine bodyPost_ret (v := .agg #[.int .i64 x, .int .i64 y, .string s]) (by simp [results, Tryz.results102, go_sem]) rfl ⟨rfl, ?_⟩
  repeat (first | exact Below.refl _ _ | apply Below.drew | apply bl_alloc)

/-- A new row in block g: its first k places hold ts's. -/
structure FillF (w : World) (g n : Nat) (ts : List Tm) (k : Nat) (wr : World) : Prop where
  below : Below w.heap.size w wr
  ge : w.heap.size ≤ g
  lt : g < wr.heap.size
  cells : ∀ j, j < n → ∃ v0 v1 v2, wr.cell? ⟨g, j * 3, none⟩ = some v0 ∧ wr.cell? ⟨g, j * 3 + 1, none⟩ = some v1 ∧ wr.cell? ⟨g, j * 3 + 2, none⟩ = some v2 ∧ (j < k → v0 = .int .i64 (qg ts j).1 ∧ v1 = .int .i64 (qg ts j).2.1 ∧ v2 = .string (qg ts j).2.2)
  fr : ∀ j, wr.frozen? ⟨g, j, none⟩ = false
theorem FillF.keep {w : World} {g n : Nat} {ts : List Tm} {k : Nat} {wr u : World} (h : FillF w g n ts k wr) (hb : Below wr.heap.size wr u) : FillF w g n ts k u where
  below := bl_trans h.below hb
  ge := h.ge
  lt := Nat.lt_of_lt_of_le h.lt hb.size
  cells := fun j hj => by
    obtain ⟨v0, v1, v2, h0, h1, h2, hk⟩ := h.cells j hj
    exact ⟨v0, v1, v2, by rw [hb.cell (p := ⟨g, j * 3, none⟩) h.lt]; exact h0, by rw [hb.cell (p := ⟨g, j * 3 + 1, none⟩) h.lt]; exact h1, by rw [hb.cell (p := ⟨g, j * 3 + 2, none⟩) h.lt]; exact h2, hk⟩
  fr := fun j => by rw [hb.frozen (p := ⟨g, j, none⟩) h.lt]; exact h.fr j
/-- Three neighbouring cells set. -/
def set3 (w : World) (g o : Nat) (x y z : Value) : World := ((w.setCell ⟨g, o, none⟩ x).setCell ⟨g, o + 1, none⟩ y).setCell ⟨g, o + 2, none⟩ z
theorem set3_other {w : World} {g o p : Nat} {x y z : Value} (h : p < o ∨ o + 3 ≤ p) : (set3 w g o x y z).cell? ⟨g, p, none⟩ = w.cell? ⟨g, p, none⟩ := by
  unfold set3
  rw [World.cell?_setCell_other _ _ _ _ (by intro e'; injection e' with _ e2; omega), World.cell?_setCell_other _ _ _ _ (by intro e'; injection e' with _ e2; omega), World.cell?_setCell_other _ _ _ _ (by intro e'; injection e' with _ e2; omega)]
theorem set3_same {w : World} {g o : Nat} {x y z v0 v1 v2 : Value} (h0 : w.cell? ⟨g, o, none⟩ = some v0) (h1 : w.cell? ⟨g, o + 1, none⟩ = some v1) (h2 : w.cell? ⟨g, o + 2, none⟩ = some v2) :
    (set3 w g o x y z).cell? ⟨g, o, none⟩ = some x ∧ (set3 w g o x y z).cell? ⟨g, o + 1, none⟩ = some y ∧ (set3 w g o x y z).cell? ⟨g, o + 2, none⟩ = some z := by
  unfold set3
  have e1 : (w.setCell ⟨g, o, none⟩ x).cell? ⟨g, o + 1, none⟩ = some v1 := by
    rw [World.cell?_setCell_other _ _ _ _ (by intro e'; injection e' with _ e2; omega)]; exact h1
  have e2 : ((w.setCell ⟨g, o, none⟩ x).setCell ⟨g, o + 1, none⟩ y).cell? ⟨g, o + 2, none⟩ = some v2 := by
    rw [World.cell?_setCell_other _ _ _ _ (by intro e'; injection e' with _ e2; omega), World.cell?_setCell_other _ _ _ _ (by intro e'; injection e' with _ e2; omega)]; exact h2
  refine ⟨?_, ?_, World.cell?_setCell_same _ _ _ e2⟩
  · rw [World.cell?_setCell_other _ _ _ _ (by intro e'; injection e' with _ e2; omega), World.cell?_setCell_other _ _ _ _ (by intro e'; injection e' with _ e2; omega)]
    exact World.cell?_setCell_same _ _ _ h0
  · rw [World.cell?_setCell_other _ _ _ _ (by intro e'; injection e' with _ e2; omega)]
    exact World.cell?_setCell_same _ _ _ e1
theorem set3_fr {w : World} {g o : Nat} {x y z : Value} (a : Addr) : (set3 w g o x y z).frozen? a = w.frozen? a := by unfold set3; simp
theorem set3_size {w : World} {g o : Nat} {x y z : Value} : (set3 w g o x y z).heap.size = w.heap.size := by unfold set3; simp
theorem set3_below {w u : World} {B : Nat} (h : Below B w u) {g o : Nat} (hg : B ≤ g) (x y z : Value) : Below B w (set3 u g o x y z) := by
  unfold set3
  exact ((h.setCell (p := ⟨g, o, none⟩) hg _).setCell (p := ⟨g, o + 1, none⟩) hg _).setCell (p := ⟨g, o + 2, none⟩) hg _
theorem set3_grown {w u : World} {g o : Nat} (h : w.grownBy u (some g)) (x y z : Value) : w.grownBy (set3 u g o x y z) (some g) := by
  obtain ⟨h1, h2, h3, h4, h5⟩ := h
  refine ⟨h1, h2, h3, by rw [set3_size]; exact h4, fun k hk hne => ?_⟩
  have e : (set3 u g o x y z).heap[k]? = u.heap[k]? := by
    unfold set3
    rw [Below.heap_setCell _ _ _ _ (by rintro rfl; exact hne rfl), Below.heap_setCell _ _ _ _ (by rintro rfl; exact hne rfl), Below.heap_setCell _ _ _ _ (by rintro rfl; exact hne rfl)]
  rw [e]; exact h5 k hk hne
theorem FillF.step {w : World} {g n : Nat} {ts : List Tm} {k : Nat} {wr : World} (h : FillF w g n ts k wr) (p : Tm) (hp : qg ts k = p) : FillF w g n ts (k + 1) (set3 wr g (k * 3) (.int .i64 p.1) (.int .i64 p.2.1) (.string p.2.2)) where
  below := set3_below h.below h.ge _ _ _
  ge := h.ge
  lt := by rw [set3_size]; exact h.lt
  cells := fun j hj => by
    obtain ⟨v0, v1, v2, h0, h1, h2, hk⟩ := h.cells j hj
    by_cases e : j = k
    · subst e
      obtain ⟨q0, q1, q2⟩ := set3_same (x := .int .i64 p.1) (y := .int .i64 p.2.1) (z := .string p.2.2) h0 h1 h2
      exact ⟨_, _, _, q0, q1, q2, fun _ => by rw [hp]; exact ⟨rfl, rfl, rfl⟩⟩
    · exact ⟨v0, v1, v2, by rw [set3_other (by omega)]; exact h0, by rw [set3_other (by omega)]; exact h1, by rw [set3_other (by omega)]; exact h2, fun hlt => hk (by omega)⟩
  fr := fun j => by rw [set3_fr]; exact h.fr j
theorem FillF.own {w : World} {g n : Nat} {ts : List Tm} {wr : World} (h : FillF w g n ts n wr) (hl : ts.length = n) (hs : ∀ p, p ∈ ts → p.2.2.size ≤ maxLen) : OwnF w.heap.size wr (some ⟨g, 0, none⟩) n ts :=
  ⟨⟨hl, hs, .inr ⟨g, 0, rfl, h.lt, fun i hi => by obtain ⟨v0, v1, v2, h0, h1, h2, hk⟩ := h.cells i hi; rw [Nat.zero_add, h0, h1, h2, (hk hi).1, (hk hi).2.1, (hk hi).2.2]; exact ⟨rfl, rfl, rfl⟩⟩⟩, .inr ⟨g, 0, rfl, h.ge, h.fr⟩⟩
theorem FillF.start (w : World) (n : Nat) (ts : List Tm) (t : TypeId) (z : Array Value) : FillF w w.heap.size n ts 0 (w.alloc (.cells (madeCells z (n * 3)) t)) where
  below := bl_alloc (Below.refl _ _) _
  ge := Nat.le_refl _
  lt := by simp
  cells := fun j hj => by
    rw [World.cell?_alloc_new, World.cell?_alloc_new, World.cell?_alloc_new]
    exact ⟨(madeCells z (n * 3))[j * 3]'(by rw [size_madeCells]; omega), (madeCells z (n * 3))[j * 3 + 1]'(by rw [size_madeCells]; omega), (madeCells z (n * 3))[j * 3 + 2]'(by rw [size_madeCells]; omega), by rw [Array.getElem?_eq_getElem], by rw [Array.getElem?_eq_getElem], by rw [Array.getElem?_eq_getElem], fun h => by omega⟩
  fr := fun j => by simp [go_sem]
theorem infoF : (Tryz.prog.info? 145).map (fun i => (i.zero, i.size, i.bytes)) = some (some (.agg #[.int .i64 0, .int .i64 0, .string ⟨#[]⟩]), 3, 32) := by kernel_rfl
theorem make_tms (n : Nat) (hn : n ≤ 2097152) (w : World) : (Instr.makeSlice 88 (.int .i64 (n : Int)) (.int .i64 (n : Int))).run Tryz.prog w = .ok (.slice (some ⟨w.heap.size, 0, none⟩) n n) (w.alloc (.cells (madeCells (Value.agg #[.int .i64 0, .int .i64 0, .string ⟨#[]⟩]).cells (n * 3)) 145)) := by
  obtain ⟨i, hi, hz0, hz1, hz2⟩ := info_parts infoF
  have := run_make (P := Tryz.prog) w 88 145 i (.agg #[.int .i64 0, .int .i64 0, .string ⟨#[]⟩]) Tryz.underlying88 hi hz0 .i64 .i64 (n : Int) (n : Int) (by omega) (by omega) (by rw [hz2]; omega) (by omega)
  rw [hz1] at this
  simpa using this

theorem toTermS_any (a : Option Addr) (n cap : Nat) (ts : List Tm) (w : World) (hI : TmAt w a n ts) (hn : n ≤ 2097152) :
    Calls Tryz.prog 92 #[.slice a n cap] w fun e w' => e = .returned (.slice (some ⟨w.heap.size, 0, none⟩) n n) ∧ OwnF w.heap.size w' (some ⟨w.heap.size, 0, none⟩) n ts ∧ Below w.heap.size w w' := by
  have hmk := make_tms n hn
  have hS := hidOf (FillF.start w n ts 145 (Value.agg #[.int .i64 0, .int .i64 0, .string ⟨#[]⟩]).cells)
  obtain ⟨hlen, hsh, rfl | ⟨b, off, rfl, hb, hcell⟩⟩ := hI
  · have hx : ts = [] := List.length_eq_zero_iff.1 hlen
    subst hx
    have hmk0 : ∀ w : World, (Instr.makeSlice 88 (.int .i64 0) (.int .i64 0)).run Tryz.prog w = .ok (.slice (some ⟨w.heap.size, 0, none⟩) 0 0) (w.alloc (.cells (madeCells (Value.agg #[.int .i64 0, .int .i64 0, .string ⟨#[]⟩]).cells (0 * 3)) 145)) := fun w => make_tms 0 (by omega) w
    clear hmk
    have hmk := hmk0
    clear hmk0
    go_enter Tryz.func92, Tryz.ntmps92
    go_wp2
    go_loopw [4] (fun i wr => i = .int .i64 0 ∧ FillF w w.heap.size 0 [] 0 wr) (fun _ _ => 0)
    case atStart => exact ⟨rfl, hS.out⟩
    case round =>
      obtain ⟨rfl, hF⟩ := hrel
      clear hS hmk
      go_wp2
      go_ret
      exact ⟨rfl, hF.own rfl hsh, hF.below⟩
  · have HS := hidOf hsh
    clear hsh
    go_enter Tryz.func92, Tryz.ntmps92
    go_wp2_with fail
    go_loopw [4] (fun i wr => ∃ k : Nat, k ≤ n ∧ i = .int .i64 k ∧ FillF w w.heap.size n ts k wr) (fun i _ => n - (intOf i).toNat)
    case atStart => exact ⟨0, Nat.zero_le _, rfl, hS.out⟩
    case round =>
      rename_i wr
      obtain ⟨k, hk, rfl, hF⟩ := hrel
      have HL := hidOf hlen
      clear hS hmk hlen
      by_cases hlt : k < n
      · have hc : wr.cell? ⟨b, off + k * 3, none⟩ = some (.int .i64 (qg ts k).1) := by rw [hF.below.cell (p := ⟨b, off + k * 3, none⟩) hb]; exact (hcell k hlt).1
        have hc2 : wr.cell? ⟨b, off + k * 3 + 1, none⟩ = some (.int .i64 (qg ts k).2.1) := by rw [hF.below.cell (p := ⟨b, off + k * 3 + 1, none⟩) hb]; exact (hcell k hlt).2.1
        have hc3 : wr.cell? ⟨b, off + k * 3 + 2, none⟩ = some (.string (qg ts k).2.2) := by rw [hF.below.cell (p := ⟨b, off + k * 3 + 2, none⟩) hb]; exact (hcell k hlt).2.2
        have HC := fun u => hidOf (toTerm_any (qg ts k) u)
        unfold qV at HC
        obtain ⟨y, hy⟩ : ∃ y, qg ts k = y := ⟨_, rfl⟩
        rw [hy] at hc hc2 hc3 HC
        have HY := hidOf hy
        have HF := hidOf hF
        clear hy hcell hF
        go_wp2_with fail
        refine ((HC _).out).mono ?_
        rintro e w1 ⟨rfl, hb1⟩
        have hF1 := HF.out.keep hb1
        obtain ⟨v0, v1, v2, hv0, hv1, hv2, _⟩ := hF1.cells k hlt
        have hfr := hF1.fr
        have HF1 := hidOf (hF1.step y HY.out)
        unfold set3 at HF1
        clear hF1 HF HC hc hc2 hc3 hb1
        go_wp2
        go_roundw
        case rel => exact ⟨k + 1, by omega, by go_num, HF1.out⟩
        case measure => simp [intOf]; omega
      · obtain rfl : k = n := by omega
        clear hcell
        go_wp2
        go_ret
        exact ⟨rfl, hF.own HL.out HS.out, hF.below⟩

theorem ba_ext {a b : ByteArray} (h : a.toList = b.toList) : a = b := by
  rw [ByteArray.toList_eq, ByteArray.toList_eq] at h
  cases a with
  | mk x => cases b with
    | mk y => simp only at h; rw [Array.toList_inj.1 h]
theorem ba_ne {a b : ByteArray} (h : ¬ a = b) : (!(a.toList == b.toList)) = true := by
  have : ¬ a.toList = b.toList := fun e => h (ba_ext e)
  simp [this]
/-- Are two terms the same? -/
def eqQ (p q : Tm) : Bool := decide (p.1 = q.1) && (decide (p.2.1 = q.2.1) && decide (p.2.2 = q.2.2))
theorem eqQ_iff {p q : Tm} : eqQ p q = true ↔ p = q := by
  obtain ⟨x, y, s⟩ := p
  obtain ⟨x', y', s'⟩ := q
  simp [eqQ]
theorem eqTerm_any (p q : Tm) (w : World) :
    Calls Tryz.prog 105 #[qV p, qV q] w fun e w' => e = .returned (.bool (eqQ p q)) ∧ Below w.heap.size w w' := by
  obtain ⟨x, y, s⟩ := p
  obtain ⟨x', y', s'⟩ := q
  unfold qV eqQ
  have hB : Below w.heap.size w ((w.alloc (.cells #[.int .i64 x, .int .i64 y, .string s] 145)).alloc (.cells #[.int .i64 x', .int .i64 y', .string s'] 145)) := bl_alloc (bl_alloc (Below.refl _ _) _) _
  by_cases h0 : x = x'
  · by_cases h1 : y = y'
    · by_cases h2 : s = s'
      · subst h0 h1 h2
        go_enter Tryz.func105, Tryz.ntmps105
        go_wp2
        go_ret
        exact ⟨rbool (by simp), hB⟩
      · subst h0 h1
        have hd := ba_ne h2
        go_enter Tryz.func105, Tryz.ntmps105
        go_wp2
        go_ret
        exact ⟨rbool (by simp [h2]), hB⟩
    · subst h0
      have hd : (y != y') = true := by simp [h1]
      go_enter Tryz.func105, Tryz.ntmps105
      go_wp2
      go_ret
      exact ⟨rbool (by simp [h1]), hB⟩
  · have hd : (x != x') = true := by simp [h0]
    go_enter Tryz.func105, Tryz.ntmps105
    go_wp2
    go_ret
    exact ⟨rbool (by simp [h0]), hB⟩
/-- Are the two lists the same? -/
def eqFL : List Tm → List Tm → Bool
  | [], [] => true
  | x :: xs, y :: ys => eqQ x y && eqFL xs ys
  | _, _ => false
theorem eqFL_iff : ∀ (xs ys : List Tm), eqFL xs ys = true ↔ xs = ys
  | [], [] => by simp [eqFL]
  | x :: xs, [] => by simp [eqFL]
  | [], y :: ys => by simp [eqFL]
  | x :: xs, y :: ys => by simp [eqFL, eqQ_iff, eqFL_iff xs ys]
theorem eqFL_self (xs : List Tm) : eqFL xs xs = true := (eqFL_iff xs xs).2 rfl
theorem eqF_step {xs ys : List Tm} {k : Nat} (hk : k < xs.length) (hk' : k < ys.length) (h : xs.take k = ys.take k) (he : qg xs k = qg ys k) : xs.take (k + 1) = ys.take (k + 1) := by
  rw [take_qg hk, take_qg hk', h, he]
theorem eqF_ne {xs ys : List Tm} (h : ¬ xs = ys) : eqFL xs ys = false := by
  cases e : eqFL xs ys with
  | false => rfl
  | true => exact absurd ((eqFL_iff xs ys).1 e) h
theorem eqF_no {xs ys : List Tm} {k : Nat} (he : ¬ qg xs k = qg ys k) : eqFL xs ys = false := eqF_ne (by rintro rfl; exact he rfl)
theorem eqF_len {xs ys : List Tm} (hl : ¬ xs.length = ys.length) : eqFL xs ys = false := eqF_ne (by rintro rfl; exact hl rfl)
theorem eqF_end {xs ys : List Tm} {k : Nat} (hl : xs.length = ys.length) (hk : xs.length ≤ k) (h : xs.take k = ys.take k) : eqFL xs ys = true := by
  rw [List.take_of_length_le hk, List.take_of_length_le (by omega)] at h
  exact (eqFL_iff xs ys).2 h

abbrev EqR (b o b' o' : Nat) (x y : Tm) (w0 w : World) : Prop :=
  w.cell? ⟨b, o, none⟩ = some (.int .i64 x.1) ∧ w.cell? ⟨b, o + 1, none⟩ = some (.int .i64 x.2.1) ∧ w.cell? ⟨b, o + 2, none⟩ = some (.string x.2.2) ∧ w.cell? ⟨b', o', none⟩ = some (.int .i64 y.1) ∧ w.cell? ⟨b', o' + 1, none⟩ = some (.int .i64 y.2.1) ∧ w.cell? ⟨b', o' + 2, none⟩ = some (.string y.2.2) ∧ Below w0.heap.size w0 w
theorem cellK {w w' : World} {a : Addr} {v : Value} (h : w.cell? a = some v) (hb : Below w.heap.size w w') : w'.cell? a = some v := by
  rw [hb.cell (p := a) (World.block_lt_of_cell? w a h)]; exact h
theorem EqR.keep {b o b' o' : Nat} {x y : Tm} {w0 w w' : World} (h : EqR b o b' o' x y w0 w) (q : Below w.heap.size w w') : EqR b o b' o' x y w0 w' :=
  ⟨cellK h.1 q, cellK h.2.1 q, cellK h.2.2.1 q, cellK h.2.2.2.1 q, cellK h.2.2.2.2.1 q, cellK h.2.2.2.2.2.1 q, bl_trans h.2.2.2.2.2.2 q⟩
theorem EqR.drew {b o b' o' : Nat} {x y : Tm} {w0 w : World} (h : EqR b o b' o' x y w0 w) : EqR b o b' o' x y w0 w.drew := h.keep (Below.refl _ _).drew

theorem eqTermS_any (a a' : Option Addr) (n n' cap cap' : Nat) (xs ys : List Tm) (w : World) (hI : TmAt w a n xs) (hJ : TmAt w a' n' ys) (hn : n ≤ 2097152) (hn' : n' ≤ 2097152) :
    Calls Tryz.prog 99 #[.slice a n cap, .slice a' n' cap'] w fun e w' => e = .returned (.bool (eqFL xs ys)) ∧ Below w.heap.size w w' := by
  by_cases hl : n = n'
  · subst hl
    by_cases h0 : n = 0
    · subst h0
      have e1 : xs = [] := List.length_eq_zero_iff.1 hI.len
      have e2 : ys = [] := List.length_eq_zero_iff.1 hJ.len
      subst e1 e2
      clear hI hJ
      go_enter Tryz.func99, Tryz.ntmps99
      go_wp2
      go_loop [5] (fun i => i = .int .i64 0) (fun _ => 0)
      case atStart => rfl
      case round =>
        subst hrel
        go_wp2
        go_ret
        exact ⟨rfl, Below.refl _ _⟩
    · obtain ⟨hlen, _, hr | ⟨b, off, rfl, hb, hcell⟩⟩ := hI
      · omega
      obtain ⟨hlen', _, hr | ⟨b', off', rfl, hb', hcell'⟩⟩ := hJ
      · omega
      have HL := hidOf hlen
      have HL' := hidOf hlen'
      clear hlen hlen'
      go_enter Tryz.func99, Tryz.ntmps99
      go_wp2
      go_loopw [5] (fun i wr => ∃ k : Nat, k ≤ n ∧ i = .int .i64 k ∧ xs.take k = ys.take k ∧ Below w.heap.size w wr) (fun i _ => n - (intOf i).toNat)
      case atStart => exact ⟨0, Nat.zero_le _, rfl, rfl, Below.refl _ _⟩
      case round =>
        rename_i wr
        obtain ⟨k, hk, rfl, hno, hB⟩ := hrel
        have Hno := hidOf hno
        clear hno
        by_cases hlt : k < n
        · have hS : EqR b (off + k * 3) b' (off' + k * 3) (qg xs k) (qg ys k) w wr := ⟨by rw [hB.cell (p := ⟨b, off + k * 3, none⟩) hb]; exact (hcell k hlt).1, by rw [hB.cell (p := ⟨b, off + k * 3 + 1, none⟩) hb]; exact (hcell k hlt).2.1, by rw [hB.cell (p := ⟨b, off + k * 3 + 2, none⟩) hb]; exact (hcell k hlt).2.2, by rw [hB.cell (p := ⟨b', off' + k * 3, none⟩) hb']; exact (hcell' k hlt).1, by rw [hB.cell (p := ⟨b', off' + k * 3 + 1, none⟩) hb']; exact (hcell' k hlt).2.1, by rw [hB.cell (p := ⟨b', off' + k * 3 + 2, none⟩) hb']; exact (hcell' k hlt).2.2, hB⟩
          have HC := fun u => hidOf (eqTerm_any (qg xs k) (qg ys k) u)
          unfold qV at HC
          have hki : (0 : Int) ≤ (k : Int) ∧ (k : Int) < (n : Int) := by omega
          obtain ⟨x, hx⟩ : ∃ x, qg xs k = x := ⟨_, rfl⟩
          obtain ⟨y, hy⟩ : ∃ y, qg ys k = y := ⟨_, rfl⟩
          rw [hx, hy] at hS HC
          have HX := hidOf hx
          have HY := hidOf hy
          clear hcell hcell' hx hy hB
          go_wp2_with fail
          go_region_held3 (fun w' => EqR b (off + k * 3) b' (off' + k * 3) x y w w') (first | (exact hS.drew) | (exact EqR.keep (by assumption) (by assumption))) (first | (go_at_call 105; refine ((HC _).out).mono ?_; rintro e w1 ⟨rfl, hb1⟩))
          rename_i hT
          cases hd : eqQ x y
          · have hB2 := hT.2.2.2.2.2.2
            have Hxy := hidOf hd
            clear hd hS hT
            go_wp2
            go_ret
            exact ⟨rbool (eqF_no (k := k) (by rw [HX.out, HY.out]; intro e; have := eqQ_iff.2 e; rw [Hxy.out] at this; cases this)).symm, hB2⟩
          · have hB2 := hT.2.2.2.2.2.2
            have Hxy := hidOf (eqQ_iff.1 hd)
            clear hd hS hT
            go_wp2
            go_roundw
            case rel => exact ⟨k + 1, by omega, by go_num, eqF_step (by have := HL.out; omega) (by have := HL'.out; omega) Hno.out (by rw [HX.out, HY.out]; exact Hxy.out), hB2⟩
            case measure => simp [intOf]; omega
        · clear hcell hcell'
          go_wp2
          go_ret
          exact ⟨rbool (eqF_end (by have := HL.out; have := HL'.out; omega) (by have := HL.out; omega) Hno.out).symm, hB⟩
  · have hne : ((n : Int) != (n' : Int)) = true := by simp; omega
    have hq := eqF_len (xs := xs) (ys := ys) (by rw [hI.len, hJ.len]; exact hl)
    clear hI hJ
    go_enter Tryz.func99, Tryz.ntmps99
    go_wp2
    go_ret
    exact ⟨rbool hq.symm, Below.refl _ _⟩
end Go.Proofs.YtffpecdjfcgadaaGreatDoor
