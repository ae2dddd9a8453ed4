/-
  A merge in memory: its legs, four cells each; the laws' helpers on it.
-/
import Derived.Test.YtffpecdjfcgadaaGreatDoorZTm5
import Derived.Test.YtffpecdjfcgadaaGreatDoorZTm6
import Derived.Deep.RegionHeld3
import Derived.Deep.Cut
namespace Go.Proofs.YtffpecdjfcgadaaGreatDoor
open Go.RowKit Pl Il

structure Lg where
  tp : Int
  id : Int
  lo : Int
  ov : Bool
def Lg0 : Lg := ⟨0, 0, 0, false⟩
def lgg (l : List Lg) (i : Nat) : Lg := l.getD i Lg0
abbrev lC (x : Lg) : List Value := [.int .i64 x.tp, .int .i64 x.id, .int .i64 x.lo, .bool x.ov]
theorem lgg_eq {l : List Lg} {i : Nat} (h : i < l.length) : lgg l i = l[i] := by simp [lgg, h]
theorem lgg_mem {l : List Lg} {k : Nat} (h : k < l.length) : lgg l k ∈ l := by rw [lgg_eq h]; exact List.getElem_mem h
structure LgCell (w : World) (b o : Nat) (x : Lg) : Prop where
  c0 : w.cell? ⟨b, o, none⟩ = some (.int .i64 x.tp)
  c1 : w.cell? ⟨b, o + 1, none⟩ = some (.int .i64 x.id)
  c2 : w.cell? ⟨b, o + 2, none⟩ = some (.int .i64 x.lo)
  c3 : w.cell? ⟨b, o + 3, none⟩ = some (.bool x.ov)
theorem LgCell.same {w u : World} {b o : Nat} {x : Lg} (h : LgCell w b o x) (he : ∀ i, i < 4 → u.cell? ⟨b, o + i, none⟩ = w.cell? ⟨b, o + i, none⟩) : LgCell u b o x :=
  ⟨(he 0 (by omega)).trans h.c0, (he 1 (by omega)).trans h.c1, (he 2 (by omega)).trans h.c2, (he 3 (by omega)).trans h.c3⟩
theorem LgCell.below {w u : World} {b o B : Nat} {x : Lg} (h : LgCell w b o x) (hb : Below B w u) (hB : b < B) : LgCell u b o x := h.same fun i _ => hb.cell (p := ⟨b, o + i, none⟩) hB
theorem LgCell.ofSet {w : World} {b o : Nat} (x : Lg) (h : ∀ i, i < 4 → ∃ v, w.cell? ⟨b, o + i, none⟩ = some v) : LgCell (setL w b o (lC x)) b o x := by
  have k := setL_same (g := b) (vs := lC x) (w := w) (o := o) (fun i hi => h i (by simpa using hi))
  exact ⟨k 0 (by simp), k 1 (by simp), k 2 (by simp), k 3 (by simp)⟩
/-- The slice at a, of n legs, reads as ls in w. -/
structure LegAt (w : World) (a : Option Addr) (n : Nat) (ls : List Lg) : Prop where
  len : ls.length = n
  row : n = 0 ∨ ∃ b off, a = some ⟨b, off, none⟩ ∧ b < w.heap.size ∧ ∀ i, i < n → LgCell w b (off + i * 4) (lgg ls i)
theorem LegAt.keep {w w' : World} {a : Option Addr} {n : Nat} {ls : List Lg} (h : LegAt w a n ls) (hb : Below w.heap.size w w') : LegAt w' a n ls := by
  refine ⟨h.len, ?_⟩
  rcases h.row with k | ⟨b, off, rfl, hlt, hc⟩
  · exact .inl k
  · exact .inr ⟨b, off, rfl, Nat.lt_of_lt_of_le hlt hb.size, fun i hi => (hc i hi).below hb hlt⟩
/-- A new row in block g: its first k places hold ls's. -/
structure FillG (w : World) (g n : Nat) (ls : List Lg) (k : Nat) (wr : World) : Prop where
  below : Below w.heap.size w wr
  ge : w.heap.size ≤ g
  lt : g < wr.heap.size
  cells : ∀ j, j < n → ∀ i, i < 4 → ∃ v, wr.cell? ⟨g, j * 4 + i, none⟩ = some v
  done : ∀ j, j < k → LgCell wr g (j * 4) (lgg ls j)
  fr : ∀ j, wr.frozen? ⟨g, j, none⟩ = false
theorem FillG.keep {w : World} {g n : Nat} {ls : List Lg} {k : Nat} {wr u : World} (h : FillG w g n ls k wr) (hb : Below wr.heap.size wr u) : FillG w g n ls k u where
  below := bl_trans h.below hb
  ge := h.ge
  lt := Nat.lt_of_lt_of_le h.lt hb.size
  cells := fun j hj i hi => by obtain ⟨v, hv⟩ := h.cells j hj i hi; exact ⟨v, by rw [hb.cell (p := ⟨g, j * 4 + i, none⟩) h.lt]; exact hv⟩
  done := fun j hj => (h.done j hj).below hb h.lt
  fr := fun j => by rw [hb.frozen (p := ⟨g, j, none⟩) h.lt]; exact h.fr j
theorem FillG.step {w : World} {g n : Nat} {ls : List Lg} {k : Nat} {wr : World} (h : FillG w g n ls k wr) (hk : k < n) (x : Lg) (hx : lgg ls k = x) : FillG w g n ls (k + 1) (setL wr g (k * 4) (lC x)) where
  below := setL_below h.ge h.below
  ge := h.ge
  lt := by rw [setL_size]; exact h.lt
  cells := fun j hj i hi => by
    by_cases e : j = k
    · subst e
      have q := setL_same (g := g) (vs := lC x) (w := wr) (o := j * 4) (fun i hi => h.cells _ hj i (by simpa using hi)) i (by simpa using hi)
      exact ⟨_, q⟩
    · obtain ⟨v, hv⟩ := h.cells j hj i hi
      exact ⟨v, by rw [setL_other (by simp only [List.length_cons, List.length_nil]; omega)]; exact hv⟩
  done := fun j hj => by
    by_cases e : j = k
    · subst e
      rw [hx]
      exact LgCell.ofSet x (fun i hi => h.cells _ hk i hi)
    · exact (h.done j (by omega)).same fun i hi => setL_other (by simp only [List.length_cons, List.length_nil]; omega)
  fr := fun j => by rw [setL_fr]; exact h.fr j
theorem FillG.legs {w : World} {g n : Nat} {ls : List Lg} {wr : World} (h : FillG w g n ls n wr) (hl : ls.length = n) : LegAt wr (some ⟨g, 0, none⟩) n ls :=
  ⟨hl, .inr ⟨g, 0, rfl, h.lt, fun i hi => by rw [Nat.zero_add]; exact h.done i hi⟩⟩
theorem FillG.start (w : World) (n : Nat) (ls : List Lg) (t : TypeId) (z : Array Value) : FillG w w.heap.size n ls 0 (w.alloc (.cells (madeCells z (n * 4)) t)) where
  below := bl_alloc (Below.refl _ _) _
  ge := Nat.le_refl _
  lt := by simp
  cells := fun j hj i hi => by
    rw [World.cell?_alloc_new]
    have hlt : j * 4 + i < (madeCells z (n * 4)).size := by rw [size_madeCells]; omega
    exact ⟨(madeCells z (n * 4))[j * 4 + i], by rw [Array.getElem?_eq_getElem hlt]⟩
  done := fun j hj => by omega
  fr := fun j => by simp [go_sem]
theorem infoG : (Tryz.prog.info? 59).map (fun i => (i.zero, i.size, i.bytes)) = some (some (.agg #[.int .i64 0, .int .i64 0, .int .i64 0, .bool false]), 4, 32) := by kernel_rfl
theorem make_legs (n : Nat) (hn : n ≤ 2097152) (w : World) : (Instr.makeSlice 31 (.int .i64 (n : Int)) (.int .i64 (n : Int))).run Tryz.prog w = .ok (.slice (some ⟨w.heap.size, 0, none⟩) n n) (w.alloc (.cells (madeCells (Value.agg #[.int .i64 0, .int .i64 0, .int .i64 0, .bool false]).cells (n * 4)) 59)) := by
  obtain ⟨i, hi, hz0, hz1, hz2⟩ := info_parts infoG
  have := run_make (P := Tryz.prog) w 31 59 i (.agg #[.int .i64 0, .int .i64 0, .int .i64 0, .bool false]) Tryz.underlying31 hi hz0 .i64 .i64 (n : Int) (n : Int) (by omega) (by omega) (by rw [hz2]; omega) (by omega)
  rw [hz1] at this
  simpa using this
theorem toLeg_any (x : Lg) (w : World) :
    Calls Tryz.prog 33 #[.agg #[.int .i64 x.tp, .int .i64 x.id, .int .i64 x.lo, .bool x.ov]] w fun e w' => e = .returned (.agg #[.int .i64 x.tp, .int .i64 x.id, .int .i64 x.lo, .bool x.ov]) ∧ Below w.heap.size w w' := by
  obtain ⟨p, q, r, o⟩ := x
  go_enter Tryz.func33, Tryz.ntmps33
  go_wp2
  refine bodyPost_ret (v := .agg #[.int .i64 p, .int .i64 q, .int .i64 r, .bool o]) (by simp [results, Tryz.results33, go_sem]) rfl ⟨rfl, ?_⟩
  repeat (first | exact Below.refl _ _ | apply Below.drew | apply bl_alloc)
set_option maxHeartbeats 1000000 in
theorem toLegS_any (a : Option Addr) (n cap : Nat) (ls : List Lg) (w : World) (hI : LegAt w a n ls) (hn : n ≤ 2097152) :
    Calls Tryz.prog 18 #[.slice a n cap] w fun e w' => e = .returned (.slice (some ⟨w.heap.size, 0, none⟩) n n) ∧ LegAt w' (some ⟨w.heap.size, 0, none⟩) n ls ∧ Below w.heap.size w w' := by
  have hmk := make_legs n hn
  have hS := hidOf (FillG.start w n ls 59 (Value.agg #[.int .i64 0, .int .i64 0, .int .i64 0, .bool false]).cells)
  obtain ⟨hlen, rfl | ⟨b, off, rfl, hb, hcell⟩⟩ := hI
  · have hx : ls = [] := List.length_eq_zero_iff.1 hlen
    subst hx
    have hmk0 : ∀ w : World, (Instr.makeSlice 31 (.int .i64 0) (.int .i64 0)).run Tryz.prog w = .ok (.slice (some ⟨w.heap.size, 0, none⟩) 0 0) (w.alloc (.cells (madeCells (Value.agg #[.int .i64 0, .int .i64 0, .int .i64 0, .bool false]).cells (0 * 4)) 59)) := fun w => make_legs 0 (by omega) w
    clear hmk
    have hmk := hmk0
    clear hmk0
    go_enter Tryz.func18, Tryz.ntmps18
    go_wp2
    go_loopw [4] (fun i wr => i = .int .i64 0 ∧ FillG w w.heap.size 0 [] 0 wr) (fun _ _ => 0)
    case atStart => exact ⟨rfl, hS.out⟩
    case round =>
      obtain ⟨rfl, hF⟩ := hrel
      clear hS hmk
      go_wp2
      go_ret
      exact ⟨rfl, hF.legs rfl, hF.below⟩
  · go_enter Tryz.func18, Tryz.ntmps18
    go_wp2_with fail
    go_loopw [4] (fun i wr => ∃ k : Nat, k ≤ n ∧ i = .int .i64 k ∧ FillG w w.heap.size n ls k wr) (fun i _ => n - (intOf i).toNat)
    case atStart => exact ⟨0, Nat.zero_le _, rfl, hS.out⟩
    case round =>
      rename_i wr
      obtain ⟨k, hk, rfl, hF⟩ := hrel
      have HL := hidOf hlen
      clear hS hmk hlen
      by_cases hlt : k < n
      · obtain ⟨c0, c1, c2, c3⟩ := (hcell k hlt).below hF.below hb
        have HC := fun u => hidOf (toLeg_any (lgg ls k) u)
        obtain ⟨y, hy⟩ : ∃ y, lgg ls k = y := ⟨_, rfl⟩
        rw [hy] at c0 c1 c2 c3 HC
        have HY := hidOf hy
        have HF := hidOf hF
        clear hy hcell hF
        go_wp2_with fail
        refine ((HC _).out).mono ?_
        rintro e w1 ⟨rfl, hb1⟩
        have hF1 := HF.out.keep hb1
        obtain ⟨v0, hv0⟩ := hF1.cells k hlt 0 (by omega)
        obtain ⟨v1, hv1⟩ := hF1.cells k hlt 1 (by omega)
        obtain ⟨v2, hv2⟩ := hF1.cells k hlt 2 (by omega)
        obtain ⟨v3, hv3⟩ := hF1.cells k hlt 3 (by omega)
        have hfr := hF1.fr
        have HF1 := hidOf (hF1.step hlt y HY.out)
        simp only [setL] at HF1
        simp only [Nat.add_zero] at hv0
        clear hF1 HF HC c0 c1 c2 c3 hb1
        go_wp2
        go_roundw
        case rel => exact ⟨k + 1, by omega, by go_num, HF1.out⟩
        case measure => simp [intOf]; omega
      · obtain rfl : k = n := by omega
        have HF := hidOf hF
        clear hF hcell
        go_wp2
        go_ret
        exact ⟨rfl, HF.out.legs HL.out, HF.out.below⟩
set_option maxHeartbeats 1000000 in
theorem toMerge_any (a : Option Addr) (n cap : Nat) (ls : List Lg) (io mv : Int) (w : World) (hI : LegAt w a n ls) (hn : n ≤ 2097152) :
    Calls Tryz.prog 8 #[.agg #[.slice a n cap, .int .i64 io, .int .i64 mv]] w fun e w' => ∃ g, e = .returned (.agg #[.slice (some ⟨g, 0, none⟩) n n, .int .i64 io, .int .i64 mv]) ∧ LegAt w' (some ⟨g, 0, none⟩) n ls ∧ Below w.heap.size w w' := by
  obtain ⟨W0, hW0⟩ : ∃ W, W = ((w.alloc (.cells #[.slice a n cap, .int .i64 io, .int .i64 mv] 25)).alloc (.cells #[.slice none 0 0, .int .i64 0, .int .i64 0] 33)).alloc (.cells #[.slice none 0 0, .int .i64 0, .int .i64 0] 33) := ⟨_, rfl⟩
  have b0 : Below w.heap.size w W0 := by rw [hW0]; exact bl_alloc (bl_alloc (bl_alloc (Below.refl _ _) _) _) _
  have s0 : W0.heap.size = w.heap.size + 3 := by rw [hW0]; simp
  have A0 : BoxL w.heap.size [.slice a n cap, .int .i64 io, .int .i64 mv] W0 := by rw [hW0]; exact ((BoxL.new w [.slice a n cap, .int .i64 io, .int .i64 mv] _).alloc _).alloc _
  have X1 : BoxL (w.heap.size + 1) [.slice none 0 0, .int .i64 0, .int .i64 0] W0 := by
    rw [hW0]
    exact (by simpa using BoxL.new (w.alloc (.cells #[.slice a n cap, .int .i64 io, .int .i64 mv] 25)) [.slice none 0 0, .int .i64 0, .int .i64 0] 33 : BoxL (w.heap.size + 1) [.slice none 0 0, .int .i64 0, .int .i64 0] _).alloc _
  have X2 : BoxL (w.heap.size + 1 + 1) [.slice none 0 0, .int .i64 0, .int .i64 0] W0 := by
    rw [hW0]
    simpa using BoxL.new ((w.alloc (.cells #[.slice a n cap, .int .i64 io, .int .i64 mv] 25)).alloc (.cells #[.slice none 0 0, .int .i64 0, .int .i64 0] 33)) [.slice none 0 0, .int .i64 0, .int .i64 0] 33
  have HC := hidOf (toLegS_any a n cap ls W0 (hI.keep b0) hn)
  have p0 := A0.cs 0 (by simp)
  simp only [List.getElem_cons_zero] at p0
  clear hI
  go_enter Tryz.func8, Tryz.ntmps8
  go_upto_region 2 with fail
  rw [← hW0]
  clear hW0
  go_wp2_with fail
  refine (HC.out).mono ?_
  rintro e w1 ⟨rfl, hL, hb1⟩
  have hB := bl_trans b0 hb1
  have a1 := A0.keep hb1
  have x1 := X1.keep hb1
  have x2 := X2.keep hb1
  have hge : w.heap.size + 3 ≤ W0.heap.size := by omega
  generalize hG : W0.heap.size = G at hL hge ⊢
  have y2 := ((x2.set 0 (by simp) (.slice (some ⟨G, 0, none⟩) n n)).set 1 (by simp) (.int .i64 io)).set 2 (by simp) (.int .i64 mv)
  have y1 := ((x1.far (w.heap.size + 1 + 1) 0 (by omega) (.slice (some ⟨G, 0, none⟩) n n)).far (w.heap.size + 1 + 1) 1 (by omega) (.int .i64 io)).far (w.heap.size + 1 + 1) 2 (by omega) (.int .i64 mv)
  have z1 := ((y1.set 0 (by simp) (.slice (some ⟨G, 0, none⟩) n n)).set 1 (by simp) (.int .i64 io)).set 2 (by simp) (.int .i64 mv)
  have q0 := a1.cs 0 (by simp)
  have q1 := a1.cs 1 (by simp)
  have q2 := a1.cs 2 (by simp)
  have a0' := x2.cs 0 (by simp)
  have a1' := x2.cs 1 (by simp)
  have a2' := x2.cs 2 (by simp)
  have af := x2.fr
  have d0 := y2.cs 0 (by simp)
  have d1 := y2.cs 1 (by simp)
  have d2 := y2.cs 2 (by simp)
  have e0 := y1.cs 0 (by simp)
  have e1 := y1.cs 1 (by simp)
  have e2 := y1.cs 2 (by simp)
  have ef := y1.fr
  have t0 := z1.cs 0 (by simp)
  have t1 := z1.cs 1 (by simp)
  have t2 := z1.cs 2 (by simp)
  simp at q0 q1 q2 a0' a1' a2' d0 d1 d2 e0 e1 e2 t0 t1 t2
  have hlt : G < w1.heap.size ∨ n = 0 := by
    rcases hL.row with h | ⟨b, off, e, h, _⟩
    · exact .inr h
    · injection e with e; injection e with e _; subst e; exact .inl h
  have far : ∀ {u : World} (N o : Nat) (v : Value), N < G → LegAt u (some ⟨G, 0, none⟩) n ls → LegAt (u.setCell ⟨N, o, none⟩ v) (some ⟨G, 0, none⟩) n ls := fun N o v hN h => by
    refine ⟨h.len, ?_⟩
    rcases h.row with k | ⟨b, off, e, hlt, hc⟩
    · exact .inl k
    · refine .inr ⟨b, off, e, by simpa using hlt, fun i hi => (hc i hi).same fun r _ => World.cell?_setCell_other _ _ _ _ (by
        intro e'
        injection e with e
        injection e with eb _
        injection e' with e1 _
        omega)⟩
  have HF := hidOf (far (w.heap.size + 1) 2 (.int .i64 mv) (by omega) (far (w.heap.size + 1) 1 (.int .i64 io) (by omega) (far (w.heap.size + 1) 0 (.slice (some ⟨G, 0, none⟩) n n) (by omega) (far (w.heap.size + 1 + 1) 2 (.int .i64 mv) (by omega) (far (w.heap.size + 1 + 1) 1 (.int .i64 io) (by omega) (far (w.heap.size + 1 + 1) 0 (.slice (some ⟨G, 0, none⟩) n n) (by omega) hL))))))
  have HB := hidOf (bl_setB (bl_setB (bl_setB (bl_setB (bl_setB (bl_setB hB (w.heap.size + 1 + 1) 0 (by omega) (.slice (some ⟨G, 0, none⟩) n n)) (w.heap.size + 1 + 1) 1 (by omega) (.int .i64 io)) (w.heap.size + 1 + 1) 2 (by omega) (.int .i64 mv)) (w.heap.size + 1) 0 (by omega) (.slice (some ⟨G, 0, none⟩) n n)) (w.heap.size + 1) 1 (by omega) (.int .i64 io)) (w.heap.size + 1) 2 (by omega) (.int .i64 mv))
  clear hL hb1 hB b0 s0 A0 X1 X2 x1 x2 a1 y1 y2 z1 hG p0 hlt far
  go_wp2
  exact bodyPost_ret (v := .agg #[.slice (some ⟨G, 0, none⟩) n n, .int .i64 io, .int .i64 mv]) (by simp [results, Tryz.results8, go_sem, t0, t1, t2]) rfl ⟨G, rfl, HF.out, HB.out⟩
theorem szMerge_any (a : Option Addr) (n cap : Nat) (io mv l : Int) (w : World) (hn : n ≤ 9223372036854775807) (l0 : 0 ≤ l) (l1 : l ≤ 1048576) :
    Calls Tryz.prog 5 #[.agg #[.slice a n cap, .int .i64 io, .int .i64 mv], .int .i64 l] w fun e w' => (∃ r, e = .returned (.int .i64 r) ∧ (r < 0 ∨ (0 ≤ r ∧ r ≤ 1048576 ∧ n ≤ 1048576))) ∧ Below w.heap.size w w' := by
  by_cases h : l < (n : Int)
  · have h' : l - (n : Int) < 0 := by omega
    go_enter Tryz.func5, Tryz.ntmps5
    go_wp2
    all_goals go_ret
    all_goals exact ⟨⟨_, rfl, .inl (by omega)⟩, bl_alloc (Below.refl _ _) _⟩
  · have h' : ¬ l - (n : Int) < 0 := by omega
    go_enter Tryz.func5, Tryz.ntmps5
    go_wp2
    all_goals go_ret
    all_goals exact ⟨⟨_, rfl, .inr ⟨by omega, by omega, by omega⟩⟩, bl_alloc (Below.refl _ _) _⟩
theorem cellB {w w' : World} {p : Addr} {x : Value} (h : w.cell? p = some x) (hb : Below w.heap.size w w') : w'.cell? p = some x := by
  rw [hb.cell (World.block_lt_of_cell? w _ h)]; exact h
theorem cellG {w : World} {p : Addr} {x : Value} (h : w.cell? p = some x) : w.drew.cell? p = some x := cellB h (Below.refl _ _).drew
theorem eqLeg_same (x : Lg) (w : World) :
    Calls Tryz.prog 42 #[.agg #[.int .i64 x.tp, .int .i64 x.id, .int .i64 x.lo, .bool x.ov], .agg #[.int .i64 x.tp, .int .i64 x.id, .int .i64 x.lo, .bool x.ov]] w fun e w' => e = .returned (.bool true) ∧ Below w.heap.size w w' := by
  obtain ⟨p, q, r, o⟩ := x
  go_enter Tryz.func42, Tryz.ntmps42
  go_wp2
  go_ret
  refine ⟨rfl, ?_⟩
  repeat (first | exact Below.refl _ _ | apply Below.drew | apply bl_alloc)
set_option maxHeartbeats 1000000 in
theorem eqLegS_same (a a' : Option Addr) (n cap cap' : Nat) (ls : List Lg) (w : World) (hI : LegAt w a n ls) (hJ : LegAt w a' n ls) (hn : n ≤ 2097152) :
    Calls Tryz.prog 26 #[.slice a n cap, .slice a' n cap'] w fun e w' => e = .returned (.bool true) ∧ Below w.heap.size w w' := by
  have HI := hidOf hI
  have HJ := hidOf hJ
  clear hI hJ
  go_enter Tryz.func26, Tryz.ntmps26
  go_wp2
  go_loopw [5] (fun i wr => ∃ k : Nat, k ≤ n ∧ i = .int .i64 (k : Int) ∧ Below w.heap.size w wr) (fun i _ => n - (intOf i).toNat)
  case atStart => exact ⟨0, Nat.zero_le _, rfl, Below.refl _ _⟩
  case round =>
    rename_i wr
    obtain ⟨k, hk, rfl, hB⟩ := hrel
    by_cases hlt : k < n
    · obtain hr | ⟨b, off, rfl, hb, hcell⟩ := HI.out.row
      · omega
      obtain hr' | ⟨b', off', rfl, hb', hcell'⟩ := HJ.out.row
      · omega
      obtain ⟨c0, c1, c2, c3⟩ := (hcell k hlt).below hB hb
      obtain ⟨d0, d1, d2, d3⟩ := (hcell' k hlt).below hB hb'
      obtain ⟨t, ht⟩ : ∃ t, lgg ls k = t := ⟨_, rfl⟩
      rw [ht] at c0 c1 c2 c3 d0 d1 d2 d3
      have HB := hidOf hB
      have HC := hidOf (fun u => eqLeg_same t u)
      clear hcell hcell' ht hB
      go_wp2_with fail
      refine wp_region_noPanic ?_
      refine wp_region_held_drew (S := fun u => (u.cell? ⟨b, off + k * 4, none⟩ = some (.int .i64 t.tp) ∧ u.cell? ⟨b, off + k * 4 + 1, none⟩ = some (.int .i64 t.id) ∧ u.cell? ⟨b, off + k * 4 + 2, none⟩ = some (.int .i64 t.lo) ∧ u.cell? ⟨b, off + k * 4 + 3, none⟩ = some (.bool t.ov)) ∧ (u.cell? ⟨b', off' + k * 4, none⟩ = some (.int .i64 t.tp) ∧ u.cell? ⟨b', off' + k * 4 + 1, none⟩ = some (.int .i64 t.id) ∧ u.cell? ⟨b', off' + k * 4 + 2, none⟩ = some (.int .i64 t.lo) ∧ u.cell? ⟨b', off' + k * 4 + 3, none⟩ = some (.bool t.ov))) (by kernel_rfl) ⟨⟨cellG c0, cellG c1, cellG c2, cellG c3⟩, ⟨cellG d0, cellG d1, cellG d2, cellG d3⟩⟩ (fun hHeld => ?_)
      refine wpAnyH_take (i := 0) (v := ?_) rfl (by kernel_rfl) (by kernel_rfl) (by kernel_rfl) (fun _ _ _ h => h) (Or.inl ⟨by rfl, ?_⟩) (by assumption) ?_
      case refine_2 => (intro w hSw; (try dsimp only at hSw); obtain ⟨⟨s0, s1, s2, s3⟩, s4, s5, s6, s7⟩ := hSw; go_simp; try with_reducible rfl)
      simp only [Act.put, List.getElem_toArray, List.getElem_cons_zero, List.setIfInBounds_toArray, List.set_cons_zero, List.set_cons_succ]
      refine wpAnyH_take (i := 1) (v := ?_) rfl (by kernel_rfl) (by kernel_rfl) (by kernel_rfl) (fun _ _ _ h => h) (Or.inl ⟨by rfl, ?_⟩) (by assumption) ?_
      case refine_2 => (intro w hSw; (try dsimp only at hSw); obtain ⟨⟨s0, s1, s2, s3⟩, s4, s5, s6, s7⟩ := hSw; go_simp; try with_reducible rfl)
      simp only [Act.put, zGA, zG0, zGC, zSA, zS0, zSC]
      refine wpAnyH_take (i := 2) (v := ?_) rfl (by kernel_rfl) (by kernel_rfl) (by kernel_rfl) (fun _ _ _ h => h) (Or.inl ⟨by rfl, ?_⟩) (by assumption) ?_
      case refine_2 => (intro w hSw; (try dsimp only at hSw); obtain ⟨⟨s0, s1, s2, s3⟩, s4, s5, s6, s7⟩ := hSw; go_simp; try with_reducible rfl)
      simp only [Act.put, zGA, zG0, zGC, zSA, zS0, zSC]
      refine wpAnyH_take (i := 3) (v := ?_) rfl (by kernel_rfl) (by kernel_rfl) (by kernel_rfl) (fun _ _ _ h => h) (Or.inl ⟨by rfl, ?_⟩) (by assumption) ?_
      case refine_2 => (intro w hSw; (try dsimp only at hSw); obtain ⟨⟨s0, s1, s2, s3⟩, s4, s5, s6, s7⟩ := hSw; go_simp; try with_reducible rfl)
      simp only [Act.put, zGA, zG0, zGC, zSA, zS0, zSC]
      refine wpAnyH_take (i := 4) (v := ?_) rfl (by kernel_rfl) (by kernel_rfl) (by kernel_rfl) (fun _ _ _ h => h) (Or.inl ⟨by rfl, ?_⟩) (by assumption) ?_
      case refine_2 => (intro w hSw; (try dsimp only at hSw); obtain ⟨⟨s0, s1, s2, s3⟩, s4, s5, s6, s7⟩ := hSw; go_simp; try with_reducible rfl)
      simp only [Act.put, zGA, zG0, zGC, zSA, zS0, zSC]
      refine wpAnyH_take (i := 5) (v := ?_) rfl (by kernel_rfl) (by kernel_rfl) (by kernel_rfl) (fun _ _ _ h => h) (Or.inl ⟨by rfl, ?_⟩) (by assumption) ?_
      case refine_2 => (intro w hSw; (try dsimp only at hSw); obtain ⟨⟨s0, s1, s2, s3⟩, s4, s5, s6, s7⟩ := hSw; go_simp; try with_reducible rfl)
      simp only [Act.put, zGA, zG0, zGC, zSA, zS0, zSC]
      refine wpAnyH_take (i := 6) (v := ?_) rfl (by kernel_rfl) (by kernel_rfl) (by kernel_rfl) (fun _ _ _ h => h) (Or.inl ⟨by rfl, ?_⟩) (by assumption) ?_
      case refine_2 => (intro w hSw; (try dsimp only at hSw); obtain ⟨⟨s0, s1, s2, s3⟩, s4, s5, s6, s7⟩ := hSw; go_simp; try with_reducible rfl)
      simp only [Act.put, zGA, zG0, zGC, zSA, zS0, zSC]
      refine wpAnyH_take (i := 7) (v := ?_) rfl (by kernel_rfl) (by kernel_rfl) (by kernel_rfl) (fun _ _ _ h => h) (Or.inl ⟨by rfl, ?_⟩) (by assumption) ?_
      case refine_2 => (intro w hSw; (try dsimp only at hSw); obtain ⟨⟨s0, s1, s2, s3⟩, s4, s5, s6, s7⟩ := hSw; go_simp; try with_reducible rfl)
      simp only [Act.put, zGA, zG0, zGC, zSA, zS0, zSC]
      refine wpAnyH_ready (rs := [8]) (by kernel_rfl) (by simp) ?_
      refine AllReadyH.cons rfl (fun K hK => ?_) AllReadyH.nil
      go_simp
      refine (HC.out _).mono ?_
      rintro e w1 ⟨rfl, hb1⟩
      go_wp2_with fail
      have hbd : Below wr.heap.size wr wr.drew := (Below.refl _ _).drew
      have hH1 : (fun u : World => (u.cell? ⟨b, off + k * 4, none⟩ = some (.int .i64 t.tp) ∧ u.cell? ⟨b, off + k * 4 + 1, none⟩ = some (.int .i64 t.id) ∧ u.cell? ⟨b, off + k * 4 + 2, none⟩ = some (.int .i64 t.lo) ∧ u.cell? ⟨b, off + k * 4 + 3, none⟩ = some (.bool t.ov)) ∧ (u.cell? ⟨b', off' + k * 4, none⟩ = some (.int .i64 t.tp) ∧ u.cell? ⟨b', off' + k * 4 + 1, none⟩ = some (.int .i64 t.id) ∧ u.cell? ⟨b', off' + k * 4 + 2, none⟩ = some (.int .i64 t.lo) ∧ u.cell? ⟨b', off' + k * 4 + 3, none⟩ = some (.bool t.ov))) w1 := ⟨⟨cellB hHeld.1.1 hb1, cellB hHeld.1.2.1 hb1, cellB hHeld.1.2.2.1 hb1, cellB hHeld.1.2.2.2 hb1⟩, ⟨cellB hHeld.2.1 hb1, cellB hHeld.2.2.1 hb1, cellB hHeld.2.2.2.1 hb1, cellB hHeld.2.2.2.2 hb1⟩⟩
      have HB1 := hidOf (bl_trans (bl_trans HB.out hbd) hb1)
      refine hK.out _ _ hH1 (fun hHeld => ?_)
      clear hK K
      refine wpAnyH_take (i := 9) (v := ?_) rfl (by kernel_rfl) (by kernel_rfl) (by kernel_rfl) (fun _ _ _ h => h) (Or.inl ⟨by rfl, ?_⟩) (by assumption) ?_
      case refine_2 => (intro w hSw; (try dsimp only at hSw); obtain ⟨⟨s0, s1, s2, s3⟩, s4, s5, s6, s7⟩ := hSw; go_simp; try with_reducible rfl)
      simp only [Act.put, zGA, zG0, zGC, zSA, zS0, zSC]
      refine wpAnyH_done (by kernel_rfl) ?_ _
      refine NoPanic.normal ?_
      clear hH1 hHeld hb1 hbd HC HB c0 c1 c2 c3 d0 d1 d2 d3
      go_wp2_with fail
      go_roundw
      case rel => exact ⟨k + 1, hlt, by go_num, HB1.out⟩
      case measure => simp [intOf]; omega
    · obtain rfl : k = n := by omega
      go_wp2
      go_ret
      exact ⟨rfl, hB⟩
theorem eqMerge_same (a a' : Option Addr) (n cap cap' : Nat) (ls : List Lg) (io mv : Int) (w : World) (hI : LegAt w a n ls) (hJ : LegAt w a' n ls) (hn : n ≤ 2097152) :
    Calls Tryz.prog 11 #[.agg #[.slice a n cap, .int .i64 io, .int .i64 mv], .agg #[.slice a' n cap', .int .i64 io, .int .i64 mv]] w fun e w' => e = .returned (.bool true) ∧ Below w.heap.size w w' := by
  obtain ⟨W0, hW0⟩ : ∃ W, W = (w.alloc (.cells #[.slice a n cap, .int .i64 io, .int .i64 mv] 33)).alloc (.cells #[.slice a' n cap', .int .i64 io, .int .i64 mv] 33) := ⟨_, rfl⟩
  have b0 : Below w.heap.size w W0 := by rw [hW0]; exact bl_alloc (bl_alloc (Below.refl _ _) _) _
  have A0 : BoxL w.heap.size [.slice a n cap, .int .i64 io, .int .i64 mv] W0 := by rw [hW0]; exact (BoxL.new w [.slice a n cap, .int .i64 io, .int .i64 mv] _).alloc _
  have A1 : BoxL (w.heap.size + 1) [.slice a' n cap', .int .i64 io, .int .i64 mv] W0 := by
    rw [hW0]
    simpa using BoxL.new (w.alloc (.cells #[.slice a n cap, .int .i64 io, .int .i64 mv] 33)) [.slice a' n cap', .int .i64 io, .int .i64 mv] 33
  have HC := hidOf (eqLegS_same a a' n cap cap' ls W0 (hI.keep b0) (hJ.keep b0) hn)
  have p0 := A0.cs 0 (by simp)
  have q0 := A1.cs 0 (by simp)
  simp only [List.getElem_cons_zero] at p0 q0
  clear hI hJ
  go_enter Tryz.func11, Tryz.ntmps11
  go_upto_region 1 with fail
  rw [← hW0]
  clear hW0
  go_wp2_with fail
  refine (HC.out).mono ?_
  rintro e w1 ⟨rfl, hb1⟩
  have a0 := A0.keep hb1
  have a1 := A1.keep hb1
  have HB := hidOf (bl_trans b0 hb1)
  have p1 := a0.cs 1 (by simp)
  have p2 := a0.cs 2 (by simp)
  have q1 := a1.cs 1 (by simp)
  have q2 := a1.cs 2 (by simp)
  simp only [List.getElem_cons_zero, List.getElem_cons_succ] at p1 p2 q1 q2
  clear p0 q0 a0 a1 A0 A1 b0 hb1 HC
  go_wp2_with fail
  all_goals go_ret
  all_goals exact ⟨rfl, HB.out⟩
end Go.Proofs.YtffpecdjfcgadaaGreatDoor
