/-
  Walks of functions that only read a list of numbers.
  Walks of functions that make a list of numbers, or write into one.
  Walks of the specification's lines.
  Walks of the specification's lines: copies, and what joins or leaves.
  Walks of the specification's lines: a copy of a list.
  Walks of the specification's lines: a list without one, who joins, who leaves.
  Who waits and who was told: what is asked of them; where two lists lie.
  Walks of the laws' own helpers: what is weighed, and what a marking of two lists leaves alone.
-/
import Derived.Test.YtllpcbdecibloaaRows
import Derived.Test.YtllpcbdecibloaaZFnChanges1
import Derived.WalkSpells
import Derived.WalkLawsBesides
import Derived.Deep.QuietTactic
import Derived.BigQuiet
import Derived.Laws.MakeOwn
namespace Go.Proofs.Ytllpcbdecibloaa
open Go.RowKit Pl Il

theorem hidOf {p : Prop} (h : p) : Hid p := h
/-- Does x stand in the list? -/
def hasL (xs : List Int) (x : Int) : Bool := xs.contains x
/-- The first place of x, or -1. -/
def placeL (xs : List Int) (x : Int) : Int := match xs.findIdx? (· == x) with | some i => (i : Int) | none => -1
def eqL (xs ys : List Int) : Bool := decide (xs = ys)
def clientL (x : Int) : Bool := decide (0 ≤ x) && decide (x ≤ 63)
/-- k, k + 1 and so on, n of them. -/
def marks (k : Int) (n : Nat) : List Int := (List.range n).map fun (i : Nat) => k + (i : Int)

theorem has_step {xs : List Int} {k : Nat} {x : Int} (hk : k < xs.length) (h : hasL (xs.take k) x = false) (hne : (xs.getD k 0 == x) = false) : hasL (xs.take (k + 1)) x = false := by
  rw [List.take_succ_eq_append_getElem hk]
  have e : xs.getD k 0 = xs[k] := by simp [List.getD, List.getElem?_eq_getElem hk]
  rw [e] at hne
  simp only [hasL, List.contains_eq_mem, List.mem_append, List.mem_singleton, decide_eq_false_iff_not] at h ⊢
  rintro (m | m)
  · exact h m
  · rw [m] at hne; simp at hne
theorem has_hit {xs : List Int} {k : Nat} {x : Int} (hk : k < xs.length) (he : (xs.getD k 0 == x) = true) : hasL xs x = true := by
  have e : xs.getD k 0 = xs[k] := by simp [List.getD, List.getElem?_eq_getElem hk]
  rw [e] at he
  have : xs[k] = x := by simpa using he
  rw [← this]; simp [hasL]
theorem has_end {xs : List Int} {k : Nat} {x : Int} (hk : xs.length ≤ k) (h : hasL (xs.take k) x = false) : hasL xs x = false := by rwa [List.take_of_length_le hk] at h
theorem bl_drewN {w w' : World} (h : Below w.heap.size w w') (n : Nat) : Below w.heap.size w (w'.drewN n) := ⟨h.os, h.tape, h.output, h.size, h.block⟩
theorem rbool {a b : Bool} (h : a = b) : Ending.returned (.bool a) = .returned (.bool b) := by rw [h]

theorem l2Has_any (a : Option Addr) (n cap : Nat) (xs : List Int) (x : Int) (w : World) (hI : IntsAt w a n xs) (hn : n ≤ 2097152) :
    Calls Try.prog 70 #[.slice a n cap, .int .i64 x] w fun e w' => e = .returned (.bool (hasL xs x)) ∧ w' = w := by
  obtain ⟨hlen, rfl | ⟨b, off, rfl, hb, hcell⟩⟩ := hI
  · have : xs = [] := List.length_eq_zero_iff.1 hlen
    subst this
    go_enter Try.func70, Try.ntmps70
    go_wp2
    go_loop [5] (fun i => i = .int .i64 0) (fun _ => 0)
    case atStart => rfl
    case round =>
      subst hrel
      go_wp2
      go_ret
      exact ⟨rfl, rfl⟩
  · go_enter Try.func70, Try.ntmps70
    go_wp2
    go_loop [5] (fun i => ∃ k : Nat, k ≤ n ∧ i = .int .i64 k ∧ hasL (xs.take k) x = false) (fun i => n - (intOf i).toNat)
    case atStart => exact ⟨0, Nat.zero_le _, rfl, by simp [hasL]⟩
    case round =>
      obtain ⟨k, hk, rfl, hno⟩ := hrel
      have Hno : Hid _ := hno
      clear hno
      by_cases hlt : k < n
      · have hc := hcell k hlt
        generalize hy : xs.getD k 0 = y at hc
        have HY : Hid _ := hy
        clear hy hcell
        cases hxy : (y == x)
        · go_wp2
          go_round
          case rel => exact ⟨k + 1, by omega, by go_num, has_step (by omega) Hno.out (by rw [HY.out]; exact hxy)⟩
          case measure => simp [intOf]; omega
        · go_wp2
          go_ret
          exact ⟨rbool (has_hit (k := k) (by omega) (by rw [HY.out]; exact hxy)).symm, rfl⟩
      · clear hcell
        go_wp2
        go_ret
        exact ⟨rbool (has_end (by omega) Hno.out).symm, rfl⟩

theorem place_hit {xs : List Int} {k : Nat} {x : Int} (hk : k < xs.length) (h : hasL (xs.take k) x = false) (he : (xs.getD k 0 == x) = true) : (k : Int) = placeL xs x := by
  have e : xs.getD k 0 = xs[k] := by simp [List.getD, List.getElem?_eq_getElem hk]
  rw [e] at he
  have hf : xs.findIdx? (· == x) = some k := by
    rw [List.findIdx?_eq_some_iff_getElem]
    refine ⟨hk, he, fun j hj => ?_⟩
    intro hjx
    have hm : xs[j]'(by omega) ∈ xs.take k := by
      rw [List.mem_take_iff_getElem]
      exact ⟨j, by omega, rfl⟩
    have : xs[j]'(by omega) = x := by simpa using hjx
    rw [this] at hm
    simp [hasL] at h
    exact h hm
  simp [placeL, hf]
theorem place_none {xs : List Int} {k : Nat} {x : Int} (hk : xs.length ≤ k) (h : hasL (xs.take k) x = false) : (-1 : Int) = placeL xs x := by
  have h' := has_end hk h
  have hf : xs.findIdx? (· == x) = none := by
    rw [List.findIdx?_eq_none_iff]
    intro y hy
    simp [hasL] at h'
    cases hyx : (y == x)
    · rfl
    · have : y = x := by simpa using hyx
      subst this; exact absurd hy h'
  simp [placeL, hf]
theorem rint {a b : Int} (h : a = b) : Ending.returned (.int .i64 a) = .returned (.int .i64 b) := by rw [h]

theorem specPlace_any (a : Option Addr) (n cap : Nat) (xs : List Int) (x : Int) (w : World) (hI : IntsAt w a n xs) (hn : n ≤ 2097152) :
    Calls Try.prog 37 #[.slice a n cap, .int .i64 x] w fun e w' => e = .returned (.int .i64 (placeL xs x)) ∧ w' = w := by
  obtain ⟨hlen, rfl | ⟨b, off, rfl, hb, hcell⟩⟩ := hI
  · have : xs = [] := List.length_eq_zero_iff.1 hlen
    subst this
    go_enter Try.func37, Try.ntmps37
    go_wp2
    go_loop [5] (fun i => i = .int .i64 0) (fun _ => 0)
    case atStart => rfl
    case round =>
      subst hrel
      go_wp2
      go_ret
      exact ⟨rfl, rfl⟩
  · go_enter Try.func37, Try.ntmps37
    go_wp2
    go_loop [5] (fun i => ∃ k : Nat, k ≤ n ∧ i = .int .i64 k ∧ hasL (xs.take k) x = false) (fun i => n - (intOf i).toNat)
    case atStart => exact ⟨0, Nat.zero_le _, rfl, by simp [hasL]⟩
    case round =>
      obtain ⟨k, hk, rfl, hno⟩ := hrel
      have Hno : Hid _ := hno
      clear hno
      by_cases hlt : k < n
      · have hc := hcell k hlt
        generalize hy : xs.getD k 0 = y at hc
        have HY : Hid _ := hy
        clear hy hcell
        cases hxy : (y == x)
        · go_wp2
          go_round
          case rel => exact ⟨k + 1, by omega, by go_num, has_step (by omega) Hno.out (by rw [HY.out]; exact hxy)⟩
          case measure => simp [intOf]; omega
        · go_wp2
          go_ret
          exact ⟨rint (place_hit (by omega) Hno.out (by rw [HY.out]; exact hxy)), rfl⟩
      · clear hcell
        go_wp2
        go_ret
        exact ⟨rint (place_none (by omega) Hno.out), rfl⟩

theorem eq_step {xs ys : List Int} {k : Nat} (hk : k < xs.length) (hk' : k < ys.length) (h : xs.take k = ys.take k) (he : (xs.getD k 0 != ys.getD k 0) = false) : xs.take (k + 1) = ys.take (k + 1) := by
  rw [List.take_succ_eq_append_getElem hk, List.take_succ_eq_append_getElem hk', h]
  have e : xs.getD k 0 = xs[k] := by simp [List.getD, List.getElem?_eq_getElem hk]
  have e' : ys.getD k 0 = ys[k] := by simp [List.getD, List.getElem?_eq_getElem hk']
  rw [e, e'] at he
  have : xs[k] = ys[k] := by simpa using he
  rw [this]
theorem eq_no {xs ys : List Int} {k : Nat} (he : (xs.getD k 0 != ys.getD k 0) = true) : eqL xs ys = false := by
  unfold eqL
  rw [decide_eq_false_iff_not]
  rintro rfl
  simp at he
theorem eq_len {xs ys : List Int} (hl : ¬ xs.length = ys.length) : eqL xs ys = false := by
  unfold eqL
  rw [decide_eq_false_iff_not]
  rintro rfl
  exact hl rfl
theorem eq_end {xs ys : List Int} {k : Nat} (hl : xs.length = ys.length) (hk : xs.length ≤ k) (h : xs.take k = ys.take k) : eqL xs ys = true := by
  rw [List.take_of_length_le hk, List.take_of_length_le (by omega)] at h
  simp [eqL, h]

theorem eqIntS_any (a a' : Option Addr) (n n' cap cap' : Nat) (xs ys : List Int) (w : World) (hI : IntsAt w a n xs) (hJ : IntsAt w a' n' ys) (hn : n ≤ 2097152) (hn' : n' ≤ 2097152) :
    Calls Try.prog 80 #[.slice a n cap, .slice a' n' cap'] w fun e w' => e = .returned (.bool (eqL xs ys)) ∧ Below w.heap.size w w' := by
  by_cases hl : n = n'
  · subst hl
    obtain ⟨hlen, rfl | ⟨b, off, rfl, hb, hcell⟩⟩ := hI
    · have : xs = [] := List.length_eq_zero_iff.1 hlen
      have e2 : ys = [] := List.length_eq_zero_iff.1 hJ.len
      subst this e2
      go_enter Try.func80, Try.ntmps80
      go_wp2
      go_loop [5] (fun i => i = .int .i64 0) (fun _ => 0)
      case atStart => rfl
      case round =>
        subst hrel
        go_wp2
        go_ret
        exact ⟨rfl, Below.refl _ _⟩
    · obtain ⟨hlen', rfl | ⟨b', off', rfl, hb', hcell'⟩⟩ := hJ
      · have : xs = [] := List.length_eq_zero_iff.1 hlen
        have e2 : ys = [] := List.length_eq_zero_iff.1 hlen'
        subst this e2
        go_enter Try.func80, Try.ntmps80
        go_wp2
        go_loop [5] (fun i => i = .int .i64 0) (fun _ => 0)
        case atStart => rfl
        case round =>
          subst hrel
          go_wp2
          go_ret
          exact ⟨rfl, Below.refl _ _⟩
      · go_enter Try.func80, Try.ntmps80
        go_wp2
        go_loopw [5] (fun i wr => ∃ k : Nat, k ≤ n ∧ i = .int .i64 k ∧ xs.take k = ys.take k ∧ ∃ q, wr = w.drewN q) (fun i _ => n - (intOf i).toNat)
        case atStart => exact ⟨0, Nat.zero_le _, rfl, rfl, 0, rfl⟩
        case round =>
          obtain ⟨k, hk, rfl, hno, q, rfl⟩ := hrel
          have Hno : Hid _ := hno
          clear hno
          by_cases hlt : k < n
          · have hc := hcell k hlt
            have hc' := hcell' k hlt
            generalize hy : xs.getD k 0 = y at hc
            generalize hz : ys.getD k 0 = z at hc'
            have HY : Hid _ := hy
            have HZ : Hid _ := hz
            clear hy hz hcell hcell'
            have hki : (k : Int) < (n : Int) := by omega
            cases hyz : (y != z)
            · go_wp2
              go_quiet (fail)
              go_wp2
              go_roundw
              case rel => exact ⟨k + 1, by omega, by go_num, eq_step (by omega) (by omega) Hno.out (by rw [HY.out, HZ.out]; exact hyz), _, rfl⟩
              case measure => simp [intOf]; omega
            · go_wp2
              go_quiet (fail)
              go_wp2
              go_ret
              exact ⟨rbool (eq_no (k := k) (by rw [HY.out, HZ.out]; exact hyz)).symm, bl_drewN (bl_drewN (Below.refl _ _) _) _⟩
          · clear hcell hcell'
            go_wp2
            go_ret
            exact ⟨rbool (eq_end (by omega) (by omega) Hno.out).symm, bl_drewN (Below.refl _ _) _⟩
  · have hne : ((n : Int) != (n' : Int)) = true := by simp; omega
    have hq := eq_len (xs := xs) (ys := ys) (by rw [hI.len, hJ.len]; exact hl)
    clear hI hJ
    go_enter Try.func80, Try.ntmps80
    go_wp2
    go_ret
    exact ⟨rbool hq.symm, Below.refl _ _⟩
end Go.Proofs.Ytllpcbdecibloaa
namespace Go.Proofs.Ytllpcbdecibloaa
open Go.RowKit Pl Il

theorem info3 : (Try.prog.info? 3).map (fun i => (i.zero, i.size, i.bytes)) = some (some (.int .i64 0), 1, 8) := by kernel_rfl

/-- A new row in block g: its first k places hold xs's. -/
structure Filling (w : World) (g n : Nat) (xs : List Int) (k : Nat) (wr : World) : Prop where
  below : Below w.heap.size w wr
  ge : w.heap.size ≤ g
  lt : g < wr.heap.size
  cells : ∀ j, j < n → ∃ v, wr.cell? ⟨g, j, none⟩ = some v ∧ (j < k → v = .int .i64 (xs.getD j 0))
  fr : ∀ j, wr.frozen? ⟨g, j, none⟩ = false
theorem Filling.step {w : World} {g n : Nat} {xs : List Int} {k : Nat} {wr : World} (h : Filling w g n xs k wr) (x : Int) (hx : xs.getD k 0 = x) : Filling w g n xs (k + 1) (wr.setCell ⟨g, k, none⟩ (.int .i64 x)) where
  below := h.below.setCell (p := ⟨g, k, none⟩) h.ge _
  ge := h.ge
  lt := by simpa using h.lt
  cells := fun j hj => by
    obtain ⟨v, hv, hk⟩ := h.cells j hj
    by_cases e : j = k
    · subst e
      exact ⟨_, World.cell?_setCell_same _ _ _ hv, fun _ => by rw [hx]⟩
    · refine ⟨v, ?_, fun hlt => hk (by omega)⟩
      rw [World.cell?_setCell_other _ _ _ _ (by intro e'; cases e'; exact e rfl)]; exact hv
  fr := fun j => by simpa using h.fr j
theorem Filling.own {w : World} {g n : Nat} {xs : List Int} {wr : World} (h : Filling w g n xs n wr) (hl : xs.length = n) : OwnAt w.heap.size wr (some ⟨g, 0, none⟩) n xs :=
  ⟨⟨hl, .inr ⟨g, 0, rfl, h.lt, fun i hi => by obtain ⟨v, hv, hk⟩ := h.cells i hi; rw [Nat.zero_add, hv, hk hi]⟩⟩, .inr ⟨g, 0, rfl, h.ge, fun i _ => by rw [Nat.zero_add]; exact h.fr i⟩⟩
theorem Filling.start (w : World) (n : Nat) (xs : List Int) (t : TypeId) : Filling w w.heap.size n xs 0 (w.alloc (.cells (madeCells (Value.int .i64 0).cells n) t)) where
  below := bl_alloc (Below.refl _ _) _
  ge := Nat.le_refl _
  lt := by simp
  cells := fun j hj => by
    rw [World.cell?_alloc_new]
    exact ⟨(madeCells (Value.int .i64 0).cells n)[j]'(by rw [size_madeCells]; exact hj), by rw [Array.getElem?_eq_getElem], fun h => by omega⟩
  fr := fun j => by simp [go_sem]

theorem make_ints (n : Nat) (hn : n ≤ 2097152) (w : World) : (Instr.makeSlice 35 (.int .i64 (n : Int)) (.int .i64 (n : Int))).run Try.prog w = .ok (.slice (some ⟨w.heap.size, 0, none⟩) n n) (w.alloc (.cells (madeCells (Value.int .i64 0).cells n) 3)) := by
  obtain ⟨i, hi, hz0, hz1, hz2⟩ := info_parts info3
  have := run_make (P := Try.prog) w 35 3 i (.int .i64 0) Try.underlying35 hi hz0 .i64 .i64 (n : Int) (n : Int) (by omega) (by omega) (by rw [hz2]; omega) (by omega)
  rw [hz1] at this
  simpa using this

theorem toIntS_any (a : Option Addr) (n cap : Nat) (xs : List Int) (w : World) (hI : IntsAt w a n xs) (hn : n ≤ 2097152) :
    Calls Try.prog 73 #[.slice a n cap] w fun e w' => e = .returned (.slice (some ⟨w.heap.size, 0, none⟩) n n) ∧ OwnAt w.heap.size w' (some ⟨w.heap.size, 0, none⟩) n xs ∧ Below w.heap.size w w' := by
  have hmk := make_ints n hn
  have hS := Filling.start w n xs 3
  obtain ⟨hlen, rfl | ⟨b, off, rfl, hb, hcell⟩⟩ := hI
  · have hx : xs = [] := List.length_eq_zero_iff.1 hlen
    subst hx
    have hmk0 : ∀ w : World, (Instr.makeSlice 35 (.int .i64 0) (.int .i64 0)).run Try.prog w = .ok (.slice (some ⟨w.heap.size, 0, none⟩) 0 0) (w.alloc (.cells (madeCells (Value.int .i64 0).cells 0) 3)) := fun w => make_ints 0 (by omega) w
    clear hmk
    have hmk := hmk0
    clear hmk0
    go_enter Try.func73, Try.ntmps73
    go_wp2
    go_loopw [4] (fun i wr => i = .int .i64 0 ∧ Filling w w.heap.size 0 [] 0 wr) (fun _ _ => 0)
    case atStart => exact ⟨rfl, hS⟩
    case round =>
      obtain ⟨rfl, hF⟩ := hrel
      clear hS hmk
      go_wp2
      go_ret
      exact ⟨rfl, hF.own rfl, hF.below⟩
  · go_enter Try.func73, Try.ntmps73
    go_wp2
    go_loopw [4] (fun i wr => ∃ k : Nat, k ≤ n ∧ i = .int .i64 k ∧ Filling w w.heap.size n xs k wr) (fun i _ => n - (intOf i).toNat)
    case atStart => exact ⟨0, Nat.zero_le _, rfl, hS⟩
    case round =>
      rename_i wr
      obtain ⟨k, hk, rfl, hF⟩ := hrel
      clear hS hmk
      by_cases hlt : k < n
      · have hc : wr.cell? ⟨b, off + k, none⟩ = some (.int .i64 (xs.getD k 0)) := by rw [hF.below.cell (p := ⟨b, off + k, none⟩) hb]; exact hcell k hlt
        generalize hy : xs.getD k 0 = y at hc
        obtain ⟨v, hv, _⟩ := hF.cells k hlt
        have hfr := hF.fr k
        have hN := hF.step y hy
        have HF : Hid _ := hN
        clear hy hcell hF hN
        go_wp2
        go_roundw
        case rel => exact ⟨k + 1, by omega, by go_num, HF.out⟩
        case measure => simp [intOf]; omega
      · obtain rfl : k = n := by omega
        clear hcell
        go_wp2
        go_ret
        exact ⟨rfl, hF.own hlen, hF.below⟩

theorem marks_get {k : Int} {n j : Nat} (h : j < n) : (marks k n).getD j 0 = k + (j : Int) := by
  simp [marks, List.getD, List.getElem?_map, List.getElem?_range h]
theorem marks_len (k : Int) (n : Nat) : (marks k n).length = n := by simp [marks]

/-- Marks are written into a row, place by place. -/
structure Marking (w : World) (b off n : Nat) (k : Int) (m : Nat) (wr : World) : Prop where
  ex : w.grownBy wr (some b)
  lt : b < wr.heap.size
  cells : ∀ j, j < n → ∃ v, wr.cell? ⟨b, off + j, none⟩ = some v ∧ (j < m → v = .int .i64 (k + (j : Int)))
  fr : ∀ j, j < n → wr.frozen? ⟨b, off + j, none⟩ = false
theorem Marking.step {w : World} {b off n : Nat} {k : Int} {m : Nat} {wr : World} (h : Marking w b off n k m wr) : Marking w b off n k (m + 1) (wr.setCell ⟨b, off + m, none⟩ (.int .i64 (k + (m : Int)))) where
  ex := by
    refine ⟨h.ex.os, h.ex.tape, h.ex.output, by simpa using h.ex.size, fun i hi hn => ?_⟩
    rw [Below.heap_setCell wr ⟨b, off + m, none⟩ _ i (by rintro rfl; exact hn rfl)]
    exact h.ex.block i hi hn
  lt := by simpa using h.lt
  cells := fun j hj => by
    obtain ⟨v, hv, hk⟩ := h.cells j hj
    by_cases e : j = m
    · subst e
      exact ⟨_, World.cell?_setCell_same _ _ _ hv, fun _ => rfl⟩
    · refine ⟨v, ?_, fun hlt => hk (by omega)⟩
      rw [World.cell?_setCell_other _ _ _ _ (by intro e'; injection e' with _ e2; omega)]; exact hv
  fr := fun j hj => by simpa using h.fr j hj


end Go.Proofs.Ytllpcbdecibloaa
namespace Go.Proofs.Ytllpcbdecibloaa
open Go.RowKit Pl Il

/-- The first k clients of a line: each a client, none twice. -/
def lineTo (xs : List Int) (k : Nat) : Bool := (List.range k).all fun i => clientL (xs.getD i 0) && !hasL (xs.take i) (xs.getD i 0)
/-- A right line. -/
def lineL (xs : List Int) : Bool := decide (xs.length ≤ 32) && lineTo xs xs.length
theorem lineTo_zero (xs : List Int) : lineTo xs 0 = true := by simp [lineTo]
theorem lineTo_step {xs : List Int} {k : Nat} {y : Int} (h : lineTo xs k = true) (hy : xs.getD k 0 = y) (hc : clientL y = true) (hh : hasL (xs.take k) y = false) : lineTo xs (k + 1) = true := by
  simp only [lineTo, List.range_succ, List.all_append, List.all_cons, List.all_nil, Bool.and_true, Bool.and_eq_true] at h ⊢
  exact ⟨h, by rw [hy]; exact hc, by rw [hy, hh]; rfl⟩
theorem line_bad {xs : List Int} {k : Nat} {y : Int} (hk : k < xs.length) (hy : xs.getD k 0 = y) (h : clientL y = false ∨ hasL (xs.take k) y = true) : lineL xs = false := by
  have : lineTo xs xs.length = false := by
    unfold lineTo
    rw [List.all_eq_false]
    refine ⟨k, List.mem_range.2 hk, ?_⟩
    rw [hy]
    rcases h with h | h <;> simp [h]
  simp [lineL, this]
theorem line_long {xs : List Int} (h : ¬ xs.length ≤ 32) : lineL xs = false := by simp [lineL, h]
theorem line_end {xs : List Int} (h : xs.length ≤ 32) (ht : lineTo xs xs.length = true) : lineL xs = true := by simp [lineL, h, ht]

theorem in_any (n a b : Int) (w : World) :
    Calls Try.prog 51 #[.int .i64 n, .int .i64 a, .int .i64 b] w fun e w' => e = .returned (.bool (decide (a ≤ n) && decide (n ≤ b))) ∧ w' = w := by
  go_enter Try.func51, Try.ntmps51
  go_wp2
  all_goals go_ret
  all_goals (refine ⟨rbool ?_, rfl⟩; simp; try omega)
theorem client_any (x : Int) (w : World) :
    Calls Try.prog 85 #[.int .i64 x] w fun e w' => e = .returned (.bool (clientL x)) ∧ w' = w := by
  go_enter Try.func85, Try.ntmps85
  go_wp2_with fail
  refine (in_any x _ _ _).mono ?_
  rintro e w1 ⟨rfl, rfl⟩
  go_wp2
  go_ret
  exact ⟨rfl, rfl⟩

theorem specLineOk_any (a : Option Addr) (n cap : Nat) (xs : List Int) (w : World) (hI : IntsAt w a n xs) (hn : n ≤ 2097152) (hcap : n ≤ cap) :
    Calls Try.prog 84 #[.slice a n cap] w fun e w' => e = .returned (.bool (lineL xs)) ∧ Below w.heap.size w w' := by
  by_cases h32 : n ≤ 32
  · have h32' : ¬ 32 < (n : Int) := by omega
    obtain ⟨hlen, rfl | ⟨b, off, rfl, hb, hcell⟩⟩ := id hI
    · have hx : xs = [] := List.length_eq_zero_iff.1 hlen
      subst hx
      go_enter Try.func84, Try.ntmps84
      go_wp2
      go_loop [3] (fun i => i = .int .i64 0) (fun _ => 0)
      case atStart => rfl
      case round =>
        subst hrel
        go_wp2
        go_ret
        exact ⟨rfl, Below.refl _ _⟩
    · go_enter Try.func84, Try.ntmps84
      go_wp2
      go_loopw [3] (fun i wr => ∃ k : Nat, k ≤ n ∧ i = .int .i64 k ∧ lineTo xs k = true ∧ Below w.heap.size w wr) (fun i _ => n - (intOf i).toNat)
      case atStart => exact ⟨0, Nat.zero_le _, rfl, lineTo_zero _, Below.refl _ _⟩
      case round =>
        rename_i wr
        obtain ⟨k, hk, rfl, hto, hbr⟩ := hrel
        have Hto : Hid _ := hto
        clear hto
        by_cases hlt : k < n
        · have hc : wr.cell? ⟨b, off + k, none⟩ = some (.int .i64 (xs.getD k 0)) := by rw [hbr.cell (p := ⟨b, off + k, none⟩) hb]; exact hcell k hlt
          have hT : ∀ q, IntsAt (wr.drewN q) (some ⟨b, off, none⟩) k (xs.take k) := fun q => (hI.take k hk).keep (bl_drewN hbr q)
          have HT : Hid _ := hT
          generalize hy : xs.getD k 0 = y at hc
          have HY : Hid _ := hy
          have hki : (k : Int) < (n : Int) := by omega
          have hkc : (k : Int) ≤ (cap : Int) := by omega
          clear hy hcell hT hI
          cases hcl : clientL y
          · go_wp2
            go_quiet ((first | (go_at_call 85; exact Calls.quiet_of_same (client_any _ _)) | (go_at_call 70; exact Calls.quiet_of_same (l2Has_any _ _ _ _ _ _ (HT.out _) (by omega)))))
            go_wp2
            go_ret
            exact ⟨rbool (line_bad (by omega) HY.out (.inl hcl)).symm, bl_drewN hbr _⟩
          · cases hhs : hasL (xs.take k) y
            · go_wp2
              go_quiet ((first | (go_at_call 85; exact Calls.quiet_of_same (client_any _ _)) | (go_at_call 70; exact Calls.quiet_of_same (l2Has_any _ _ _ _ _ _ (HT.out _) (by omega)))))
              go_wp2
              go_roundw
              case rel => exact ⟨k + 1, by omega, by go_num, lineTo_step Hto.out HY.out hcl hhs, bl_drewN hbr _⟩
              case measure => simp [intOf]; omega
            · go_wp2
              go_quiet ((first | (go_at_call 85; exact Calls.quiet_of_same (client_any _ _)) | (go_at_call 70; exact Calls.quiet_of_same (l2Has_any _ _ _ _ _ _ (HT.out _) (by omega)))))
              go_wp2
              go_ret
              exact ⟨rbool (line_bad (by omega) HY.out (.inr hhs)).symm, bl_drewN hbr _⟩
        · obtain rfl : k = n := by omega
          clear hcell hI
          go_wp2
          go_ret
          exact ⟨rbool (line_end (by omega) (by rw [hlen]; exact Hto.out)).symm, hbr⟩
  · have h32' : 32 < (n : Int) := by omega
    have hq := line_long (xs := xs) (by rw [hI.len]; exact h32)
    clear hI
    go_enter Try.func84, Try.ntmps84
    go_wp2
    go_ret
    exact ⟨rbool hq.symm, Below.refl _ _⟩
end Go.Proofs.Ytllpcbdecibloaa
namespace Go.Proofs.Ytllpcbdecibloaa
open Go.RowKit Pl Il

theorem wpList_append_run {P : Program} {ops : Array Oper} {rest : List Oper} {o : Oper} {a : Act} {Q : Exit → Act → World → Prop} {w w' : World} (hgd : o.guard = none) (s x : Operand) (t : TypeId)
    (ho : o.op = .call { callee := .builtin .append, args := #[s, x], argTypes := #[t, t] }) (v u v' : Value) (hs : a.eval s = v) (hx : a.eval x = u)
    (hr : (Builtin.append_ #[t, t] o.type #[v, u]).run P w = .ok v' w') (h : wpList P ops Q rest (a.put o.dst v') w') : wpList P ops Q (o :: rest) a w :=
  wpList_plain hgd fun _ hK => by
    unfold Oper.wp execOp
    simp only [ho, resolve, invoke, builtin, Sem.run_bind, Sem.run_pure, Result.andThen_ok, List.map_toArray, List.map_cons, List.map_nil, hs, hx, hr]
    exact hK _ _ h

/-- A list that the call has made: its row, whole. -/
abbrev Owns (B : Nat) (w : World) (g n cap : Nat) (xs : List Int) : Prop := w.ownsRow B 3 1 (.slice (some ⟨g, 0, none⟩) n cap) n (xs.map (Value.int .i64))
theorem owns_parts {B : Nat} {w : World} {g n cap : Nat} {xs : List Int} (h : Owns B w g n cap xs) : xs.length = n ∧ B ≤ g ∧ g < w.heap.size ∧ n ≤ cap ∧ cap ≤ maxLen ∧ OwnAt B w (some ⟨g, 0, none⟩) n xs := by
  obtain ⟨a, c, e, ho⟩ := own_of h xs rfl
  cases e
  obtain ⟨hl, ⟨e, _⟩ | ⟨g', c', cur, e, hB, hg, hc, hm, _⟩⟩ := h
  · cases e
  · cases e
    refine ⟨by simpa using hl, hB, ?_, hc, hm, ho⟩
    rcases Nat.lt_or_ge g w.heap.size with k | k
    · exact k
    · rw [Array.getElem?_eq_none k] at hg; cases hg
theorem owns_keep {B : Nat} {w w' : World} {g n cap : Nat} {xs : List Int} (h : Owns B w g n cap xs) (hb : Below w.heap.size w w') : Owns B w' g n cap xs := by
  have hlt := (owns_parts h).2.2.1
  obtain ⟨hl, ⟨e, _⟩ | ⟨g', c', cur, e, hB, hg, hr⟩⟩ := h
  · cases e
  · cases e
    exact ⟨hl, .inr ⟨g, cap, cur, rfl, hB, by rw [hb.block g hlt]; exact hg, hr⟩⟩
theorem owns_mono {B B' : Nat} {w : World} {g n cap : Nat} {xs : List Int} (h : Owns B w g n cap xs) (hB : B' ≤ B) : Owns B' w g n cap xs := by
  obtain ⟨hl, ⟨e, _⟩ | ⟨g', c', cur, e, hB0, hr⟩⟩ := h
  · cases e
  · exact ⟨hl, .inr ⟨g', c', cur, e, Nat.le_trans hB hB0, hr⟩⟩
theorem owns_empty (w : World) : Owns w.heap.size (w.alloc (.cells #[] 3)) w.heap.size 0 0 [] :=
  ⟨rfl, .inr ⟨w.heap.size, 0, #[], rfl, Nat.le_refl _, heap_alloc_new w _, Nat.le_refl _, Nat.zero_le _, rfl, rfl⟩⟩

theorem append_ints2 (B g m c : Nat) (ys : List Int) (a : Option Addr) (n cap : Nat) (xs : List Int) (w : World) (ho : Owns B w g m c ys) (hB : B ≤ w.heap.size) (hI : IntsAt w a n xs) (hs : m + n ≤ 4194304) :
    ∃ (g' c' : Nat) (w' : World), (Builtin.append_ #[35, 35] 35 #[.slice (some ⟨g, 0, none⟩) m c, .slice a n cap]).run Try.prog w = .ok (.slice (some ⟨g', 0, none⟩) (m + n) c') w' ∧
      Owns B w' g' (m + n) c' (ys ++ xs) ∧ w.grownBy w' (some g) ∧ (g' = g ∨ g' = w.heap.size) := by
  obtain ⟨i, hi, hz0, hz1, hz2⟩ := info_parts info3
  have hg0 : w.grownBy w (some g) := ⟨rfl, rfl, rfl, Nat.le_refl _, fun _ _ _ => rfl⟩
  have short : ∀ u : Value, (Builtin.append_ #[35, 35] 35 #[.slice (some ⟨g, 0, none⟩) m c, u]).run Try.prog w = .ok (.slice (some ⟨g, 0, none⟩) m c) w →
      ∃ (g' c' : Nat) (w' : World), (Builtin.append_ #[35, 35] 35 #[.slice (some ⟨g, 0, none⟩) m c, u]).run Try.prog w = .ok (.slice (some ⟨g', 0, none⟩) (m + 0) c') w' ∧ Owns B w' g' (m + 0) c' (ys ++ []) ∧ w.grownBy w' (some g) ∧ (g' = g ∨ g' = w.heap.size) :=
    fun u hu => ⟨g, c, w, hu, by rw [List.append_nil]; exact ho, hg0, .inl rfl⟩
  have hmc := (owns_parts ho).2.2.2.1
  obtain ⟨hlen, rfl | ⟨b, off, rfl, hb, hcell⟩⟩ := hI
  · have hx : xs = [] := List.length_eq_zero_iff.1 hlen
    subst hx
    refine short _ ?_
    rcases a with _ | ad
    · exact run_append_room_src _ _ _ _ 3 i Try.underlying35 hi g 0 m c _ 0 [] (Src.ofNil _ Try.underlying35 cap) (by omega) (fun j hj => by cases hj) (fun j hj => by cases hj)
    · exact run_append_room_src _ _ _ _ 3 i Try.underlying35 hi g 0 m c _ 0 [] (Src.ofSlice _ Try.underlying35 ad 0 cap [] (by simp) (fun j u h => by simp at h) (fun u h => by cases h)) (by omega) (fun j hj => by cases hj) (fun j hj => by cases hj)
  · rcases Nat.eq_zero_or_pos n with h0 | hpos
    · subst h0
      have hx : xs = [] := List.length_eq_zero_iff.1 hlen
      subst hx
      refine short _ ?_
      exact run_append_room_src _ _ _ _ 3 i Try.underlying35 hi g 0 m c _ 0 [] (Src.ofSlice _ Try.underlying35 ⟨b, off, none⟩ 0 cap [] (by simp) (fun j u h => by simp at h) (fun u h => by cases h)) (by omega) (fun j hj => by cases hj) (fun j hj => by cases hj)
    · obtain ⟨g', c', w', hr, hown, hgrow, hat, _⟩ := run_append_lies (P := Try.prog) w 35 35 B 3 i (.int .i64 0) 1 8 Try.underlying35 hi hz0 hz1 hz2 rfl (by omega) _ m _ ho ⟨b, off, none⟩ n cap (xs.map (Value.int .i64)) (by simp [hlen])
        (fun j u h => by
          rw [Addr.add_lit]
          have hj : j < n := by
            have := (List.getElem?_eq_some_iff.1 h).1
            simpa [hlen] using this
          rw [hcell j hj]
          simp only [List.getElem?_map] at h
          rw [List.getElem?_eq_getElem (by omega)] at h
          simp only [Option.map_some, Option.some.injEq] at h
          rw [← h]
          simp [List.getD, List.getElem?_eq_getElem (show j < xs.length by omega)])
        (fun u hu => by obtain ⟨_, _, rfl⟩ := List.mem_map.1 hu; rfl) hpos (by unfold maxLen; omega) (by omega) hB _ rfl
      refine ⟨g', c', w', hr, by rw [← List.map_append] at hown; exact hown, hgrow, ?_⟩
      rcases hat with h | h
      · left; simpa [Value.ownBlock] using h.symm
      · exact .inr h
theorem append_ints (B g m c : Nat) (ys : List Int) (a : Option Addr) (n cap : Nat) (xs : List Int) (w : World) (ho : Owns B w g m c ys) (hB : B ≤ w.heap.size) (hI : IntsAt w a n xs) (hs : m + n ≤ 4194304) :
    ∃ (g' c' : Nat) (w' : World), (Builtin.append_ #[35, 35] 35 #[.slice (some ⟨g, 0, none⟩) m c, .slice a n cap]).run Try.prog w = .ok (.slice (some ⟨g', 0, none⟩) (m + n) c') w' ∧
      Owns B w' g' (m + n) c' (ys ++ xs) ∧ w.grownBy w' (some g) := by
  obtain ⟨g', c', w', h1, h2, h3, _⟩ := append_ints2 B g m c ys a n cap xs w ho hB hI hs
  exact ⟨g', c', w', h1, h2, h3⟩
end Go.Proofs.Ytllpcbdecibloaa
namespace Go.Proofs.Ytllpcbdecibloaa
open Go.RowKit Pl Il

theorem l2Copy_any (a : Option Addr) (n cap : Nat) (xs : List Int) (w : World) (hI : IntsAt w a n xs) (hn : n ≤ 2097152) :
    Calls Try.prog 68 #[.slice a n cap] w fun e w' => ∃ g c, e = .returned (.slice (some ⟨g, 0, none⟩) n c) ∧ Owns w.heap.size w' g n c xs ∧ Below w.heap.size w w' := by
  have hb0 : Below w.heap.size w (w.alloc (.cells #[] 3)) := bl_alloc (Below.refl _ _) _
  obtain ⟨g, c, w', hr, ho, hg⟩ := append_ints w.heap.size w.heap.size 0 0 [] a n cap xs (w.alloc (.cells #[] 3)) (owns_empty w) (by simp) (hI.keep hb0) (by omega)
  rw [Nat.zero_add] at hr ho
  rw [List.nil_append] at ho
  have hb : Below w.heap.size w w' := hb0.grown hg (by simp) (fun k hk => by simp at hk; omega)
  have Hr : Hid _ := hr
  clear hr hg hb0 hI
  go_enter Try.func68, Try.ntmps68
  go_wp2_with (at_builtin; refine wpList_append_run rfl _ _ 35 rfl _ _ _ rfl rfl Hr.out ?_)
  go_ret
  exact ⟨g, c, rfl, ho, hb⟩
end Go.Proofs.Ytllpcbdecibloaa
namespace Go.Proofs.Ytllpcbdecibloaa
open Go.RowKit Pl Il

/-- append of one number to a row that is owned, or nil. -/
theorem append_own1 (B m : Nat) (v : Value) (ys : List Int) (x : Int) (w : World) (ho : w.ownsRow B 3 1 v m (ys.map (Value.int .i64))) (hB : B ≤ w.heap.size) (hs : m + 1 ≤ 4194304) :
    ∃ (g' c' : Nat) (w' : World), (Builtin.append_ #[35, 35] 35 #[v, .slice (some ⟨w.heap.size, 0, none⟩) 1 1]).run Try.prog (w.alloc (.cells #[.int .i64 x] 3)) = .ok (.slice (some ⟨g', 0, none⟩) (m + 1) c') w' ∧
      w'.ownsRow B 3 1 (.slice (some ⟨g', 0, none⟩) (m + 1) c') (m + 1) ((ys ++ [x]).map (Value.int .i64)) ∧ w.grownBy w' v.ownBlock ∧ (v.ownBlock = some g' ∨ w.heap.size ≤ g') := by
  obtain ⟨i, hi, hz0, hz1, hz2⟩ := info_parts info3
  obtain ⟨g', c', w', hr, hown, hgrow, hl, _⟩ := run_append_lies (P := Try.prog) (w.alloc (.cells #[.int .i64 x] 3)) 35 35 B 3 i (.int .i64 0) 1 8 Try.underlying35 hi hz0 hz1 hz2 rfl (by omega) v m _ (ho.alloc _) ⟨w.heap.size, 0, none⟩ 1 1 [.int .i64 x] rfl
    (cell_one_new _ _ _) (fun u hu => by rw [List.mem_singleton] at hu; subst hu; rfl) (by omega) (by unfold maxLen; omega) (by omega) (by simp; omega) _ rfl
  refine ⟨g', c', w', hr, by rw [List.map_append]; exact hown, (World.grownBy_alloc w _ _).trans hgrow, ?_⟩
  rcases hl with h | h
  · exact .inl h
  · right; subst h; simp

theorem append_one (B g m c : Nat) (ys : List Int) (x : Int) (w w0 : World) (hB : B = w0.heap.size) (ho : Owns B w g m c ys) (hb : Below B w0 w) (hs : m + 1 ≤ 4194304) :
    ∃ (g' c' : Nat) (w' : World), (Builtin.append_ #[35, 35] 35 #[.slice (some ⟨g, 0, none⟩) m c, .slice (some ⟨w.heap.size, 0, none⟩) 1 1]).run Try.prog (w.alloc (.cells #[.int .i64 x] 3)) = .ok (.slice (some ⟨g', 0, none⟩) (m + 1) c') w' ∧
      Owns B w' g' (m + 1) c' (ys ++ [x]) ∧ Below B w0 w' := by
  subst hB
  have hb0 : Below w.heap.size w (w.alloc (.cells #[.int .i64 x] 3)) := bl_alloc (Below.refl _ _) _
  have hle := hb.size
  obtain ⟨_, hgB, _⟩ := owns_parts ho
  obtain ⟨g', c', w', hr, ho', hg⟩ := append_ints w0.heap.size g m c ys (some ⟨w.heap.size, 0, none⟩) 1 1 [x] (w.alloc (.cells #[.int .i64 x] 3)) (owns_keep ho hb0) (by simp; omega)
    ⟨rfl, .inr ⟨w.heap.size, 0, rfl, by simp, fun i hi => by obtain rfl : i = 0 := by omega
                                                             simp [World.cell?_alloc_new]⟩⟩ (by omega)
  exact ⟨g', c', w', hr, ho', (bl_alloc hb _).grown hg (by simp; omega) (fun k hk => by simp at hk; omega)⟩

/-- A list without the first that is x. -/
def lessL (xs : List Int) (x : Int) : List Int := xs.erase x
theorem less_nil (x : Int) : lessL [] x = [] := rfl
theorem less_skip {xs : List Int} {k : Nat} {x y : Int} (hk : k < xs.length) (hy : xs.getD k 0 = y) (h : hasL (xs.take k) x = false) (he : (y == x) = true) : lessL (xs.take (k + 1)) x = lessL (xs.take k) x := by
  rw [List.take_succ_eq_append_getElem hk]
  have e : xs.getD k 0 = xs[k] := by simp [List.getD, List.getElem?_eq_getElem hk]
  rw [e] at hy
  have hm : x ∉ xs.take k := by simpa [hasL] using h
  have hyx : y = x := by simpa using he
  unfold lessL
  rw [List.erase_append_right _ hm, hy, hyx, List.erase_of_not_mem hm]
  simp
theorem less_keep {xs : List Int} {k : Nat} {x y : Int} (hk : k < xs.length) (hy : xs.getD k 0 = y) (h : hasL (xs.take k) x = true ∨ (y == x) = false) : lessL (xs.take (k + 1)) x = lessL (xs.take k) x ++ [y] := by
  rw [List.take_succ_eq_append_getElem hk]
  have e : xs.getD k 0 = xs[k] := by simp [List.getD, List.getElem?_eq_getElem hk]
  rw [e] at hy
  unfold lessL
  rw [List.erase_append, hy]
  split
  · rfl
  · rename_i hn
    rcases h with h | h
    · exact absurd (by simpa [hasL] using h) hn
    · rw [List.erase_of_not_mem hn, List.erase_of_not_mem]
      simp only [List.mem_singleton]
      rintro rfl
      simp at h
theorem has_more {xs : List Int} {k : Nat} {x y : Int} (hk : k < xs.length) (hy : xs.getD k 0 = y) : hasL (xs.take (k + 1)) x = (hasL (xs.take k) x || (y == x)) := by
  rw [List.take_succ_eq_append_getElem hk]
  have e : xs.getD k 0 = xs[k] := by simp [List.getD, List.getElem?_eq_getElem hk]
  rw [e] at hy
  rw [Bool.eq_iff_iff]
  simp only [hasL, hy, List.contains_eq_mem, List.mem_append, List.mem_singleton, Bool.or_eq_true, decide_eq_true_eq, beq_iff_eq]
  exact ⟨fun h => h.imp id Eq.symm, fun h => h.imp id Eq.symm⟩
theorem less_len (xs : List Int) (x : Int) : (lessL xs x).length ≤ xs.length := List.length_erase_le

theorem l2Less_any (a : Option Addr) (n cap : Nat) (xs : List Int) (x : Int) (w : World) (hI : IntsAt w a n xs) (hn : n ≤ 2097152) :
    Calls Try.prog 97 #[.slice a n cap, .int .i64 x] w fun e w' => ∃ g m c, e = .returned (.slice (some ⟨g, 0, none⟩) m c) ∧ Owns w.heap.size w' g m c (lessL xs x) ∧ Below w.heap.size w w' := by
  obtain ⟨hlen, rfl | ⟨b, off, rfl, hb, hcell⟩⟩ := hI
  · have : xs = [] := List.length_eq_zero_iff.1 hlen
    subst this
    go_enter Try.func97, Try.ntmps97
    go_wp2
    go_loopw [5, 6, 7] (fun o d i wr => i = .int .i64 0 ∧ d = .bool false ∧ o = .slice (some ⟨w.heap.size, 0, none⟩) 0 0 ∧ Owns w.heap.size wr w.heap.size 0 0 [] ∧ Below w.heap.size w wr) (fun _ _ _ _ => 0)
    case atStart => exact ⟨rfl, rfl, rfl, owns_empty w, bl_alloc (Below.refl _ _) _⟩
    case round =>
      obtain ⟨rfl, rfl, rfl, ho, hbr⟩ := hrel
      go_wp2
      go_ret
      exact ⟨_, _, _, rfl, ho, hbr⟩
  · go_enter Try.func97, Try.ntmps97
    go_wp2
    go_loopw [5, 6, 7] (fun o d i wr => ∃ k m g c : Nat, k ≤ n ∧ i = .int .i64 k ∧ d = .bool (hasL (xs.take k) x) ∧ o = .slice (some ⟨g, 0, none⟩) m c ∧ Owns w.heap.size wr g m c (lessL (xs.take k) x) ∧ Below w.heap.size w wr) (fun _ _ i _ => n - (intOf i).toNat)
    case atStart => exact ⟨0, 0, w.heap.size, 0, Nat.zero_le _, rfl, rfl, rfl, owns_empty w, bl_alloc (Below.refl _ _) _⟩
    case round =>
      rename_i wr
      obtain ⟨k, m, g, c, hk, rfl, rfl, rfl, ho, hbr⟩ := hrel
      by_cases hlt : k < n
      · have hc : wr.cell? ⟨b, off + k, none⟩ = some (.int .i64 (xs.getD k 0)) := by rw [hbr.cell (p := ⟨b, off + k, none⟩) hb]; exact hcell k hlt
        generalize hy : xs.getD k 0 = y at hc
        have hm : m ≤ n := by
          have h1 := (owns_parts ho).1
          have h2 := less_len (xs.take k) x
          rw [List.length_take] at h2
          omega
        obtain ⟨g', c', w', hr, ho', hb'⟩ := append_one w.heap.size g m c _ y wr w rfl ho hbr (by omega)
        have HY : Hid _ := hy
        have Hr : Hid _ := hr
        have Ho : Hid _ := ho
        have Ho' : Hid _ := ho'
        have Hbr : Hid _ := hbr
        have Hb' : Hid _ := hb'
        have hkx : k < xs.length := by omega
        clear hy hcell hr ho ho' hbr hb'
        cases hh : hasL (xs.take k) x
        · cases he : (y == x)
          · have hne : y ≠ x := by simpa using he
            go_wp2_with (at_builtin; refine wpList_append_run rfl _ _ 35 rfl _ _ _ rfl rfl Hr.out ?_)
            go_roundw
            case rel => exact ⟨k + 1, m + 1, g', c', by omega, by go_num, by rw [has_more hkx HY.out, hh, he]; rfl, rfl, by rw [less_keep hkx HY.out (.inr he)]; exact Ho'.out, Hb'.out⟩
            case measure => simp [intOf]; omega
          · have hne : y = x := by simpa using he
            go_wp2
            go_roundw
            case rel => exact ⟨k + 1, m, g, c, by omega, by go_num, by rw [has_more hkx HY.out, hh, he]; rfl, rfl, by rw [less_skip hkx HY.out hh he]; exact Ho.out, Hbr.out⟩
            case measure => simp [intOf]; omega
        · cases he : (y == x)
          · have hne : y ≠ x := by simpa using he
            go_wp2_with (at_builtin; refine wpList_append_run rfl _ _ 35 rfl _ _ _ rfl rfl Hr.out ?_)
            go_roundw
            case rel => exact ⟨k + 1, m + 1, g', c', by omega, by go_num, by rw [has_more hkx HY.out, hh]; rfl, rfl, by rw [less_keep hkx HY.out (.inl hh)]; exact Ho'.out, Hb'.out⟩
            case measure => simp [intOf]; omega
          · obtain rfl : y = x := by simpa using he
            go_wp2_with (at_builtin; refine wpList_append_run rfl _ _ 35 rfl _ _ _ rfl rfl Hr.out ?_)
            go_roundw
            case rel => exact ⟨k + 1, m + 1, g', c', by omega, by go_num, by rw [has_more hkx HY.out, hh]; rfl, rfl, by rw [less_keep hkx HY.out (.inl hh)]; exact Ho'.out, Hb'.out⟩
            case measure => simp [intOf]; omega
      · obtain rfl : k = n := by omega
        clear hcell
        rw [List.take_of_length_le (by omega)] at ho
        go_wp2
        go_ret
        exact ⟨_, _, _, rfl, ho, hbr⟩
end Go.Proofs.Ytllpcbdecibloaa
namespace Go.Proofs.Ytllpcbdecibloaa
open Go.RowKit Pl Il

def cnt (x : Int) : Bool := decide (0 ≤ x) && decide (x ≤ 1000000000)
/-- Nobody of told stands in the line. -/
def apartL (ln told : List Int) : Bool := told.all fun x => !hasL ln x
theorem apart_step {ln told : List Int} {k : Nat} {y : Int} (hk : k < told.length) (hy : told.getD k 0 = y) (h : apartL ln (told.take k) = true) (hh : hasL ln y = false) : apartL ln (told.take (k + 1)) = true := by
  have e : told.getD k 0 = told[k] := by simp [List.getD, List.getElem?_eq_getElem hk]
  rw [List.take_succ_eq_append_getElem hk, ← e, hy]
  simp only [apartL, List.all_append, List.all_cons, List.all_nil, Bool.and_true, Bool.and_eq_true] at h ⊢
  exact ⟨h, by rw [hh]; rfl⟩
theorem apart_bad {ln told : List Int} {k : Nat} {y : Int} (hk : k < told.length) (hy : told.getD k 0 = y) (hh : hasL ln y = true) : apartL ln told = false := by
  have e : told.getD k 0 = told[k] := by simp [List.getD, List.getElem?_eq_getElem hk]
  unfold apartL
  rw [List.all_eq_false]
  exact ⟨told[k], List.getElem_mem _, by rw [← e, hy, hh]; simp⟩
theorem apart_end {ln told : List Int} {k : Nat} (hk : told.length ≤ k) (h : apartL ln (told.take k) = true) : apartL ln told = true := by rwa [List.take_of_length_le hk] at h
/-- Who waits and who was told are right. -/
def waitL (ln told : List Int) : Bool := lineL ln && lineL told && apartL ln told
/-- Where two lists lie. -/
structure Na where
  a : Option Addr
  n : Nat
  c : Nat
  a' : Option Addr
  n' : Nat
  c' : Nat
def Na.zero : Na := ⟨none, 0, 0, none, 0, 0⟩
/-- Each list lies within its room. -/
def Na.ok (A : Na) : Prop := A.n ≤ A.c ∧ A.n' ≤ A.c'
theorem cnt_bd'' {x : Int} (h : cnt x = true) : 0 ≤ x ∧ x ≤ 1000000000 := by simpa [cnt] using h
end Go.Proofs.Ytllpcbdecibloaa
namespace Go.Proofs.Ytllpcbdecibloaa
open Go.RowKit Pl Il

theorem szIntS_any (a : Option Addr) (n cap : Nat) (k : Int) (w : World) (hn : n ≤ 9223372036854775807) (k0 : 0 ≤ k) (k1 : k ≤ 1048576) :
    Calls Try.prog 65 #[.slice a n cap, .int .i64 k] w fun e w' => e = .returned (.int .i64 (if k < (n : Int) then -1 else k - (n : Int))) ∧ w' = w := by
  by_cases h : k < (n : Int)
  · have h' : k - (n : Int) < 0 := by omega
    go_enter Try.func65, Try.ntmps65
    go_wp2
    go_ret
    refine ⟨rint ?_, rfl⟩
    simp
  · have h' : ¬ k - (n : Int) < 0 := by omega
    go_enter Try.func65, Try.ntmps65
    go_wp2
    go_ret
    refine ⟨rint ?_, rfl⟩
    simp
theorem bl_set1 {B : Nat} {w u : World} (h : Below B w u) (N o : Nat) (hN : B ≤ N) (y : Value) : Below B w (u.setCell ⟨N, o, none⟩ y) := h.setCell (p := ⟨N, o, none⟩) hN y
theorem eqIL_self (xs : List Int) : eqL xs xs = true := by simp [eqL]
/-- Which blocks a marking of two lists may have turned: those of its two lists. -/
structure Turned (a : Option Addr) (n : Nat) (a' : Option Addr) (n' : Nat) (w w' : World) : Prop where
  os : w'.os = w.os
  tape : w'.tape = w.tape
  output : w'.output = w.output
  size : w.heap.size ≤ w'.heap.size
  block : ∀ k, k < w.heap.size → (∀ off, 0 < n → a ≠ some ⟨k, off, none⟩) → (∀ off, 0 < n' → a' ≠ some ⟨k, off, none⟩) → w'.heap[k]? = w.heap[k]?
theorem Turned.below {a : Option Addr} {n : Nat} {a' : Option Addr} {n' : Nat} {w w' : World} {B : Nat} (h : Turned a n a' n' w w') (hB : B ≤ w.heap.size) (h1 : n = 0 ∨ ∀ b off, a = some ⟨b, off, none⟩ → B ≤ b) (h2 : n' = 0 ∨ ∀ b off, a' = some ⟨b, off, none⟩ → B ≤ b) : Below B w w' :=
  ⟨h.os, h.tape, h.output, h.size, fun k hk => h.block k (by omega)
    (fun off hp e => by rcases h1 with h1 | h1; · omega
                        · have := h1 _ _ e; omega)
    (fun off hp e => by rcases h2 with h2 | h2; · omega
                        · have := h2 _ _ e; omega)⟩

theorem Il.OwnAt.turned {B : Nat} {w w' : World} {a : Option Addr} {n : Nat} {xs : List Int} {a1 : Option Addr} {n1 : Nat} {a2 : Option Addr} {n2 : Nat} (h : Il.OwnAt B w a n xs) (ht : Turned a1 n1 a2 n2 w w')
    (h1 : n1 = 0 ∨ ∀ b off, a1 = some ⟨b, off, none⟩ → b < B) (h2 : n2 = 0 ∨ ∀ b off, a2 = some ⟨b, off, none⟩ → b < B) : Il.OwnAt B w' a n xs := by
  obtain ⟨⟨hl, hr⟩, ho⟩ := h
  rcases hr with h0 | ⟨b1, off, rfl, hlt, hc⟩
  · exact ⟨⟨hl, .inl h0⟩, .inl h0⟩
  · rcases ho with h0 | ⟨b', off', e, hB, hf⟩
    · exact ⟨⟨hl, .inl h0⟩, .inl h0⟩
    · cases e
      have key : w'.heap[b1]? = w.heap[b1]? := ht.block b1 hlt
        (fun o hp e => by rcases h1 with h1 | h1; · omega
                          · have := h1 _ _ e; omega)
        (fun o hp e => by rcases h2 with h2 | h2; · omega
                          · have := h2 _ _ e; omega)
      refine ⟨⟨hl, .inr ⟨b1, off, rfl, Nat.lt_of_lt_of_le hlt ht.size, fun i hi => ?_⟩⟩, .inr ⟨b1, off, rfl, hB, fun i hi => ?_⟩⟩
      · rw [← hc i hi]; exact World.cell?_of_block key
      · rw [← hf i hi]; exact World.frozen?_of_block key
theorem span_lt {a : Option Addr} {n B C : Nat} (D : Nat) (h : n = 0 ∨ ∀ b off, a = some ⟨b, off, none⟩ → B ≤ b ∧ b < C) (hD : C ≤ D) : n = 0 ∨ ∀ b off, a = some ⟨b, off, none⟩ → b < D := h.imp id fun h b off e => by have := h b off e; omega
theorem span_ge {a : Option Addr} {n B C : Nat} (D : Nat) (h : n = 0 ∨ ∀ b off, a = some ⟨b, off, none⟩ → B ≤ b ∧ b < C) (hD : D ≤ B) : n = 0 ∨ ∀ b off, a = some ⟨b, off, none⟩ → D ≤ b := h.imp id fun h b off e => by have := h b off e; omega
theorem own_span {B : Nat} {w : World} {a : Option Addr} {n : Nat} {xs : List Int} (h : Il.OwnAt B w a n xs) : n = 0 ∨ ∀ b off, a = some ⟨b, off, none⟩ → B ≤ b ∧ b < w.heap.size := by
  rcases h.own with h0 | ⟨b, off, e, hB, _⟩
  · exact .inl h0
  · rcases h.ints.row with h0 | ⟨b2, off2, e2, hl, _⟩
    · exact .inl h0
    · refine .inr fun b1 o1 e1 => ?_
      rw [e] at e1 e2; cases e1; cases e2; exact ⟨hB, hl⟩
/-- The list at a3 lies apart from the two lists . -/
def Apart3 (a1 : Option Addr) (m1 : Nat) (a2 : Option Addr) (m2 : Nat) (a3 : Option Addr) (m3 : Nat) : Prop :=
  m3 = 0 ∨ ∀ b3 off3, a3 = some ⟨b3, off3, none⟩ → (m1 = 0 ∨ ∀ b off, a1 = some ⟨b, off, none⟩ → b3 ≠ b) ∧ (m2 = 0 ∨ ∀ b off, a2 = some ⟨b, off, none⟩ → b3 ≠ b)
theorem Il.OwnAt.turned2 {B : Nat} {w w' : World} {a : Option Addr} {n : Nat} {xs : List Int} {a1 : Option Addr} {n1 : Nat} {a2 : Option Addr} {n2 : Nat} (h : Il.OwnAt B w a n xs) (ht : Turned a1 n1 a2 n2 w w') (hap : Apart3 a1 n1 a2 n2 a n) : Il.OwnAt B w' a n xs := by
  obtain ⟨⟨hl, hr⟩, ho⟩ := h
  rcases hr with h0 | ⟨b1, off, rfl, hlt, hc⟩
  · exact ⟨⟨hl, .inl h0⟩, .inl h0⟩
  · rcases ho with h0 | ⟨b', off', e, hB, hf⟩
    · exact ⟨⟨hl, .inl h0⟩, .inl h0⟩
    · cases e
      rcases hap with h0 | hap
      · exact ⟨⟨hl, .inl h0⟩, .inl h0⟩
      · obtain ⟨h1, h2⟩ := hap b1 off rfl
        have key : w'.heap[b1]? = w.heap[b1]? := ht.block b1 hlt
          (fun o hp e => by rcases h1 with h1 | h1; · omega
                            · exact h1 _ _ e rfl)
          (fun o hp e => by rcases h2 with h2 | h2; · omega
                            · exact h2 _ _ e rfl)
        refine ⟨⟨hl, .inr ⟨b1, off, rfl, Nat.lt_of_lt_of_le hlt ht.size, fun i hi => ?_⟩⟩, .inr ⟨b1, off, rfl, hB, fun i hi => ?_⟩⟩
        · rw [← hc i hi]; exact World.cell?_of_block key
        · rw [← hf i hi]; exact World.frozen?_of_block key
/-- What marking a list of numbers may have turned. -/
abbrev Listed (a : Option Addr) (n : Nat) (w w' : World) : Prop := n = 0 ∧ w' = w ∨ 0 < n ∧ ∃ b off, a = some ⟨b, off, none⟩ ∧ w.grownBy w' (some b)
theorem below_listed {B : Nat} {w w' : World} {a3 : Option Addr} {n3 : Nat} (hl : Listed a3 n3 w w') (hB : B ≤ w.heap.size) (hs : n3 = 0 ∨ ∀ b off, a3 = some ⟨b, off, none⟩ → B ≤ b) : Below B w w' := by
  rcases hl with ⟨_, rfl⟩ | ⟨hp, b, off, rfl, hg⟩
  · exact Below.refl _ _
  · rcases hs with h0 | hs
    · omega
    · exact (Below.refl _ _).grown hg hB (fun j hj => by cases hj; exact hs _ _ rfl)
theorem mark_nn5 (n m : Nat) : ¬ (1 : Int) + (n : Int) + (m : Int) < 0 := by omega
theorem mark_nn4 (n m l : Nat) : ¬ (1 : Int) + (n : Int) + (m : Int) + (l : Int) < 0 := by omega
end Go.Proofs.Ytllpcbdecibloaa
