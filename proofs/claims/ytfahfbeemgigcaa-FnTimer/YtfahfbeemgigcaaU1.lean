/-
  The program's heap of timers in memory, and walks of its small methods.
-/
import Derived.Test.YtfahfbeemgigcaaH1
import Derived.Test.YtfahfbeemgigcaaTH
import Derived.Deep.RegionHeld3
import Derived.BigRegion
namespace Go.Proofs.Ytfahfbeemgigcaa
open Go.RowKit Pl Il Th

def ntV (x : NT) : Value := .agg #[.int .i64 x.tm, .int .i64 x.tok, .int .i64 x.num]
def ntC (x : NT) : List Value := [.int .i64 x.tm, .int .i64 x.tok, .int .i64 x.num]
def flat (l : List NT) : List Value := l.flatMap ntC

theorem sooner_any (x y : NT) (w : World) :
    Calls Try.prog 54 #[ntV x, ntV y] w fun e w' => e = .returned (.bool (soon x y)) ∧ Below w.heap.size w w' := by
  obtain ⟨a1, a2, a3⟩ := x
  obtain ⟨b1, b2, b3⟩ := y
  unfold ntV
  have hB : Below w.heap.size w ((w.alloc (.cells #[.int .i64 a1, .int .i64 a2, .int .i64 a3] 83)).alloc (.cells #[.int .i64 b1, .int .i64 b2, .int .i64 b3] 83)) := bl_alloc (bl_alloc (Below.refl _ _) _) _
  go_enter Try.func54, Try.ntmps54
  go_wp2
  all_goals go_ret
  all_goals refine ⟨rbool ?_, hB⟩
  all_goals (rw [Bool.eq_iff_iff]; simp only [soon_iff]; simp at *; omega)

def fv : Value := .func (.func 54) #[] #[]
/-- The heap of timers at block hb: its row tv reads as l. -/
structure HMem (B : Nat) (w : World) (hb : Nat) (tv : Value) (k : Int) (l : List NT) : Prop where
  blk : w.heap[hb]? = some (.cells #[tv, .int .i64 k, fv] 80 (0, 0))
  row : w.ownsRow B 83 3 tv l.length (flat l)
  ge : B ≤ hb

theorem length_flat (l : List NT) : (flat l).length = l.length * 3 := by
  induction l with
  | nil => rfl
  | cons x l ih => simp [flat, ntC] at ih ⊢; omega
theorem flat_at : ∀ (l : List NT) (i r : Nat), i < l.length → r < 3 → (flat l)[i * 3 + r]? = (ntC (g l i))[r]?
  | [], i, r, hi, _ => by simp at hi
  | x :: l, 0, r, _, hr => by
    have e : flat (x :: l) = ntC x ++ flat l := by simp [flat]
    rw [e, List.getElem?_append_left (by simp [ntC]; omega)]
    simp [g]
  | x :: l, i + 1, r, hi, hr => by
    have e : flat (x :: l) = ntC x ++ flat l := by simp [flat]
    have hc : (ntC x).length = 3 := rfl
    rw [e, List.getElem?_append_right (by rw [hc]; omega), hc, show (i + 1) * 3 + r - 3 = i * 3 + r by omega, flat_at l i r (by simpa using hi) hr]
    simp [g]
/-- Cells of a row that is owned. -/
structure NCells (w : World) (b i : Nat) (x : NT) : Prop where
  c0 : w.cell? ⟨b, i * 3, none⟩ = some (.int .i64 x.tm)
  c1 : w.cell? ⟨b, i * 3 + 1, none⟩ = some (.int .i64 x.tok)
  c2 : w.cell? ⟨b, i * 3 + 2, none⟩ = some (.int .i64 x.num)
theorem row_cells {B : Nat} {w : World} {b n cap : Nat} {l : List NT} (h : w.ownsRow B 83 3 (.slice (some ⟨b, 0, none⟩) n cap) n (flat l)) (hn : l.length = n) {i : Nat} (hi : i < l.length) : NCells w b i (g l i) := by
  subst hn
  have key : ∀ r, r < 3 → w.cell? ⟨b, i * 3 + r, none⟩ = (ntC (g l i))[r]? := fun r hr => by
    rw [h.cellAt (i * 3 + r) (by omega), flat_at l i r hi hr]
  exact ⟨key 0 (by omega), key 1 (by omega), key 2 (by omega)⟩
theorem HMem.form {B : Nat} {w : World} {hb : Nat} {tv : Value} {k : Int} {l : List NT} (h : HMem B w hb tv k l) (hl : 0 < l.length) : ∃ b cap, tv = .slice (some ⟨b, 0, none⟩) l.length cap ∧ B ≤ b ∧ l.length ≤ cap ∧ ∃ cur, w.heap[b]? = some (.cells cur 83 (0, 0)) := by
  obtain ⟨_, ⟨e1, e2⟩ | ⟨b, cap, cur, rfl, hB, hg, hc, hm, hs, ht⟩⟩ := h.row
  · omega
  · exact ⟨b, cap, rfl, hB, hc, cur, hg⟩
theorem HMem.len {B : Nat} {w : World} {hb : Nat} {tv : Value} {k : Int} {l : List NT} (h : HMem B w hb tv k l) : ∃ a cap, tv = .slice a l.length cap ∧ l.length ≤ cap := by
  obtain ⟨_, ⟨e1, e2⟩ | ⟨b, cap, cur, rfl, hB, hg, hc, hm, hs, ht⟩⟩ := h.row
  · exact ⟨_, _, by rw [e1, e2], by omega⟩
  · exact ⟨_, cap, rfl, hc⟩
theorem HMem.lt {B : Nat} {w : World} {hb : Nat} {tv : Value} {k : Int} {l : List NT} (h : HMem B w hb tv k l) : hb < w.heap.size := by
  rcases Nat.lt_or_ge hb w.heap.size with q | q
  · exact q
  · have := h.blk
    rw [Array.getElem?_eq_none q] at this; cases this
theorem HMem.size {B : Nat} {w : World} {hb : Nat} {tv : Value} {k : Int} {l : List NT} (h : HMem B w hb tv k l) : B ≤ w.heap.size := Nat.le_trans h.ge (Nat.le_of_lt h.lt)
theorem HMem.c0 {B : Nat} {w : World} {hb : Nat} {tv : Value} {k : Int} {l : List NT} (h : HMem B w hb tv k l) : w.cell? ⟨hb, 0, none⟩ = some tv := by simp [World.cell?, h.blk]
theorem HMem.c1 {B : Nat} {w : World} {hb : Nat} {tv : Value} {k : Int} {l : List NT} (h : HMem B w hb tv k l) : w.cell? ⟨hb, 1, none⟩ = some (.int .i64 k) := by simp [World.cell?, h.blk]
theorem HMem.c2 {B : Nat} {w : World} {hb : Nat} {tv : Value} {k : Int} {l : List NT} (h : HMem B w hb tv k l) : w.cell? ⟨hb, 2, none⟩ = some (.func (.func 54) #[] #[]) := by simp [World.cell?, h.blk, fv]
theorem HMem.fr {B : Nat} {w : World} {hb : Nat} {tv : Value} {k : Int} {l : List NT} (h : HMem B w hb tv k l) (o : Nat) : w.frozen? ⟨hb, o, none⟩ = false := by simp [World.frozen?, h.blk]
theorem HMem.keep {B : Nat} {w w' : World} {hb : Nat} {tv : Value} {k : Int} {l : List NT} (h : HMem B w hb tv k l) (q : Below w.heap.size w w') : HMem B w' hb tv k l := by
  refine ⟨by rw [q.block hb h.lt]; exact h.blk, ?_, h.ge⟩
  refine h.row.kept (row := none) ⟨q.os, q.tape, q.output, q.size, fun k hk _ => q.block k hk⟩ ?_
  cases tv.ownBlock <;> simp

theorem len_any (B hb : Nat) (tv : Value) (k : Int) (l : List NT) (w : World) (h : HMem B w hb tv k l) :
    Calls Try.prog 42 #[.pointer (some ⟨hb, 0, none⟩)] w fun e w' => e = .returned (.int .i64 (l.length : Int)) ∧ w' = w := by
  have c0 := h.c0
  obtain ⟨a, cap, rfl, _⟩ := h.len
  go_enter Try.func42, Try.ntmps42
  go_wp2
  go_ret
  exact ⟨rfl, rfl⟩

abbrev LessS (hb b n cap i j : Nat) (x y : NT) (w0 w : World) : Prop :=
  w.cell? ⟨hb, 0, none⟩ = some (.slice (some ⟨b, 0, none⟩) n cap) ∧ w.cell? ⟨hb, 2, none⟩ = some (.func (.func 54) #[] #[]) ∧ w.cell? ⟨b, i * 3, none⟩ = some (.int .i64 x.tm) ∧ w.cell? ⟨b, i * 3 + 1, none⟩ = some (.int .i64 x.tok) ∧ w.cell? ⟨b, i * 3 + 2, none⟩ = some (.int .i64 x.num) ∧
  w.cell? ⟨b, j * 3, none⟩ = some (.int .i64 y.tm) ∧ w.cell? ⟨b, j * 3 + 1, none⟩ = some (.int .i64 y.tok) ∧ w.cell? ⟨b, j * 3 + 2, none⟩ = some (.int .i64 y.num) ∧ Below w0.heap.size w0 w
theorem LessS.drew {hb b n cap i j : Nat} {x y : NT} {w0 w : World} (h : LessS hb b n cap i j x y w0 w) : LessS hb b n cap i j x y w0 w.drew := ⟨h.1, h.2.1, h.2.2.1, h.2.2.2.1, h.2.2.2.2.1, h.2.2.2.2.2.1, h.2.2.2.2.2.2.1, h.2.2.2.2.2.2.2.1, h.2.2.2.2.2.2.2.2.drew⟩
theorem cell_keep {w w' : World} {a : Addr} {v : Value} (h : w.cell? a = some v) (hb : Below w.heap.size w w') : w'.cell? a = some v := by
  rw [hb.cell (p := a) (World.block_lt_of_cell? w a h)]; exact h
theorem LessS.keep {hb b n cap i j : Nat} {x y : NT} {w0 w w' : World} (h : LessS hb b n cap i j x y w0 w) (q : Below w.heap.size w w') : LessS hb b n cap i j x y w0 w' :=
  ⟨cell_keep h.1 q, cell_keep h.2.1 q, cell_keep h.2.2.1 q, cell_keep h.2.2.2.1 q, cell_keep h.2.2.2.2.1 q, cell_keep h.2.2.2.2.2.1 q, cell_keep h.2.2.2.2.2.2.1 q, cell_keep h.2.2.2.2.2.2.2.1 q, bl_trans h.2.2.2.2.2.2.2.2 q⟩
theorem less_any (B hb : Nat) (tv : Value) (k : Int) (l : List NT) (i j : Nat) (w : World) (h : HMem B w hb tv k l) (hi : i < l.length) (hj : j < l.length) (hl : l.length ≤ 100) :
    Calls Try.prog 83 #[.pointer (some ⟨hb, 0, none⟩), .int .i64 i, .int .i64 j] w fun e w' => e = .returned (.bool (soon (g l i) (g l j))) ∧ Below w.heap.size w w' := by
  have c0 := h.c0
  have c2 := h.c2
  obtain ⟨b, cap, rfl, _⟩ := h.form (by omega)
  have hii : (0 : Int) ≤ (i : Int) ∧ (i : Int) < (l.length : Int) := by omega
  have hjj : (0 : Int) ≤ (j : Int) ∧ (j : Int) < (l.length : Int) := by omega
  obtain ⟨x1, y1, z1⟩ := row_cells h.row rfl hi
  obtain ⟨x2, y2, z2⟩ := row_cells h.row rfl hj
  have HC := fun u => hidOf (sooner_any (g l i) (g l j) u)
  unfold ntV at HC
  generalize soon (g l i) (g l j) = s at *
  generalize l.length = n at *
  generalize g l i = x at *
  generalize g l j = y at *
  clear h hi hj
  go_enter Try.func83, Try.ntmps83
  go_wp2_with fail
  have hS : LessS hb b n cap i j x y w w := ⟨c0, c2, x1, y1, z1, x2, y2, z2, Below.refl _ _⟩
  clear c0 c2 x1 y1 z1 x2 y2 z2
  go_region_held3 (fun w' => LessS hb b n cap i j x y w w') (first | (exact hS.drew) | (exact LessS.keep (by assumption) (by assumption))) (first | (go_at_call 54; refine ((HC _).out).mono ?_; rintro e w1 ⟨rfl, hb1⟩))
  all_goals (rename_i hT; go_wp2; go_ret; exact ⟨rfl, hT.2.2.2.2.2.2.2.2⟩)
end Go.Proofs.Ytfahfbeemgigcaa
