/-
  The plain mathematics of messages (no program in it): which bytes a te
  Slices of numbers in memory: what they read as, and what leaves that a
  Walks of functions that only read a list of numbers
  Walks of functions that make a list of numbers, or write into one
-/
import Derived.Below
import Derived.BigQuiet
import Derived.Deep.AppendLies
import Derived.Deep.AppendSrc
import Derived.Deep.Draws
import Derived.Deep.QuietTactic
import Derived.Laws.MakeOwn
import Derived.Maps.AppendAt
import Derived.Maps.Range
import Derived.Test.YtfgknbflgmblmaaRows
import Derived.WalkKit
import Derived.WalkLawsBesides
import Derived.WalkSpells
namespace Go.Proofs.Ytfgknbflgmblmaa.Pl
open Go.RowKit
/-! What a call leaves alone: all that lay in memory ahead of it. -/
theorem bl_alloc {w w' : World} (h : Below w.heap.size w w') (o : Obj) : Below w.heap.size w (w'.alloc o) := h.alloc h.size o
theorem bl_trans {w w1 w2 : World} (h : Below w.heap.size w w1) (k : Below w1.heap.size w1 w2) : Below w.heap.size w w2 := h.trans (k.mono h.size)
/-- A variable of three cells in block N. -/
structure Box3 (N : Nat) (v0 v1 v2 : Value) (w : World) : Prop where
  lt : N < w.heap.size
  c0 : w.cell? ⟨N, 0, none⟩ = some v0
  c1 : w.cell? ⟨N, 1, none⟩ = some v1
  c2 : w.cell? ⟨N, 2, none⟩ = some v2
  fr : ∀ o, w.frozen? ⟨N, o, none⟩ = false
theorem Box3.new (w : World) (v0 v1 v2 : Value) (t : TypeId) : Box3 w.heap.size v0 v1 v2 (w.alloc (.cells #[v0, v1, v2] t)) :=
  ⟨by simp, by simp, by simp, by simp, fun o => by simp [go_sem]⟩
theorem Box3.keep {N : Nat} {v0 v1 v2 : Value} {w u : World} (h : Box3 N v0 v1 v2 w) (hb : Below w.heap.size w u) : Box3 N v0 v1 v2 u where
  lt := Nat.lt_of_lt_of_le h.lt hb.size
  c0 := by rw [hb.cell (p := ⟨N, 0, none⟩) h.lt]; exact h.c0
  c1 := by rw [hb.cell (p := ⟨N, 1, none⟩) h.lt]; exact h.c1
  c2 := by rw [hb.cell (p := ⟨N, 2, none⟩) h.lt]; exact h.c2
  fr := fun o => by rw [hb.frozen (p := ⟨N, o, none⟩) h.lt]; exact h.fr o
theorem Box3.alloc {N : Nat} {v0 v1 v2 : Value} {w : World} (h : Box3 N v0 v1 v2 w) (o : Obj) : Box3 N v0 v1 v2 (w.alloc o) := h.keep (bl_alloc (Below.refl _ _) o)
theorem zGA {α : Type} {xs : List α} {i : Nat} (h : i < xs.toArray.size) : xs.toArray[i] = xs[i]'(by simpa using h) := List.getElem_toArray h
theorem zG0 {α : Type} {a : α} {l : List α} (h : 0 < (a :: l).length) : (a :: l)[0] = a := List.getElem_cons_zero ..
theorem zGC {α : Type} {a : α} {l : List α} {i : Nat} (h : i + 1 < (a :: l).length) : (a :: l)[i + 1] = l[i]'(by simpa using h) := List.getElem_cons_succ ..
theorem zSA {α : Type} {l : List α} {i : Nat} {a : α} : l.toArray.setIfInBounds i a = (l.set i a).toArray := List.setIfInBounds_toArray ..
theorem zS0 {α : Type} {l : List α} {a b : α} : (a :: l).set 0 b = b :: l := by rfl
theorem zSC {α : Type} {l : List α} {i : Nat} {a b : α} : (a :: l).set (i + 1) b = a :: l.set i b := by rfl
end Go.Proofs.Ytfgknbflgmblmaa.Pl
namespace Go.Proofs.Ytfgknbflgmblmaa.Il
open Go.RowKit Pl
/-- The slice at a, of n elements, reads as xs in w. -/
structure IntsAt (w : World) (a : Option Addr) (n : Nat) (xs : List Int) : Prop where
  len : xs.length = n
  row : n = 0 ∨ ∃ b off, a = some ⟨b, off, none⟩ ∧ b < w.heap.size ∧ ∀ i, i < n → w.cell? ⟨b, off + i, none⟩ = some (.int .i64 (xs.getD i 0))
theorem IntsAt.keep {w w' : World} {a : Option Addr} {n : Nat} {xs : List Int} (h : IntsAt w a n xs) (hb : Below w.heap.size w w') : IntsAt w' a n xs := by
  refine ⟨h.len, ?_⟩
  rcases h.row with k | ⟨b, off, rfl, hlt, hc⟩
  · exact .inl k
  · exact .inr ⟨b, off, rfl, Nat.lt_of_lt_of_le hlt hb.size, fun i hi => by rw [hb.cell (p := ⟨b, off + i, none⟩) hlt]; exact hc i hi⟩
theorem IntsAt.nil (w : World) (a : Option Addr) : IntsAt w a 0 [] := ⟨rfl, .inl rfl⟩
/-- The elements from i on. -/
theorem IntsAt.drop {w : World} {b off n : Nat} {xs : List Int} (h : IntsAt w (some ⟨b, off, none⟩) n xs) (i : Nat) (hi : i ≤ n) : IntsAt w (some ⟨b, off + i, none⟩) (n - i) (xs.drop i) := by
  refine ⟨by rw [List.length_drop, h.len], ?_⟩
  rcases h.row with k | ⟨b', off', e, hlt, hc⟩
  · exact .inl (by omega)
  · cases e
    refine .inr ⟨b, off + i, rfl, hlt, fun j hj => ?_⟩
    rw [Nat.add_assoc, hc (i + j) (by omega)]
    simp [List.getD]
theorem IntsAt.take {w : World} {a : Option Addr} {n : Nat} {xs : List Int} (h : IntsAt w a n xs) (i : Nat) (hi : i ≤ n) : IntsAt w a i (xs.take i) := by
  refine ⟨by rw [List.length_take, h.len]; omega, ?_⟩
  rcases h.row with k | ⟨b, off, rfl, hlt, hc⟩
  · exact .inl (by omega)
  · refine .inr ⟨b, off, rfl, hlt, fun j hj => ?_⟩
    rw [hc j (by omega)]
    simp [List.getD, List.getElem?_take_of_lt hj]
/-- Its cells lie in blocks from B on, and may be written. -/
structure OwnAt (B : Nat) (w : World) (a : Option Addr) (n : Nat) (xs : List Int) : Prop where
  ints : IntsAt w a n xs
  own : n = 0 ∨ ∃ b off, a = some ⟨b, off, none⟩ ∧ B ≤ b ∧ ∀ i, i < n → w.frozen? ⟨b, off + i, none⟩ = false
theorem OwnAt.keep {B : Nat} {w w' : World} {a : Option Addr} {n : Nat} {xs : List Int} (h : OwnAt B w a n xs) (hb : Below w.heap.size w w') : OwnAt B w' a n xs := by
  refine ⟨h.ints.keep hb, ?_⟩
  rcases h.own with k | ⟨b, off, rfl, hB, hf⟩
  · exact .inl k
  · rcases h.ints.row with k | ⟨b', off', e, hlt, _⟩
    · exact .inl k
    · cases e
      exact .inr ⟨b, off, rfl, hB, fun i hi => by rw [hb.frozen (p := ⟨b, off + i, none⟩) hlt]; exact hf i hi⟩
theorem OwnAt.mono {B B' : Nat} {w : World} {a : Option Addr} {n : Nat} {xs : List Int} (h : OwnAt B w a n xs) (hB : B' ≤ B) : OwnAt B' w a n xs := by
  refine ⟨h.ints, ?_⟩
  rcases h.own with k | ⟨b, off, rfl, hb, hf⟩
  · exact .inl k
  · exact .inr ⟨b, off, rfl, Nat.le_trans hB hb, hf⟩
/-- What append's laws own is such a slice. -/
theorem own_of {B : Nat} {w : World} {v : Value} {n : Nat} {ys : List Value} (h : w.ownsRow B 3 1 v n ys) (xs : List Int) (hx : ys = xs.map (Value.int .i64)) : ∃ a cap, v = .slice a n cap ∧ OwnAt B w a n xs := by
  subst hx
  obtain ⟨hl, ⟨rfl, rfl⟩ | ⟨g, cap, cur, rfl, hB, hg, hc, hm, hs, ht⟩⟩ := h
  · have : xs = [] := List.length_eq_zero_iff.1 (by simpa using hl)
    subst this
    exact ⟨_, _, rfl, ⟨⟨rfl, .inl rfl⟩, .inl rfl⟩⟩
  · have hlen : xs.length = n := by simpa using hl
    have hlt : g < w.heap.size := by
      rcases Nat.lt_or_ge g w.heap.size with k | k
      · exact k
      · rw [Array.getElem?_eq_none k] at hg; cases hg
    refine ⟨_, _, rfl, ⟨⟨hlen, .inr ⟨g, 0, rfl, hlt, fun i hi => ?_⟩⟩, .inr ⟨g, 0, rfl, hB, fun i hi => ?_⟩⟩⟩
    · rw [Nat.zero_add, cell_of_row w g i cur 3 (0, 0) hg]
      have e : (xs.map (Value.int .i64))[i]? = (cur.toList.take (n * 1))[i]? := by rw [ht]
      rw [List.getElem?_take_of_lt (by omega)] at e
      rw [← Array.getElem?_toList, ← e]
      simp [List.getD, List.getElem?_eq_getElem (show i < xs.length by omega)]
    · rw [Nat.zero_add]
      simp [World.frozen?, hg]
theorem OwnAt.other {B : Nat} {w w' : World} {a : Option Addr} {n b : Nat} {xs : List Int} (h : OwnAt B w a n xs) (hg : w.grownBy w' (some b)) (hne : n = 0 ∨ ∀ b' off', a = some ⟨b', off', none⟩ → b ≠ b') : OwnAt B w' a n xs := by
  obtain ⟨⟨hl, hr⟩, ho⟩ := h
  rcases hne with h0 | hne
  · exact ⟨⟨hl, .inl h0⟩, .inl h0⟩
  · rcases hr with h0 | ⟨b1, off, rfl, hlt, hc⟩
    · exact ⟨⟨hl, .inl h0⟩, .inl h0⟩
    · have key : w'.heap[b1]? = w.heap[b1]? := hg.block b1 hlt (by intro e; cases e; exact hne _ _ rfl rfl)
      rcases ho with h0 | ⟨b', off', e, hB, hf⟩
      · exact ⟨⟨hl, .inl h0⟩, .inl h0⟩
      · cases e
        refine ⟨⟨hl, .inr ⟨b1, off, rfl, Nat.lt_of_lt_of_le hlt hg.size, fun i hi => ?_⟩⟩, .inr ⟨b1, off, rfl, hB, fun i hi => ?_⟩⟩
        · rw [← hc i hi]; exact World.cell?_of_block key
        · rw [← hf i hi]; exact World.frozen?_of_block key
/-- A store into an elder block. -/
theorem OwnAt.far {B : Nat} {w : World} {a : Option Addr} {n : Nat} {xs : List Int} (h : OwnAt B w a n xs) (b o : Nat) (hb : b < B) (x : Value) : OwnAt B (w.setCell ⟨b, o, none⟩ x) a n xs := by
  refine h.other (b := b) ⟨rfl, rfl, rfl, by simp, fun k _ hk => Below.heap_setCell _ _ _ _ (by rintro rfl; exact hk rfl)⟩ ?_
  rcases h.own with h0 | ⟨b', off', rfl, hB, _⟩
  · exact .inl h0
  · exact .inr fun b1 o1 e => by cases e; omega
theorem own_cap {B : Nat} {w : World} {a : Option Addr} {n cap : Nat} {ys : List Value} (h : w.ownsRow B 3 1 (.slice a n cap) n ys) : n ≤ cap := by
  obtain ⟨_, ⟨e, _⟩ | ⟨g, cap', cur, e, _, _, hc, _⟩⟩ := h
  · cases e; exact Nat.le_refl _
  · cases e; exact hc
/-- Every number of the list fits. -/
def wfL (xs : List Int) : Prop := ∀ x ∈ xs, (Lit.int .i64 x).wf = true
theorem wf_at {xs : List Int} (h : wfL xs) {k : Nat} (hk : k < xs.length) : (Lit.int .i64 (xs.getD k 0)).wf = true := by
  have e : xs.getD k 0 = xs[k] := by simp [List.getD, List.getElem?_eq_getElem hk]
  rw [e]; exact h _ (List.getElem_mem _)
theorem wf_take {xs : List Int} (h : wfL xs) (k : Nat) : wfL (xs.take k) := fun x hx => h x (List.mem_of_mem_take hx)
end Go.Proofs.Ytfgknbflgmblmaa.Il
namespace Go.Proofs.Ytfgknbflgmblmaa
open Go.RowKit Pl Il
theorem hidOf {p : Prop} (h : p) : Hid p := h
/-- Does x stand in the list? -/
def hasL (xs : List Int) (x : Int) : Bool := xs.contains x
/-- The first place of x, or -1. -/
def placeL (xs : List Int) (x : Int) : Int := match xs.findIdx? (· == x) with | some i => (i : Int) | none => -1
def eqL (xs ys : List Int) : Bool := decide (xs = ys)
def clientL (x : Int) : Bool := decide (0 ≤ x) && decide (x ≤ 63)
theorem has_step {xs : List Int} {k : Nat} {x : Int} (hk : k < xs.length) (h : hasL (xs.take k) x = false) (hne : (xs.getD k 0 == x) = false) : hasL (xs.take (k + 1)) x = false := by
  rw [List.take_succ_eq_append_getElem hk]
  have e : xs.getD k 0 = xs[k] := by simp [List.getD, List.getElem?_eq_getElem hk]
  rw [e] at hne
  simp only [hasL, List.contains_eq_mem, List.mem_append, List.mem_singleton, decide_eq_false_iff_not] at h ⊢
  rintro (m | m)
  · exact h m
  · rw [m] at hne; simp at hne
theorem has_hit {xs : List Int} {k : Nat} {x : Int} (hk : k < xs.length) (he : (xs.getD k 0 == x) = true) : hasL xs x = true := by
  have e : xs.getD k 0 = xs[k] := by simp [List.getD, List.getElem?_eq_getElem hk]
  rw [e] at he
  have : xs[k] = x := by simpa using he
  rw [← this]; simp [hasL]
theorem has_end {xs : List Int} {k : Nat} {x : Int} (hk : xs.length ≤ k) (h : hasL (xs.take k) x = false) : hasL xs x = false := by rwa [List.take_of_length_le hk] at h
theorem bl_drewN {w w' : World} (h : Below w.heap.size w w') (n : Nat) : Below w.heap.size w (w'.drewN n) := ⟨h.os, h.tape, h.output, h.size, h.block⟩
theorem rbool {a b : Bool} (h : a = b) : Ending.returned (.bool a) = .returned (.bool b) := by rw [h]
theorem l2Has_any (a : Option Addr) (n cap : Nat) (xs : List Int) (x : Int) (w : World) (hI : IntsAt w a n xs) (hn : n ≤ 2097152) :
    Calls Try.prog 48 #[.slice a n cap, .int .i64 x] w fun e w' => e = .returned (.bool (hasL xs x)) ∧ w' = w := by
  obtain ⟨hlen, rfl | ⟨b, off, rfl, hb, hcell⟩⟩ := hI
  · have : xs = [] := List.length_eq_zero_iff.1 hlen
    subst this
    go_enter Try.func48, Try.ntmps48
    go_wp2
    go_loop [5] (fun i => i = .int .i64 0) (fun _ => 0)
    case atStart => rfl
    case round =>
      subst hrel
      go_wp2
      go_ret
      exact ⟨rfl, rfl⟩
  · go_enter Try.func48, Try.ntmps48
    go_wp2
    go_loop [5] (fun i => ∃ k : Nat, k ≤ n ∧ i = .int .i64 k ∧ hasL (xs.take k) x = false) (fun i => n - (intOf i).toNat)
    case atStart => exact ⟨0, Nat.zero_le _, rfl, by simp [hasL]⟩
    case round =>
      obtain ⟨k, hk, rfl, hno⟩ := hrel
      have Hno : Hid _ := hno
      clear hno
      by_cases hlt : k < n
      · have hc := hcell k hlt
        generalize hy : xs.getD k 0 = y at hc
        have HY : Hid _ := hy
        clear hy hcell
        cases hxy : (y == x)
        · go_wp2
          go_round
          case rel => exact ⟨k + 1, by omega, by go_num, has_step (by omega) Hno.out (by rw [HY.out]; exact hxy)⟩
          case measure => simp [intOf]; omega
        · go_wp2
          go_ret
          exact ⟨rbool (has_hit (k := k) (by omega) (by rw [HY.out]; exact hxy)).symm, rfl⟩
      · clear hcell
        go_wp2
        go_ret
        exact ⟨rbool (has_end (by omega) Hno.out).symm, rfl⟩
theorem place_hit {xs : List Int} {k : Nat} {x : Int} (hk : k < xs.length) (h : hasL (xs.take k) x = false) (he : (xs.getD k 0 == x) = true) : (k : Int) = placeL xs x := by
  have e : xs.getD k 0 = xs[k] := by simp [List.getD, List.getElem?_eq_getElem hk]
  rw [e] at he
  have hf : xs.findIdx? (· == x) = some k := by
    rw [List.findIdx?_eq_some_iff_getElem]
    refine ⟨hk, he, fun j hj => ?_⟩
    intro hjx
    have hm : xs[j]'(by omega) ∈ xs.take k := by
      rw [List.mem_take_iff_getElem]
      exact ⟨j, by omega, rfl⟩
    have : xs[j]'(by omega) = x := by simpa using hjx
    rw [this] at hm
    simp [hasL] at h
    exact h hm
  simp [placeL, hf]
theorem place_none {xs : List Int} {k : Nat} {x : Int} (hk : xs.length ≤ k) (h : hasL (xs.take k) x = false) : (-1 : Int) = placeL xs x := by
  have h' := has_end hk h
  have hf : xs.findIdx? (· == x) = none := by
    rw [List.findIdx?_eq_none_iff]
    intro y hy
    simp [hasL] at h'
    cases hyx : (y == x)
    · rfl
    · have : y = x := by simpa using hyx
      subst this; exact absurd hy h'
  simp [placeL, hf]
theorem rint {a b : Int} (h : a = b) : Ending.returned (.int .i64 a) = .returned (.int .i64 b) := by rw [h]
theorem specPlace_any (a : Option Addr) (n cap : Nat) (xs : List Int) (x : Int) (w : World) (hI : IntsAt w a n xs) (hn : n ≤ 2097152) :
    Calls Try.prog 25 #[.slice a n cap, .int .i64 x] w fun e w' => e = .returned (.int .i64 (placeL xs x)) ∧ w' = w := by
  obtain ⟨hlen, rfl | ⟨b, off, rfl, hb, hcell⟩⟩ := hI
  · have : xs = [] := List.length_eq_zero_iff.1 hlen
    subst this
    go_enter Try.func25, Try.ntmps25
    go_wp2
    go_loop [5] (fun i => i = .int .i64 0) (fun _ => 0)
    case atStart => rfl
    case round =>
      subst hrel
      go_wp2
      go_ret
      exact ⟨rfl, rfl⟩
  · go_enter Try.func25, Try.ntmps25
    go_wp2
    go_loop [5] (fun i => ∃ k : Nat, k ≤ n ∧ i = .int .i64 k ∧ hasL (xs.take k) x = false) (fun i => n - (intOf i).toNat)
    case atStart => exact ⟨0, Nat.zero_le _, rfl, by simp [hasL]⟩
    case round =>
      obtain ⟨k, hk, rfl, hno⟩ := hrel
      have Hno : Hid _ := hno
      clear hno
      by_cases hlt : k < n
      · have hc := hcell k hlt
        generalize hy : xs.getD k 0 = y at hc
        have HY : Hid _ := hy
        clear hy hcell
        cases hxy : (y == x)
        · go_wp2
          go_round
          case rel => exact ⟨k + 1, by omega, by go_num, has_step (by omega) Hno.out (by rw [HY.out]; exact hxy)⟩
          case measure => simp [intOf]; omega
        · go_wp2
          go_ret
          exact ⟨rint (place_hit (by omega) Hno.out (by rw [HY.out]; exact hxy)), rfl⟩
      · clear hcell
        go_wp2
        go_ret
        exact ⟨rint (place_none (by omega) Hno.out), rfl⟩
theorem eq_step {xs ys : List Int} {k : Nat} (hk : k < xs.length) (hk' : k < ys.length) (h : xs.take k = ys.take k) (he : (xs.getD k 0 != ys.getD k 0) = false) : xs.take (k + 1) = ys.take (k + 1) := by
  rw [List.take_succ_eq_append_getElem hk, List.take_succ_eq_append_getElem hk', h]
  have e : xs.getD k 0 = xs[k] := by simp [List.getD, List.getElem?_eq_getElem hk]
  have e' : ys.getD k 0 = ys[k] := by simp [List.getD, List.getElem?_eq_getElem hk']
  rw [e, e'] at he
  have : xs[k] = ys[k] := by simpa using he
  rw [this]
theorem eq_no {xs ys : List Int} {k : Nat} (he : (xs.getD k 0 != ys.getD k 0) = true) : eqL xs ys = false := by
  unfold eqL
  rw [decide_eq_false_iff_not]
  rintro rfl
  simp at he
theorem eq_len {xs ys : List Int} (hl : ¬ xs.length = ys.length) : eqL xs ys = false := by
  unfold eqL
  rw [decide_eq_false_iff_not]
  rintro rfl
  exact hl rfl
theorem eq_end {xs ys : List Int} {k : Nat} (hl : xs.length = ys.length) (hk : xs.length ≤ k) (h : xs.take k = ys.take k) : eqL xs ys = true := by
  rw [List.take_of_length_le hk, List.take_of_length_le (by omega)] at h
  simp [eqL, h]
open Go.RowKit Pl Il
theorem info3 : (Try.prog.info? 3).map (fun i => (i.zero, i.size, i.bytes)) = some (some (.int .i64 0), 1, 8) := by kernel_rfl
open Go.RowKit Pl Il
/-- The first k clients of a line: each a client, none twice. -/
def lineTo (xs : List Int) (k : Nat) : Bool := (List.range k).all fun i => clientL (xs.getD i 0) && !hasL (xs.take i) (xs.getD i 0)
/-- A right line. -/
def lineL (xs : List Int) : Bool := decide (xs.length ≤ 32) && lineTo xs xs.length
theorem lineTo_zero (xs : List Int) : lineTo xs 0 = true := by simp [lineTo]
theorem lineTo_step {xs : List Int} {k : Nat} {y : Int} (h : lineTo xs k = true) (hy : xs.getD k 0 = y) (hc : clientL y = true) (hh : hasL (xs.take k) y = false) : lineTo xs (k + 1) = true := by
  simp only [lineTo, List.range_succ, List.all_append, List.all_cons, List.all_nil, Bool.and_true, Bool.and_eq_true] at h ⊢
  exact ⟨h, by rw [hy]; exact hc, by rw [hy, hh]; rfl⟩
theorem line_bad {xs : List Int} {k : Nat} {y : Int} (hk : k < xs.length) (hy : xs.getD k 0 = y) (h : clientL y = false ∨ hasL (xs.take k) y = true) : lineL xs = false := by
  have : lineTo xs xs.length = false := by
    unfold lineTo
    rw [List.all_eq_false]
    refine ⟨k, List.mem_range.2 hk, ?_⟩
    rw [hy]
    rcases h with h | h <;> simp [h]
  simp [lineL, this]
theorem line_long {xs : List Int} (h : ¬ xs.length ≤ 32) : lineL xs = false := by simp [lineL, h]
theorem line_end {xs : List Int} (h : xs.length ≤ 32) (ht : lineTo xs xs.length = true) : lineL xs = true := by simp [lineL, h, ht]
theorem in_any (n a b : Int) (w : World) :
    Calls Try.prog 56 #[.int .i64 n, .int .i64 a, .int .i64 b] w fun e w' => e = .returned (.bool (decide (a ≤ n) && decide (n ≤ b))) ∧ w' = w := by
  go_enter Try.func56, Try.ntmps56
  go_wp2
  all_goals go_ret
  all_goals (refine ⟨rbool ?_, rfl⟩; simp; try omega)
theorem client_any (x : Int) (w : World) :
    Calls Try.prog 57 #[.int .i64 x] w fun e w' => e = .returned (.bool (clientL x)) ∧ w' = w := by
  go_enter Try.func57, Try.ntmps57
  go_wp2_with fail
  refine (in_any x _ _ _).mono ?_
  rintro e w1 ⟨rfl, rfl⟩
  go_wp2
  go_ret
  exact ⟨rfl, rfl⟩
theorem specLineOk_any (a : Option Addr) (n cap : Nat) (xs : List Int) (w : World) (hI : IntsAt w a n xs) (hn : n ≤ 2097152) (hcap : n ≤ cap) :
  Calls Try.prog 55 #[.slice a n cap] w fun e w' => e = .returned (.bool (lineL xs)) ∧ Below w.heap.size w w' := by
 by_cases h32 : n ≤ 32
 ·have h32' : ¬ 32 < (n : Int) := by omega
  obtain ⟨hlen, rfl | ⟨b, off, rfl, hb, hcell⟩⟩ := id hI
  ·have hx : xs = [] := List.length_eq_zero_iff.1 hlen
   subst hx
   go_enter Try.func55, Try.ntmps55
   go_wp2
   go_loop [3] (fun i => i = .int .i64 0) (fun _ => 0)
   case atStart => rfl
   case round =>
    subst hrel
    go_wp2
    go_ret
    exact ⟨rfl, Below.refl _ _⟩
  ·go_enter Try.func55, Try.ntmps55
   go_wp2
   go_loopw [3] (fun i wr => ∃ k : Nat, k ≤ n ∧ i = .int .i64 k ∧ lineTo xs k = true ∧ Below w.heap.size w wr) (fun i _ => n - (intOf i).toNat)
   case atStart => exact ⟨0, Nat.zero_le _, rfl, lineTo_zero _, Below.refl _ _⟩
   case round =>
    rename_i wr
    obtain ⟨k, hk, rfl, hto, hbr⟩ := hrel
    have Hto : Hid _ := hto
    clear hto
    by_cases hlt : k < n
    ·have hc : wr.cell? ⟨b, off + k, none⟩ = some (.int .i64 (xs.getD k 0)) := by rw [hbr.cell (p := ⟨b, off + k, none⟩) hb]; exact hcell k hlt
     have hT : ∀ q, IntsAt (wr.drewN q) (some ⟨b, off, none⟩) k (xs.take k) := fun q => (hI.take k hk).keep (bl_drewN hbr q)
     have HT : Hid _ := hT
     generalize hy : xs.getD k 0 = y at hc
     have HY : Hid _ := hy
     have hki : (k : Int) < (n : Int) := by omega
     have hkc : (k : Int) ≤ (cap : Int) := by omega
     clear hy hcell hT hI
     cases hcl : clientL y
     ·go_wp2
      go_quiet ((first | (go_at_call 57; exact Calls.quiet_of_same (client_any _ _)) | (go_at_call 48; exact Calls.quiet_of_same (l2Has_any _ _ _ _ _ _ (HT.out _) (by omega)))))
      go_wp2
      go_ret
      exact ⟨rbool (line_bad (by omega) HY.out (.inl hcl)).symm, bl_drewN hbr _⟩
     ·cases hhs : hasL (xs.take k) y
      ·go_wp2
       go_quiet ((first | (go_at_call 57; exact Calls.quiet_of_same (client_any _ _)) | (go_at_call 48; exact Calls.quiet_of_same (l2Has_any _ _ _ _ _ _ (HT.out _) (by omega)))))
       go_wp2
       go_roundw
       case rel => exact ⟨k + 1, by omega, by go_num, lineTo_step Hto.out HY.out hcl hhs, bl_drewN hbr _⟩
       case measure => simp [intOf]; omega
      ·go_wp2
       go_quiet ((first | (go_at_call 57; exact Calls.quiet_of_same (client_any _ _)) | (go_at_call 48; exact Calls.quiet_of_same (l2Has_any _ _ _ _ _ _ (HT.out _) (by omega)))))
       go_wp2
       go_ret
       exact ⟨rbool (line_bad (by omega) HY.out (.inr hhs)).symm, bl_drewN hbr _⟩
    ·obtain rfl : k = n := by omega
     clear hcell hI
     go_wp2
     go_ret
     exact ⟨rbool (line_end (by omega) (by rw [hlen]; exact Hto.out)).symm, hbr⟩
 ·have h32' : 32 < (n : Int) := by omega
  have hq := line_long (xs := xs) (by rw [hI.len]; exact h32)
  clear hI
  go_enter Try.func55, Try.ntmps55
  go_wp2
  go_ret
  exact ⟨rbool hq.symm, Below.refl _ _⟩
open Go.RowKit Pl Il
theorem wpList_append_run {P : Program} {ops : Array Oper} {rest : List Oper} {o : Oper} {a : Act} {Q : Exit → Act → World → Prop} {w w' : World} (hgd : o.guard = none) (s x : Operand) (t : TypeId)
    (ho : o.op = .call { callee := .builtin .append, args := #[s, x], argTypes := #[t, t] }) (v u v' : Value) (hs : a.eval s = v) (hx : a.eval x = u)
    (hr : (Builtin.append_ #[t, t] o.type #[v, u]).run P w = .ok v' w') (h : wpList P ops Q rest (a.put o.dst v') w') : wpList P ops Q (o :: rest) a w :=
  wpList_plain hgd fun _ hK => by
    unfold Oper.wp execOp
    simp only [ho, resolve, invoke, builtin, Sem.run_bind, Sem.run_pure, Result.andThen_ok, List.map_toArray, List.map_cons, List.map_nil, hs, hx, hr]
    exact hK _ _ h
/-- A list that the call has made: its row, whole. -/
abbrev Owns (B : Nat) (w : World) (g n cap : Nat) (xs : List Int) : Prop := w.ownsRow B 3 1 (.slice (some ⟨g, 0, none⟩) n cap) n (xs.map (Value.int .i64))
theorem owns_parts {B : Nat} {w : World} {g n cap : Nat} {xs : List Int} (h : Owns B w g n cap xs) : xs.length = n ∧ B ≤ g ∧ g < w.heap.size ∧ n ≤ cap ∧ cap ≤ maxLen ∧ OwnAt B w (some ⟨g, 0, none⟩) n xs := by
  obtain ⟨a, c, e, ho⟩ := own_of h xs rfl
  cases e
  obtain ⟨hl, ⟨e, _⟩ | ⟨g', c', cur, e, hB, hg, hc, hm, _⟩⟩ := h
  · cases e
  · cases e
    refine ⟨by simpa using hl, hB, ?_, hc, hm, ho⟩
    rcases Nat.lt_or_ge g w.heap.size with k | k
    · exact k
    · rw [Array.getElem?_eq_none k] at hg; cases hg
theorem owns_keep {B : Nat} {w w' : World} {g n cap : Nat} {xs : List Int} (h : Owns B w g n cap xs) (hb : Below w.heap.size w w') : Owns B w' g n cap xs := by
  have hlt := (owns_parts h).2.2.1
  obtain ⟨hl, ⟨e, _⟩ | ⟨g', c', cur, e, hB, hg, hr⟩⟩ := h
  · cases e
  · cases e
    exact ⟨hl, .inr ⟨g, cap, cur, rfl, hB, by rw [hb.block g hlt]; exact hg, hr⟩⟩
theorem owns_empty (w : World) : Owns w.heap.size (w.alloc (.cells #[] 3)) w.heap.size 0 0 [] :=
  ⟨rfl, .inr ⟨w.heap.size, 0, #[], rfl, Nat.le_refl _, heap_alloc_new w _, Nat.le_refl _, Nat.zero_le _, rfl, rfl⟩⟩
theorem append_ints2 (B g m c : Nat) (ys : List Int) (a : Option Addr) (n cap : Nat) (xs : List Int) (w : World) (ho : Owns B w g m c ys) (hB : B ≤ w.heap.size) (hI : IntsAt w a n xs) (hs : m + n ≤ 4194304) :
  ∃ (g' c' : Nat) (w' : World), (Builtin.append_ #[24, 24] 24 #[.slice (some ⟨g, 0, none⟩) m c, .slice a n cap]).run Try.prog w = .ok (.slice (some ⟨g', 0, none⟩) (m + n) c') w' ∧
   Owns B w' g' (m + n) c' (ys ++ xs) ∧ w.grownBy w' (some g) ∧ (g' = g ∨ g' = w.heap.size) := by
 obtain ⟨i, hi, hz0, hz1, hz2⟩ := info_parts info3
 have hg0 : w.grownBy w (some g) := ⟨rfl, rfl, rfl, Nat.le_refl _, fun _ _ _ => rfl⟩
 have short : ∀ u : Value, (Builtin.append_ #[24, 24] 24 #[.slice (some ⟨g, 0, none⟩) m c, u]).run Try.prog w = .ok (.slice (some ⟨g, 0, none⟩) m c) w →
   ∃ (g' c' : Nat) (w' : World), (Builtin.append_ #[24, 24] 24 #[.slice (some ⟨g, 0, none⟩) m c, u]).run Try.prog w = .ok (.slice (some ⟨g', 0, none⟩) (m + 0) c') w' ∧ Owns B w' g' (m + 0) c' (ys ++ []) ∧ w.grownBy w' (some g) ∧ (g' = g ∨ g' = w.heap.size) :=
  fun u hu => ⟨g, c, w, hu, by rw [List.append_nil]; exact ho, hg0, .inl rfl⟩
 have hmc := (owns_parts ho).2.2.2.1
 obtain ⟨hlen, rfl | ⟨b, off, rfl, hb, hcell⟩⟩ := hI
 ·have hx : xs = [] := List.length_eq_zero_iff.1 hlen
  subst hx
  refine short _ ?_
  rcases a with _ | ad
  ·exact run_append_room_src _ _ _ _ 3 i Try.underlying24 hi g 0 m c _ 0 [] (Src.ofNil _ Try.underlying24 cap) (by omega) (fun j hj => by cases hj) (fun j hj => by cases hj)
  ·exact run_append_room_src _ _ _ _ 3 i Try.underlying24 hi g 0 m c _ 0 [] (Src.ofSlice _ Try.underlying24 ad 0 cap [] (by simp) (fun j u h => by simp at h) (fun u h => by cases h)) (by omega) (fun j hj => by cases hj) (fun j hj => by cases hj)
 ·rcases Nat.eq_zero_or_pos n with h0 | hpos
  ·subst h0
   have hx : xs = [] := List.length_eq_zero_iff.1 hlen
   subst hx
   refine short _ ?_
   exact run_append_room_src _ _ _ _ 3 i Try.underlying24 hi g 0 m c _ 0 [] (Src.ofSlice _ Try.underlying24 ⟨b, off, none⟩ 0 cap [] (by simp) (fun j u h => by simp at h) (fun u h => by cases h)) (by omega) (fun j hj => by cases hj) (fun j hj => by cases hj)
  ·obtain ⟨g', c', w', hr, hown, hgrow, hat, _⟩ := run_append_lies (P := Try.prog) w 24 24 B 3 i (.int .i64 0) 1 8 Try.underlying24 hi hz0 hz1 hz2 rfl (by omega) _ m _ ho ⟨b, off, none⟩ n cap (xs.map (Value.int .i64)) (by simp [hlen])
    (fun j u h => by
     rw [Addr.add_lit]
     have hj : j < n := by
      have := (List.getElem?_eq_some_iff.1 h).1
      simpa [hlen] using this
     rw [hcell j hj]
     simp only [List.getElem?_map] at h
     rw [List.getElem?_eq_getElem (by omega)] at h
     simp only [Option.map_some, Option.some.injEq] at h
     rw [← h]
     simp [List.getD, List.getElem?_eq_getElem (show j < xs.length by omega)])
    (fun u hu => by obtain ⟨_, _, rfl⟩ := List.mem_map.1 hu; rfl) hpos (by unfold maxLen; omega) (by omega) hB _ rfl
   refine ⟨g', c', w', hr, by rw [← List.map_append] at hown; exact hown, hgrow, ?_⟩
   rcases hat with h | h
   ·left; simpa [Value.ownBlock] using h.symm
   ·exact .inr h
theorem append_ints (B g m c : Nat) (ys : List Int) (a : Option Addr) (n cap : Nat) (xs : List Int) (w : World) (ho : Owns B w g m c ys) (hB : B ≤ w.heap.size) (hI : IntsAt w a n xs) (hs : m + n ≤ 4194304) :
    ∃ (g' c' : Nat) (w' : World), (Builtin.append_ #[24, 24] 24 #[.slice (some ⟨g, 0, none⟩) m c, .slice a n cap]).run Try.prog w = .ok (.slice (some ⟨g', 0, none⟩) (m + n) c') w' ∧
      Owns B w' g' (m + n) c' (ys ++ xs) ∧ w.grownBy w' (some g) := by
  obtain ⟨g', c', w', h1, h2, h3, _⟩ := append_ints2 B g m c ys a n cap xs w ho hB hI hs
  exact ⟨g', c', w', h1, h2, h3⟩
open Go.RowKit Pl Il
theorem l2Copy_any (a : Option Addr) (n cap : Nat) (xs : List Int) (w : World) (hI : IntsAt w a n xs) (hn : n ≤ 2097152) :
    Calls Try.prog 73 #[.slice a n cap] w fun e w' => ∃ g c, e = .returned (.slice (some ⟨g, 0, none⟩) n c) ∧ Owns w.heap.size w' g n c xs ∧ Below w.heap.size w w' := by
  have hb0 : Below w.heap.size w (w.alloc (.cells #[] 3)) := bl_alloc (Below.refl _ _) _
  obtain ⟨g, c, w', hr, ho, hg⟩ := append_ints w.heap.size w.heap.size 0 0 [] a n cap xs (w.alloc (.cells #[] 3)) (owns_empty w) (by simp) (hI.keep hb0) (by omega)
  rw [Nat.zero_add] at hr ho
  rw [List.nil_append] at ho
  have hb : Below w.heap.size w w' := hb0.grown hg (by simp) (fun k hk => by simp at hk; omega)
  have Hr : Hid _ := hr
  clear hr hg hb0 hI
  go_enter Try.func73, Try.ntmps73
  go_wp2_with (at_builtin; refine wpList_append_run rfl _ _ 24 rfl _ _ _ rfl rfl Hr.out ?_)
  go_ret
  exact ⟨g, c, rfl, ho, hb⟩
open Go.RowKit Pl Il
/-- append of one number to a row that is owned, or nil. -/
theorem append_own1 (B m : Nat) (v : Value) (ys : List Int) (x : Int) (w : World) (ho : w.ownsRow B 3 1 v m (ys.map (Value.int .i64))) (hB : B ≤ w.heap.size) (hs : m + 1 ≤ 4194304) :
    ∃ (g' c' : Nat) (w' : World), (Builtin.append_ #[24, 24] 24 #[v, .slice (some ⟨w.heap.size, 0, none⟩) 1 1]).run Try.prog (w.alloc (.cells #[.int .i64 x] 3)) = .ok (.slice (some ⟨g', 0, none⟩) (m + 1) c') w' ∧
      w'.ownsRow B 3 1 (.slice (some ⟨g', 0, none⟩) (m + 1) c') (m + 1) ((ys ++ [x]).map (Value.int .i64)) ∧ w.grownBy w' v.ownBlock ∧ (v.ownBlock = some g' ∨ w.heap.size ≤ g') := by
  obtain ⟨i, hi, hz0, hz1, hz2⟩ := info_parts info3
  obtain ⟨g', c', w', hr, hown, hgrow, hl, _⟩ := run_append_lies (P := Try.prog) (w.alloc (.cells #[.int .i64 x] 3)) 24 24 B 3 i (.int .i64 0) 1 8 Try.underlying24 hi hz0 hz1 hz2 rfl (by omega) v m _ (ho.alloc _) ⟨w.heap.size, 0, none⟩ 1 1 [.int .i64 x] rfl
    (cell_one_new _ _ _) (fun u hu => by rw [List.mem_singleton] at hu; subst hu; rfl) (by omega) (by unfold maxLen; omega) (by omega) (by simp; omega) _ rfl
  refine ⟨g', c', w', hr, by rw [List.map_append]; exact hown, (World.grownBy_alloc w _ _).trans hgrow, ?_⟩
  rcases hl with h | h
  · exact .inl h
  · right; subst h; simp
theorem append_one (B g m c : Nat) (ys : List Int) (x : Int) (w w0 : World) (hB : B = w0.heap.size) (ho : Owns B w g m c ys) (hb : Below B w0 w) (hs : m + 1 ≤ 4194304) :
    ∃ (g' c' : Nat) (w' : World), (Builtin.append_ #[24, 24] 24 #[.slice (some ⟨g, 0, none⟩) m c, .slice (some ⟨w.heap.size, 0, none⟩) 1 1]).run Try.prog (w.alloc (.cells #[.int .i64 x] 3)) = .ok (.slice (some ⟨g', 0, none⟩) (m + 1) c') w' ∧
      Owns B w' g' (m + 1) c' (ys ++ [x]) ∧ Below B w0 w' := by
  subst hB
  have hb0 : Below w.heap.size w (w.alloc (.cells #[.int .i64 x] 3)) := bl_alloc (Below.refl _ _) _
  have hle := hb.size
  obtain ⟨_, hgB, _⟩ := owns_parts ho
  obtain ⟨g', c', w', hr, ho', hg⟩ := append_ints w0.heap.size g m c ys (some ⟨w.heap.size, 0, none⟩) 1 1 [x] (w.alloc (.cells #[.int .i64 x] 3)) (owns_keep ho hb0) (by simp; omega)
    ⟨rfl, .inr ⟨w.heap.size, 0, rfl, by simp, fun i hi => by obtain rfl : i = 0 := by omega
                                                             simp [World.cell?_alloc_new]⟩⟩ (by omega)
  exact ⟨g', c', w', hr, ho', (bl_alloc hb _).grown hg (by simp; omega) (fun k hk => by simp at hk; omega)⟩
/-- A list without the first that is x. -/
def lessL (xs : List Int) (x : Int) : List Int := xs.erase x
theorem less_skip {xs : List Int} {k : Nat} {x y : Int} (hk : k < xs.length) (hy : xs.getD k 0 = y) (h : hasL (xs.take k) x = false) (he : (y == x) = true) : lessL (xs.take (k + 1)) x = lessL (xs.take k) x := by
  rw [List.take_succ_eq_append_getElem hk]
  have e : xs.getD k 0 = xs[k] := by simp [List.getD, List.getElem?_eq_getElem hk]
  rw [e] at hy
  have hm : x ∉ xs.take k := by simpa [hasL] using h
  have hyx : y = x := by simpa using he
  unfold lessL
  rw [List.erase_append_right _ hm, hy, hyx, List.erase_of_not_mem hm]
  simp
theorem less_keep {xs : List Int} {k : Nat} {x y : Int} (hk : k < xs.length) (hy : xs.getD k 0 = y) (h : hasL (xs.take k) x = true ∨ (y == x) = false) : lessL (xs.take (k + 1)) x = lessL (xs.take k) x ++ [y] := by
  rw [List.take_succ_eq_append_getElem hk]
  have e : xs.getD k 0 = xs[k] := by simp [List.getD, List.getElem?_eq_getElem hk]
  rw [e] at hy
  unfold lessL
  rw [List.erase_append, hy]
  split
  · rfl
  · rename_i hn
    rcases h with h | h
    · exact absurd (by simpa [hasL] using h) hn
    · rw [List.erase_of_not_mem hn, List.erase_of_not_mem]
      simp only [List.mem_singleton]
      rintro rfl
      simp at h
theorem has_more {xs : List Int} {k : Nat} {x y : Int} (hk : k < xs.length) (hy : xs.getD k 0 = y) : hasL (xs.take (k + 1)) x = (hasL (xs.take k) x || (y == x)) := by
  rw [List.take_succ_eq_append_getElem hk]
  have e : xs.getD k 0 = xs[k] := by simp [List.getD, List.getElem?_eq_getElem hk]
  rw [e] at hy
  rw [Bool.eq_iff_iff]
  simp only [hasL, hy, List.contains_eq_mem, List.mem_append, List.mem_singleton, Bool.or_eq_true, decide_eq_true_eq, beq_iff_eq]
  exact ⟨fun h => h.imp id Eq.symm, fun h => h.imp id Eq.symm⟩
theorem less_len (xs : List Int) (x : Int) : (lessL xs x).length ≤ xs.length := List.length_erase_le
theorem l2Less_any (a : Option Addr) (n cap : Nat) (xs : List Int) (x : Int) (w : World) (hI : IntsAt w a n xs) (hn : n ≤ 2097152) :
  Calls Try.prog 52 #[.slice a n cap, .int .i64 x] w fun e w' => ∃ g m c, e = .returned (.slice (some ⟨g, 0, none⟩) m c) ∧ Owns w.heap.size w' g m c (lessL xs x) ∧ Below w.heap.size w w' := by
 obtain ⟨hlen, rfl | ⟨b, off, rfl, hb, hcell⟩⟩ := hI
 ·have : xs = [] := List.length_eq_zero_iff.1 hlen
  subst this
  go_enter Try.func52, Try.ntmps52
  go_wp2
  go_loopw [5, 6, 7] (fun o d i wr => i = .int .i64 0 ∧ d = .bool false ∧ o = .slice (some ⟨w.heap.size, 0, none⟩) 0 0 ∧ Owns w.heap.size wr w.heap.size 0 0 [] ∧ Below w.heap.size w wr) (fun _ _ _ _ => 0)
  case atStart => exact ⟨rfl, rfl, rfl, owns_empty w, bl_alloc (Below.refl _ _) _⟩
  case round =>
   obtain ⟨rfl, rfl, rfl, ho, hbr⟩ := hrel
   go_wp2
   go_ret
   exact ⟨_, _, _, rfl, ho, hbr⟩
 ·go_enter Try.func52, Try.ntmps52
  go_wp2
  go_loopw [5, 6, 7] (fun o d i wr => ∃ k m g c : Nat, k ≤ n ∧ i = .int .i64 k ∧ d = .bool (hasL (xs.take k) x) ∧ o = .slice (some ⟨g, 0, none⟩) m c ∧ Owns w.heap.size wr g m c (lessL (xs.take k) x) ∧ Below w.heap.size w wr) (fun _ _ i _ => n - (intOf i).toNat)
  case atStart => exact ⟨0, 0, w.heap.size, 0, Nat.zero_le _, rfl, rfl, rfl, owns_empty w, bl_alloc (Below.refl _ _) _⟩
  case round =>
   rename_i wr
   obtain ⟨k, m, g, c, hk, rfl, rfl, rfl, ho, hbr⟩ := hrel
   by_cases hlt : k < n
   ·have hc : wr.cell? ⟨b, off + k, none⟩ = some (.int .i64 (xs.getD k 0)) := by rw [hbr.cell (p := ⟨b, off + k, none⟩) hb]; exact hcell k hlt
    generalize hy : xs.getD k 0 = y at hc
    have hm : m ≤ n := by
     have h1 := (owns_parts ho).1
     have h2 := less_len (xs.take k) x
     rw [List.length_take] at h2
     omega
    obtain ⟨g', c', w', hr, ho', hb'⟩ := append_one w.heap.size g m c _ y wr w rfl ho hbr (by omega)
    have HY : Hid _ := hy
    have Hr : Hid _ := hr
    have Ho : Hid _ := ho
    have Ho' : Hid _ := ho'
    have Hbr : Hid _ := hbr
    have Hb' : Hid _ := hb'
    have hkx : k < xs.length := by omega
    clear hy hcell hr ho ho' hbr hb'
    cases hh : hasL (xs.take k) x
    ·cases he : (y == x)
     ·have hne : y ≠ x := by simpa using he
      go_wp2_with (at_builtin; refine wpList_append_run rfl _ _ 24 rfl _ _ _ rfl rfl Hr.out ?_)
      go_roundw
      case rel => exact ⟨k + 1, m + 1, g', c', by omega, by go_num, by rw [has_more hkx HY.out, hh, he]; rfl, rfl, by rw [less_keep hkx HY.out (.inr he)]; exact Ho'.out, Hb'.out⟩
      case measure => simp [intOf]; omega
     ·have hne : y = x := by simpa using he
      go_wp2
      go_roundw
      case rel => exact ⟨k + 1, m, g, c, by omega, by go_num, by rw [has_more hkx HY.out, hh, he]; rfl, rfl, by rw [less_skip hkx HY.out hh he]; exact Ho.out, Hbr.out⟩
      case measure => simp [intOf]; omega
    ·cases he : (y == x)
     ·have hne : y ≠ x := by simpa using he
      go_wp2_with (at_builtin; refine wpList_append_run rfl _ _ 24 rfl _ _ _ rfl rfl Hr.out ?_)
      go_roundw
      case rel => exact ⟨k + 1, m + 1, g', c', by omega, by go_num, by rw [has_more hkx HY.out, hh]; rfl, rfl, by rw [less_keep hkx HY.out (.inl hh)]; exact Ho'.out, Hb'.out⟩
      case measure => simp [intOf]; omega
     ·obtain rfl : y = x := by simpa using he
      go_wp2_with (at_builtin; refine wpList_append_run rfl _ _ 24 rfl _ _ _ rfl rfl Hr.out ?_)
      go_roundw
      case rel => exact ⟨k + 1, m + 1, g', c', by omega, by go_num, by rw [has_more hkx HY.out, hh]; rfl, rfl, by rw [less_keep hkx HY.out (.inl hh)]; exact Ho'.out, Hb'.out⟩
      case measure => simp [intOf]; omega
   ·obtain rfl : k = n := by omega
    clear hcell
    rw [List.take_of_length_le (by omega)] at ho
    go_wp2
    go_ret
    exact ⟨_, _, _, rfl, ho, hbr⟩
open Go.RowKit Pl Il
def gC (p : Int × Bool) : List Value := [.int .i64 p.1, .bool p.2]
def gflat (ts : List (Int × Bool)) : List Value := ts.flatMap gC
def gg (ts : List (Int × Bool)) (i : Nat) : Int × Bool := ts.getD i (0, false)
theorem length_gflat (l : List (Int × Bool)) : (gflat l).length = l.length * 2 := by
  induction l with
  | nil => rfl
  | cons x l ih => simp [gflat, gC] at ih ⊢; omega
theorem gflat_at : ∀ (l : List (Int × Bool)) (i r : Nat), i < l.length → r < 2 → (gflat l)[i * 2 + r]? = (gC (gg l i))[r]?
  | [], i, r, hi, _ => by simp at hi
  | x :: l, 0, r, _, hr => by
    have e : gflat (x :: l) = gC x ++ gflat l := by simp [gflat]
    rw [e, List.getElem?_append_left (by simp [gC]; omega)]
    simp [gg]
  | x :: l, i + 1, r, hi, hr => by
    have e : gflat (x :: l) = gC x ++ gflat l := by simp [gflat]
    have hc : (gC x).length = 2 := rfl
    rw [e, List.getElem?_append_right (by rw [hc]; omega), hc, show (i + 1) * 2 + r - 2 = i * 2 + r by omega, gflat_at l i r (by simpa using hi) hr]
    simp [gg]
theorem gflat_append (l m : List (Int × Bool)) : gflat (l ++ m) = gflat l ++ gflat m := by simp [gflat]
theorem gg_eq {l : List (Int × Bool)} {i : Nat} (h : i < l.length) : gg l i = l[i] := by unfold gg; rw [List.getD_eq_getElem?_getD, List.getElem?_eq_getElem h]; rfl
theorem take_gg {l : List (Int × Bool)} {k : Nat} (h : k < l.length) : l.take (k + 1) = l.take k ++ [gg l k] := by rw [List.take_succ_eq_append_getElem h, gg_eq h]
theorem drop_gg {l : List (Int × Bool)} {k : Nat} (h : k < l.length) : l.drop k = gg l k :: l.drop (k + 1) := by rw [List.drop_eq_getElem_cons h, gg_eq h]
/-- The slice at a, of n grants, reads as ts in w. -/
structure GrAt (w : World) (a : Option Addr) (n : Nat) (ts : List (Int × Bool)) : Prop where
  len : ts.length = n
  row : n = 0 ∨ ∃ b off, a = some ⟨b, off, none⟩ ∧ b < w.heap.size ∧ ∀ i, i < n → w.cell? ⟨b, off + i * 2, none⟩ = some (.int .i64 (gg ts i).1) ∧ w.cell? ⟨b, off + i * 2 + 1, none⟩ = some (.bool (gg ts i).2)
theorem GrAt.keep {w w' : World} {a : Option Addr} {n : Nat} {ts : List (Int × Bool)} (h : GrAt w a n ts) (hb : Below w.heap.size w w') : GrAt w' a n ts := by
  refine ⟨h.len, ?_⟩
  rcases h.row with k | ⟨b, off, rfl, hlt, hc⟩
  · exact .inl k
  · exact .inr ⟨b, off, rfl, Nat.lt_of_lt_of_le hlt hb.size, fun i hi => by rw [hb.cell (p := ⟨b, off + i * 2, none⟩) hlt, hb.cell (p := ⟨b, off + i * 2 + 1, none⟩) hlt]; exact hc i hi⟩
theorem GrAt.below {w w' : World} {B : Nat} {a : Option Addr} {n : Nat} {ts : List (Int × Bool)} (h : GrAt w a n ts) (hb : Below B w w') (hB : n = 0 ∨ ∀ b off, a = some ⟨b, off, none⟩ → b < B) : GrAt w' a n ts := by
  refine ⟨h.len, ?_⟩
  rcases h.row with k | ⟨b, off, rfl, hlt, hc⟩
  · exact .inl k
  · rcases hB with k | hB
    · exact .inl k
    · have hbB := hB b off rfl
      exact .inr ⟨b, off, rfl, Nat.lt_of_lt_of_le hlt hb.size, fun i hi => by rw [hb.cell (p := ⟨b, off + i * 2, none⟩) hbB, hb.cell (p := ⟨b, off + i * 2 + 1, none⟩) hbB]; exact hc i hi⟩
theorem GrAt.nil (w : World) (a : Option Addr) : GrAt w a 0 [] := ⟨rfl, .inl rfl⟩
theorem GrAt.lt {w : World} {a : Option Addr} {n : Nat} {ts : List (Int × Bool)} (h : GrAt w a n ts) : n = 0 ∨ ∀ b off, a = some ⟨b, off, none⟩ → b < w.heap.size := by
  rcases h.row with k | ⟨b, off, rfl, hlt, hc⟩
  · exact .inl k
  · exact .inr fun b' o' e => by cases e; exact hlt
/-- Its cells lie in blocks from B on, and may be written. -/
structure OwnG (B : Nat) (w : World) (a : Option Addr) (n : Nat) (ts : List (Int × Bool)) : Prop where
  gr : GrAt w a n ts
  own : n = 0 ∨ ∃ b off, a = some ⟨b, off, none⟩ ∧ B ≤ b ∧ ∀ o, w.frozen? ⟨b, o, none⟩ = false
theorem OwnG.keep {B : Nat} {w w' : World} {a : Option Addr} {n : Nat} {ts : List (Int × Bool)} (h : OwnG B w a n ts) (hb : Below w.heap.size w w') : OwnG B w' a n ts := by
  refine ⟨h.gr.keep hb, ?_⟩
  rcases h.own with k | ⟨b, off, rfl, hB, hf⟩
  · exact .inl k
  · rcases h.gr.row with k | ⟨b', off', e, hlt, _⟩
    · exact .inl k
    · cases e
      exact .inr ⟨b, off, rfl, hB, fun o => by rw [hb.frozen (p := ⟨b, o, none⟩) hlt]; exact hf o⟩
theorem OwnG.mono {B B' : Nat} {w : World} {a : Option Addr} {n : Nat} {ts : List (Int × Bool)} (h : OwnG B w a n ts) (hB : B' ≤ B) : OwnG B' w a n ts := by
  refine ⟨h.gr, ?_⟩
  rcases h.own with k | ⟨b, off, rfl, hb, hf⟩
  · exact .inl k
  · exact .inr ⟨b, off, rfl, Nat.le_trans hB hb, hf⟩
theorem OwnG.other {B : Nat} {w w' : World} {a : Option Addr} {n b : Nat} {ts : List (Int × Bool)} (h : OwnG B w a n ts) (hg : w.grownBy w' (some b)) (hne : n = 0 ∨ ∀ b' off', a = some ⟨b', off', none⟩ → b ≠ b') : OwnG B w' a n ts := by
  obtain ⟨⟨hl, hr⟩, ho⟩ := h
  rcases hne with h0 | hne
  · exact ⟨⟨hl, .inl h0⟩, .inl h0⟩
  · rcases hr with h0 | ⟨b1, off, rfl, hlt, hc⟩
    · exact ⟨⟨hl, .inl h0⟩, .inl h0⟩
    · have key : w'.heap[b1]? = w.heap[b1]? := hg.block b1 hlt (by intro e; cases e; exact hne _ _ rfl rfl)
      rcases ho with h0 | ⟨b', off', e, hB, hf⟩
      · exact ⟨⟨hl, .inl h0⟩, .inl h0⟩
      · cases e
        refine ⟨⟨hl, .inr ⟨b1, off, rfl, Nat.lt_of_lt_of_le hlt hg.size, fun i hi => ?_⟩⟩, .inr ⟨b1, off, rfl, hB, fun o => ?_⟩⟩
        · rw [World.cell?_of_block (w := w) (a := ⟨b1, off + i * 2, none⟩) key, World.cell?_of_block (w := w) (a := ⟨b1, off + i * 2 + 1, none⟩) key]; exact hc i hi
        · rw [← hf o]; exact World.frozen?_of_block key
/-- A store into an elder block. -/
theorem OwnG.far {B : Nat} {w : World} {a : Option Addr} {n : Nat} {ts : List (Int × Bool)} (h : OwnG B w a n ts) (b o : Nat) (hb : b < B) (x : Value) : OwnG B (w.setCell ⟨b, o, none⟩ x) a n ts := by
  refine h.other (b := b) ⟨rfl, rfl, rfl, by simp, fun k _ hk => Below.heap_setCell _ _ _ _ (by rintro rfl; exact hk rfl)⟩ ?_
  rcases h.own with h0 | ⟨b', off', rfl, hB, _⟩
  · exact .inl h0
  · exact .inr fun b1 o1 e => by cases e; omega
/-- What append's laws own is such a slice. -/
theorem ownG_of {B : Nat} {w : World} {t : TypeId} {v : Value} {n : Nat} {ys : List Value} (h : w.ownsRow B t 2 v n ys) (ts : List (Int × Bool)) (hx : ys = gflat ts) : ∃ a cap, v = .slice a n cap ∧ n ≤ cap ∧ OwnG B w a n ts := by
  subst hx
  have hlen : ts.length = n := by have := h.1; rw [length_gflat] at this; omega
  obtain ⟨hl, ⟨rfl, rfl⟩ | ⟨g, cap, cur, rfl, hB, hg, hc, hm, hs, ht⟩⟩ := id h
  · exact ⟨_, _, rfl, Nat.le_refl _, ⟨⟨hlen, .inl rfl⟩, .inl rfl⟩⟩
  · have hlt : g < w.heap.size := by
      rcases Nat.lt_or_ge g w.heap.size with k | k
      · exact k
      · rw [Array.getElem?_eq_none k] at hg; cases hg
    refine ⟨_, _, rfl, hc, ⟨⟨hlen, .inr ⟨g, 0, rfl, hlt, fun i hi => ?_⟩⟩, .inr ⟨g, 0, rfl, hB, fun o => by simp [World.frozen?, hg]⟩⟩⟩
    have key : ∀ r, r < 2 → w.cell? ⟨g, i * 2 + r, none⟩ = (gC (gg ts i))[r]? := fun r hr => by
      rw [h.cellAt (i * 2 + r) (by omega), gflat_at ts i r (by omega) hr]
    rw [Nat.zero_add]
    exact ⟨key 0 (by omega), key 1 (by omega)⟩
open Go.RowKit Pl Il
def cnt (x : Int) : Bool := decide (0 ≤ x) && decide (x ≤ 1000000000)
/-- Nobody of told stands in the line. -/
def apartL (ln told : List Int) : Bool := told.all fun x => !hasL ln x
theorem apart_step {ln told : List Int} {k : Nat} {y : Int} (hk : k < told.length) (hy : told.getD k 0 = y) (h : apartL ln (told.take k) = true) (hh : hasL ln y = false) : apartL ln (told.take (k + 1)) = true := by
  have e : told.getD k 0 = told[k] := by simp [List.getD, List.getElem?_eq_getElem hk]
  rw [List.take_succ_eq_append_getElem hk, ← e, hy]
  simp only [apartL, List.all_append, List.all_cons, List.all_nil, Bool.and_true, Bool.and_eq_true] at h ⊢
  exact ⟨h, by rw [hh]; rfl⟩
theorem apart_bad {ln told : List Int} {k : Nat} {y : Int} (hk : k < told.length) (hy : told.getD k 0 = y) (hh : hasL ln y = true) : apartL ln told = false := by
  have e : told.getD k 0 = told[k] := by simp [List.getD, List.getElem?_eq_getElem hk]
  unfold apartL
  rw [List.all_eq_false]
  exact ⟨told[k], List.getElem_mem _, by rw [← e, hy, hh]; simp⟩
theorem apart_end {ln told : List Int} {k : Nat} (hk : told.length ≤ k) (h : apartL ln (told.take k) = true) : apartL ln told = true := by rwa [List.take_of_length_le hk] at h
/-- Who waits and who was told are right. -/
def waitL (ln told : List Int) : Bool := lineL ln && lineL told && apartL ln told
/-- Where two lists lie. -/
structure Na where
  a : Option Addr
  n : Nat
  c : Nat
  a' : Option Addr
  n' : Nat
  c' : Nat
def Na.zero : Na := ⟨none, 0, 0, none, 0, 0⟩
/-- Each list lies within its room. -/
def Na.ok (A : Na) : Prop := A.n ≤ A.c ∧ A.n' ≤ A.c'
open Go.RowKit Pl Il
/-- A notification: its permit, line, grants, and three counts. -/
structure Nt where
  pm : Bool
  ln : List Int
  gs : List (Int × Bool)
  on : Int
  sp : Int
  tk : Int
def whosL (gs : List (Int × Bool)) : List Int := gs.map (·.1)
theorem whos_len (gs : List (Int × Bool)) : (whosL gs).length = gs.length := by simp [whosL]
theorem whos_snoc (gs : List (Int × Bool)) (g : Int × Bool) : whosL (gs ++ [g]) = whosL gs ++ [g.1] := by simp [whosL]
theorem whos_take (gs : List (Int × Bool)) (k : Nat) : whosL (gs.take k) = (whosL gs).take k := by simp [whosL]
theorem whos_at (gs : List (Int × Bool)) (k : Nat) : (whosL gs).getD k 0 = (gg gs k).1 := by
  unfold whosL gg
  rw [List.getD_eq_getElem?_getD, List.getD_eq_getElem?_getD, List.getElem?_map]
  cases gs[k]? <;> rfl
/-- How many grants are by a telling of one. -/
def onesL : List (Int × Bool) → Int
  | [] => 0
  | g :: gs => (if g.2 then 1 else 0) + onesL gs
theorem ones_snoc : ∀ (gs : List (Int × Bool)) (g : Int × Bool), onesL (gs ++ [g]) = onesL gs + (if g.2 then 1 else 0)
  | [], g => by simp [onesL]
  | x :: gs, g => by
    have := ones_snoc gs g
    simp only [List.cons_append, onesL, this]
    omega
theorem ones_bd : ∀ (gs : List (Int × Bool)), 0 ≤ onesL gs ∧ onesL gs ≤ gs.length
  | [] => by simp [onesL]
  | x :: gs => by
    have := ones_bd gs
    simp only [onesL, List.length_cons]
    split <;> omega
def permI (b : Bool) : Int := if b then 1 else 0
/-- What is taken, spilt, granted or stored. -/
def heldN (x : Nt) : Int := x.tk + x.sp + onesL x.gs + permI x.pm
/-- A right notification. -/
def okN (x : Nt) : Bool := waitL x.ln (whosL x.gs) && !(x.pm && decide (0 < x.ln.length)) && (cnt x.on && cnt x.sp && cnt x.tk) && decide (x.on = heldN x)
/-- A telling of one is placed. -/
def oneM (x : Nt) : Nt × Int :=
  match x.ln with
  | who :: r => ({ x with ln := r, gs := x.gs ++ [(who, true)] }, who)
  | [] => if x.pm then ({ x with sp := x.sp + 1 }, -1) else ({ x with pm := true }, -1)
def fullOne (x : Nt) : Bool := decide (1000000000 ≤ x.on) || decide (0 < x.ln.length) && decide (32 ≤ x.gs.length)
def tellOneM (x : Nt) : Nt × Int × Int :=
  if okN x = false then (x, -1, 1) else if fullOne x = true then (x, -1, 2) else ((oneM { x with on := x.on + 1 }).1, (oneM { x with on := x.on + 1 }).2, 0)
def allM (x : Nt) : Nt := { x with ln := [], gs := x.gs ++ x.ln.map fun y => (y, false) }
def tellAllM (x : Nt) : Nt × List Int × Int :=
  if okN x = false then (x, [], 1) else if 32 < x.ln.length + x.gs.length then (x, [], 2) else (allM x, x.ln, 0)
/-- Is who among those who were told? -/
def toldL (x : Nt) (who : Int) : Bool := hasL (whosL x.gs) who
def awaitM (x : Nt) (who : Int) : Nt × Int :=
  if okN x = false ∨ clientL who = false then (x, 1)
  else if hasL x.ln who = true ∨ toldL x who = true then (x, 5)
  else if 1000000000 ≤ x.tk ∨ x.pm = false ∧ 32 ≤ x.ln.length then (x, 2)
  else if x.pm = true then ({ x with pm := false, tk := x.tk + 1 }, 0) else ({ x with ln := x.ln ++ [who] }, 4)
/-- The grants without who's. -/
def lessG (gs : List (Int × Bool)) (who : Int) : List (Int × Bool) := gs.filter fun g => !(g.1 == who)
/-- By a telling of one? -/
def oneOf (gs : List (Int × Bool)) (who : Int) : Bool := hasG gs (who, true)
  where hasG (gs : List (Int × Bool)) (g : Int × Bool) : Bool := gs.contains g
def resumeM (x : Nt) (who : Int) : Nt × Int :=
  if okN x = false then (x, 1)
  else if hasL x.ln who = true then (x, 4)
  else if toldL x who = false then (x, 3)
  else if oneOf x.gs who = true ∧ 1000000000 ≤ x.tk then (x, 2)
  else ({ x with gs := lessG x.gs who, tk := x.tk + permI (oneOf x.gs who) }, 0)
def withdrawM (x : Nt) (who : Int) : Nt × Int × Int :=
  if okN x = false then (x, -1, 1)
  else if hasL x.ln who = true then ({ x with ln := lessL x.ln who }, -1, 0)
  else if toldL x who = false then (x, -1, 3)
  else if oneOf x.gs who = false then ({ x with gs := lessG x.gs who }, -1, 0)
  else if x.ln.length = 0 ∧ x.pm = true ∧ 1000000000 ≤ x.sp then (x, -1, 2)
  else ((oneM { x with gs := lessG x.gs who }).1, (oneM { x with gs := lessG x.gs who }).2, 0)
open Go.RowKit Pl Il
def Nt.zero : Nt := ⟨false, [], [], 0, 0, 0⟩
/-- A variable of a notification in block N. -/
structure NBox (N : Nat) (A : Na) (x : Nt) (w : World) : Prop where
  lt : N < w.heap.size
  c0 : w.cell? ⟨N, 0, none⟩ = some (.bool x.pm)
  c1 : w.cell? ⟨N, 1, none⟩ = some (.slice A.a A.n A.c)
  c2 : w.cell? ⟨N, 2, none⟩ = some (.slice A.a' A.n' A.c')
  c3 : w.cell? ⟨N, 3, none⟩ = some (.int .i64 x.on)
  c4 : w.cell? ⟨N, 4, none⟩ = some (.int .i64 x.sp)
  c5 : w.cell? ⟨N, 5, none⟩ = some (.int .i64 x.tk)
  fr : ∀ o, w.frozen? ⟨N, o, none⟩ = false
theorem NBox.new (w : World) (A : Na) (x : Nt) (t : TypeId) : NBox w.heap.size A x (w.alloc (.cells #[.bool x.pm, .slice A.a A.n A.c, .slice A.a' A.n' A.c', .int .i64 x.on, .int .i64 x.sp, .int .i64 x.tk] t)) :=
  ⟨by simp, by simp, by simp, by simp, by simp, by simp, by simp, fun o => by simp [go_sem]⟩
theorem NBox.newZ (w : World) (t : TypeId) : NBox w.heap.size Na.zero Nt.zero (w.alloc (.cells #[.bool false, .slice none 0 0, .slice none 0 0, .int .i64 0, .int .i64 0, .int .i64 0] t)) := NBox.new w Na.zero Nt.zero t
section
variable {N : Nat} {A : Na} {x : Nt} {w u : World}
theorem NBox.of_block (h : NBox N A x w) (key : u.heap[N]? = w.heap[N]?) (hs : N < u.heap.size) : NBox N A x u :=
  ⟨hs, by rw [← h.c0]; exact World.cell?_of_block key, by rw [← h.c1]; exact World.cell?_of_block key, by rw [← h.c2]; exact World.cell?_of_block key, by rw [← h.c3]; exact World.cell?_of_block key, by rw [← h.c4]; exact World.cell?_of_block key, by rw [← h.c5]; exact World.cell?_of_block key, fun k => by rw [← h.fr k]; exact World.frozen?_of_block key⟩
theorem NBox.below {B : Nat} (h : NBox N A x w) (hb : Below B w u) (hN : N < B) : NBox N A x u := h.of_block (hb.block N hN) (Nat.lt_of_lt_of_le h.lt hb.size)
theorem NBox.keep (h : NBox N A x w) (hb : Below w.heap.size w u) : NBox N A x u := h.below hb h.lt
theorem NBox.alloc (h : NBox N A x w) (o : Obj) : NBox N A x (w.alloc o) := h.keep (bl_alloc (Below.refl _ _) o)
theorem NBox.far (h : NBox N A x w) (M o : Nat) (hM : N ≠ M) (y : Value) : NBox N A x (w.setCell ⟨M, o, none⟩ y) := h.of_block (Below.heap_setCell w ⟨M, o, none⟩ y N hM) (by simpa using h.lt)
theorem NBox.grown {g : Nat} (h : NBox N A x w) (hg : w.grownBy u (some g)) (hN : N ≠ g) : NBox N A x u := h.of_block (hg.block N h.lt (by intro e; cases e; exact hN rfl)) (Nat.lt_of_lt_of_le h.lt hg.size)
theorem NBox.grownO {g : Option Nat} (h : NBox N A x w) (hg : w.grownBy u g) (hN : g ≠ some N) : NBox N A x u := h.of_block (hg.block N h.lt (fun e => hN e.symm)) (Nat.lt_of_lt_of_le h.lt hg.size)
theorem NBox.set0 {b : Bool} (h : NBox N A x w) : NBox N A { x with pm := b } (w.setCell ⟨N, 0, none⟩ (.bool b)) :=
  ⟨by simpa using h.lt, World.cell?_setCell_same _ _ _ h.c0, by rw [World.cell?_setCell_other _ _ _ _ (by simp)]; exact h.c1, by rw [World.cell?_setCell_other _ _ _ _ (by simp)]; exact h.c2, by rw [World.cell?_setCell_other _ _ _ _ (by simp)]; exact h.c3, by rw [World.cell?_setCell_other _ _ _ _ (by simp)]; exact h.c4, by rw [World.cell?_setCell_other _ _ _ _ (by simp)]; exact h.c5, fun k => by simpa using h.fr k⟩
theorem NBox.set1 {a : Option Addr} {n c : Nat} (h : NBox N A x w) : NBox N { A with a := a, n := n, c := c } x (w.setCell ⟨N, 1, none⟩ (.slice a n c)) :=
  ⟨by simpa using h.lt, by rw [World.cell?_setCell_other _ _ _ _ (by simp)]; exact h.c0, World.cell?_setCell_same _ _ _ h.c1, by rw [World.cell?_setCell_other _ _ _ _ (by simp)]; exact h.c2, by rw [World.cell?_setCell_other _ _ _ _ (by simp)]; exact h.c3, by rw [World.cell?_setCell_other _ _ _ _ (by simp)]; exact h.c4, by rw [World.cell?_setCell_other _ _ _ _ (by simp)]; exact h.c5, fun k => by simpa using h.fr k⟩
theorem NBox.set2 {a : Option Addr} {n c : Nat} (h : NBox N A x w) : NBox N { A with a' := a, n' := n, c' := c } x (w.setCell ⟨N, 2, none⟩ (.slice a n c)) :=
  ⟨by simpa using h.lt, by rw [World.cell?_setCell_other _ _ _ _ (by simp)]; exact h.c0, by rw [World.cell?_setCell_other _ _ _ _ (by simp)]; exact h.c1, World.cell?_setCell_same _ _ _ h.c2, by rw [World.cell?_setCell_other _ _ _ _ (by simp)]; exact h.c3, by rw [World.cell?_setCell_other _ _ _ _ (by simp)]; exact h.c4, by rw [World.cell?_setCell_other _ _ _ _ (by simp)]; exact h.c5, fun k => by simpa using h.fr k⟩
theorem NBox.set3 {v : Int} (h : NBox N A x w) : NBox N A { x with on := v } (w.setCell ⟨N, 3, none⟩ (.int .i64 v)) :=
  ⟨by simpa using h.lt, by rw [World.cell?_setCell_other _ _ _ _ (by simp)]; exact h.c0, by rw [World.cell?_setCell_other _ _ _ _ (by simp)]; exact h.c1, by rw [World.cell?_setCell_other _ _ _ _ (by simp)]; exact h.c2, World.cell?_setCell_same _ _ _ h.c3, by rw [World.cell?_setCell_other _ _ _ _ (by simp)]; exact h.c4, by rw [World.cell?_setCell_other _ _ _ _ (by simp)]; exact h.c5, fun k => by simpa using h.fr k⟩
theorem NBox.set4 {v : Int} (h : NBox N A x w) : NBox N A { x with sp := v } (w.setCell ⟨N, 4, none⟩ (.int .i64 v)) :=
  ⟨by simpa using h.lt, by rw [World.cell?_setCell_other _ _ _ _ (by simp)]; exact h.c0, by rw [World.cell?_setCell_other _ _ _ _ (by simp)]; exact h.c1, by rw [World.cell?_setCell_other _ _ _ _ (by simp)]; exact h.c2, by rw [World.cell?_setCell_other _ _ _ _ (by simp)]; exact h.c3, World.cell?_setCell_same _ _ _ h.c4, by rw [World.cell?_setCell_other _ _ _ _ (by simp)]; exact h.c5, fun k => by simpa using h.fr k⟩
theorem NBox.set5 {v : Int} (h : NBox N A x w) : NBox N A { x with tk := v } (w.setCell ⟨N, 5, none⟩ (.int .i64 v)) :=
  ⟨by simpa using h.lt, by rw [World.cell?_setCell_other _ _ _ _ (by simp)]; exact h.c0, by rw [World.cell?_setCell_other _ _ _ _ (by simp)]; exact h.c1, by rw [World.cell?_setCell_other _ _ _ _ (by simp)]; exact h.c2, by rw [World.cell?_setCell_other _ _ _ _ (by simp)]; exact h.c3, by rw [World.cell?_setCell_other _ _ _ _ (by simp)]; exact h.c4, World.cell?_setCell_same _ _ _ h.c5, fun k => by simpa using h.fr k⟩
end
/-- A notification whose lists may be read. -/
structure NIn (w : World) (A : Na) (x : Nt) : Prop where
  ints : IntsAt w A.a A.n x.ln
  grs : GrAt w A.a' A.n' x.gs
theorem NIn.keep {w w' : World} {A : Na} {x : Nt} (h : NIn w A x) (hb : Below w.heap.size w w') : NIn w' A x := ⟨h.ints.keep hb, h.grs.keep hb⟩
/-- Its two lists lie in new memory, apart from one another. -/
structure NOwn (B : Nat) (w : World) (A : Na) (x : Nt) : Prop where
  one : Il.OwnAt B w A.a A.n x.ln
  two : OwnG B w A.a' A.n' x.gs
  apart : A.n = 0 ∨ A.n' = 0 ∨ ∀ b off b' off', A.a = some ⟨b, off, none⟩ → A.a' = some ⟨b', off', none⟩ → b ≠ b'
theorem NOwn.nin {B : Nat} {w : World} {A : Na} {x : Nt} (h : NOwn B w A x) : NIn w A x := ⟨h.one.ints, h.two.gr⟩
theorem NOwn.keep {B : Nat} {w w' : World} {A : Na} {x : Nt} (h : NOwn B w A x) (hb : Below w.heap.size w w') : NOwn B w' A x := ⟨h.one.keep hb, h.two.keep hb, h.apart⟩
theorem NOwn.mono {B B' : Nat} {w : World} {A : Na} {x : Nt} (h : NOwn B w A x) (hB : B' ≤ B) : NOwn B' w A x := ⟨h.one.mono hB, h.two.mono hB, h.apart⟩
theorem NOwn.far {B : Nat} {w : World} {A : Na} {x : Nt} (h : NOwn B w A x) (b o : Nat) (hb : b < B) (y : Value) : NOwn B (w.setCell ⟨b, o, none⟩ y) A x := ⟨h.one.far b o hb y, h.two.far b o hb y, h.apart⟩
/-- Its numbers fit. -/
structure NWf (x : Nt) : Prop where
  ln : wfL x.ln
  gs : wfL (whosL x.gs)
end Go.Proofs.Ytfgknbflgmblmaa
