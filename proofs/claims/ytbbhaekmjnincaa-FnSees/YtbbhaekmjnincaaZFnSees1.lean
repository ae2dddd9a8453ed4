/-
  The plain mathematics of messages (no program in it): which bytes a text may hold, which messages are right, and how the walk's tests meet them.
  Slices of numbers in memory: what they read as, and what leaves that alone.
  Walks of functions that only read a list of numbers.
  Walks of functions that make a list of numbers, or write into one.
  Walks of the specification's lines.
  Walks of the specification's lines: copies, and what joins or leaves.
  Walks of the specification's lines: a copy of a list.
-/
import Derived.WalkKit
import Derived.Below
import Derived.Maps.Range
import Derived.Maps.AppendAt
import Derived.Deep.AppendLies
import Derived.Deep.AppendSrc
import Derived.Deep.Draws
import Derived.Test.YtbbhaekmjnincaaRows
import Derived.WalkSpells
import Derived.WalkLawsBesides
import Derived.Deep.QuietTactic
import Derived.BigQuiet
import Derived.Laws.MakeOwn
namespace Go.Proofs.Ytbbhaekmjnincaa.Pl
open Go.RowKit

def goodB (c : UInt8) : Bool := decide (32 ≤ c.toNat) && decide (c.toNat ≤ 126) && !(decide (c.toNat = 34))
def plainL (l : List UInt8) : Bool := l.all goodB
def plainB (s : ByteArray) : Bool := decide (s.size ≤ 40) && plainL s.data.toList
def okNum (n : Int) : Bool := decide (-999999999 ≤ n) && decide (n ≤ 999999999)
def okB (k n : Int) (t : ByteArray) : Bool :=
  if k = 1 then (t.toList.isEmpty && okNum n) else if k = 2 then (decide (n = 0) && plainB t) else false

theorem take_snoc (s : ByteArray) (k : Nat) (h : k < s.size) : s.data.toList.take (k + 1) = s.data.toList.take k ++ [s[k]] := by
  rw [List.take_succ_eq_append_getElem (by simpa using h)]; rfl
theorem plain_step (s : ByteArray) (k : Nat) (h : k < s.size) (hp : plainL (s.data.toList.take k) = true) (hg : goodB s[k] = true) :
    plainL (s.data.toList.take (k + 1)) = true := by
  rw [take_snoc s k h]; simp [plainL] at hp ⊢; exact ⟨hp, hg⟩
theorem plain_bad (s : ByteArray) (k : Nat) (h : k < s.size) (hg : goodB s[k] = false) : plainB s = false := by
  have hm : s[k] ∈ s.data.toList := by
    have : s.data.toList[k]'(by simpa using h) = s[k] := rfl
    rw [← this]; exact List.getElem_mem _
  have : plainL s.data.toList = false := by
    unfold plainL
    rw [List.all_eq_false]
    exact ⟨_, hm, by simp [hg]⟩
  simp [plainB, this]
theorem plain_long (s : ByteArray) (h : 40 < (s.size : Int)) : plainB s = false := by
  have : ¬ s.size ≤ 40 := by omega
  simp [plainB, this]
theorem plain_all (s : ByteArray) (k : Nat) (h40 : ¬ 40 < (s.size : Int)) (h : s.size ≤ k) (hp : plainL (s.data.toList.take k) = true) : plainB s = true := by
  have e : s.data.toList.take k = s.data.toList := List.take_of_length_le (by simpa using h)
  rw [e] at hp
  have : s.size ≤ 40 := by omega
  simp [plainB, this, hp]
theorem good_lo (c : UInt8) (h : (c.toNat : Int) < 32) : goodB c = false := by
  have : ¬ 32 ≤ c.toNat := by omega
  simp [goodB, this]
theorem good_hi (c : UInt8) (h : 126 < (c.toNat : Int)) : goodB c = false := by
  have : ¬ c.toNat ≤ 126 := by omega
  simp [goodB, this]
theorem good_q (c : UInt8) (h : (c.toNat : Int) = 34) : goodB c = false := by
  have : c.toNat = 34 := by omega
  simp [goodB, this]
theorem good_yes (c : UInt8) (h1 : ¬ (c.toNat : Int) < 32) (h2 : ¬ 126 < (c.toNat : Int)) (h3 : ¬ (c.toNat : Int) = 34) : goodB c = true := by
  have a : 32 ≤ c.toNat := by omega
  have b : c.toNat ≤ 126 := by omega
  have d : ¬ c.toNat = 34 := by omega
  simp [goodB, a, b, d]
theorem good_no (c : UInt8) (h : (c.toNat : Int) < 32 ∨ 126 < (c.toNat : Int) ∨ (c.toNat : Int) = 34) : goodB c = false := by
  rcases h with h | h | h
  · exact good_lo c h
  · exact good_hi c h
  · exact good_q c h
theorem ret_bool {a b : Bool} (h : a = b) : Ending.returned (.bool a) = .returned (.bool b) := by rw [h]
theorem ok_num {k n : Int} {t : ByteArray} (hk : (k == 1) = true) (ht : t.toList = []) : okB k n t = okNum n := by
  have : k = 1 := by simpa using hk
  simp [okB, this, ht]
theorem ok_numNo {k n : Int} {t : ByteArray} (hk : (k == 1) = true) (ht : ¬ t.toList = []) : okB k n t = false := by
  have : k = 1 := by simpa using hk
  simp [okB, this, ht]
theorem ok_text {k : Int} {t : ByteArray} (_h1 : (k == 1) = false) (hk : (k == 2) = true) : okB k 0 t = plainB t := by
  have : k = 2 := by simpa using hk
  simp [okB, this]
theorem ok_textNo {k n : Int} {t : ByteArray} (_h1 : (k == 1) = false) (hk : (k == 2) = true) (hn : ¬ n = 0) : okB k n t = false := by
  have : k = 2 := by simpa using hk
  simp [okB, this, hn]
theorem ok_none {k n : Int} {t : ByteArray} (h1 : (k == 1) = false) (hk : (k == 2) = false) : okB k n t = false := by
  have a : ¬ k = 1 := by simpa using h1
  have b : ¬ k = 2 := by simpa using hk
  simp [okB, a, b]

/-! What a call leaves alone: all that lay in memory ahead of it. -/
theorem bl_alloc {w w' : World} (h : Below w.heap.size w w') (o : Obj) : Below w.heap.size w (w'.alloc o) := h.alloc h.size o
theorem bl_trans {w w1 w2 : World} (h : Below w.heap.size w w1) (k : Below w1.heap.size w1 w2) : Below w.heap.size w w2 := h.trans (k.mono h.size)
theorem bcell {W w1 : World} (hb : Below W.heap.size W w1) : (∀ b o, b < W.heap.size → w1.cell? ⟨b, o, none⟩ = W.cell? ⟨b, o, none⟩) ∧ (∀ b o, b < W.heap.size → w1.frozen? ⟨b, o, none⟩ = W.frozen? ⟨b, o, none⟩) :=
  ⟨fun b o h => hb.cell (p := ⟨b, o, none⟩) h, fun b o h => hb.frozen (p := ⟨b, o, none⟩) h⟩
/-- A variable of three cells in block N. -/
structure Box3 (N : Nat) (v0 v1 v2 : Value) (w : World) : Prop where
  lt : N < w.heap.size
  c0 : w.cell? ⟨N, 0, none⟩ = some v0
  c1 : w.cell? ⟨N, 1, none⟩ = some v1
  c2 : w.cell? ⟨N, 2, none⟩ = some v2
  fr : ∀ o, w.frozen? ⟨N, o, none⟩ = false
theorem Box3.new (w : World) (v0 v1 v2 : Value) (t : TypeId) : Box3 w.heap.size v0 v1 v2 (w.alloc (.cells #[v0, v1, v2] t)) :=
  ⟨by simp, by simp, by simp, by simp, fun o => by simp [go_sem]⟩
theorem Box3.keep {N : Nat} {v0 v1 v2 : Value} {w u : World} (h : Box3 N v0 v1 v2 w) (hb : Below w.heap.size w u) : Box3 N v0 v1 v2 u where
  lt := Nat.lt_of_lt_of_le h.lt hb.size
  c0 := by rw [hb.cell (p := ⟨N, 0, none⟩) h.lt]; exact h.c0
  c1 := by rw [hb.cell (p := ⟨N, 1, none⟩) h.lt]; exact h.c1
  c2 := by rw [hb.cell (p := ⟨N, 2, none⟩) h.lt]; exact h.c2
  fr := fun o => by rw [hb.frozen (p := ⟨N, o, none⟩) h.lt]; exact h.fr o
theorem Box3.alloc {N : Nat} {v0 v1 v2 : Value} {w : World} (h : Box3 N v0 v1 v2 w) (o : Obj) : Box3 N v0 v1 v2 (w.alloc o) := h.keep (bl_alloc (Below.refl _ _) o)
theorem bl_set3 {w u : World} (h : Below w.heap.size w u) (N : Nat) (hN : w.heap.size ≤ N) (x y z : Value) :
    Below w.heap.size w (((u.setCell ⟨N, 0, none⟩ x).setCell ⟨N, 1, none⟩ y).setCell ⟨N, 2, none⟩ z) :=
  ((h.setCell (p := ⟨N, 0, none⟩) hN x).setCell (p := ⟨N, 1, none⟩) hN y).setCell (p := ⟨N, 2, none⟩) hN z
theorem zGA {α : Type} {xs : List α} {i : Nat} (h : i < xs.toArray.size) : xs.toArray[i] = xs[i]'(by simpa using h) := List.getElem_toArray h
theorem zG0 {α : Type} {a : α} {l : List α} (h : 0 < (a :: l).length) : (a :: l)[0] = a := List.getElem_cons_zero ..
theorem zGC {α : Type} {a : α} {l : List α} {i : Nat} (h : i + 1 < (a :: l).length) : (a :: l)[i + 1] = l[i]'(by simpa using h) := List.getElem_cons_succ ..
theorem zSA {α : Type} {l : List α} {i : Nat} {a : α} : l.toArray.setIfInBounds i a = (l.set i a).toArray := List.setIfInBounds_toArray ..
theorem zS0 {α : Type} {l : List α} {a b : α} : (a :: l).set 0 b = b :: l := by rfl
theorem zSC {α : Type} {l : List α} {i : Nat} {a b : α} : (a :: l).set (i + 1) b = a :: l.set i b := by rfl
end Go.Proofs.Ytbbhaekmjnincaa.Pl
namespace Go.Proofs.Ytbbhaekmjnincaa.Il
open Go.RowKit Pl

/-- The slice at a, of n elements, reads as xs in w. -/
structure IntsAt (w : World) (a : Option Addr) (n : Nat) (xs : List Int) : Prop where
  len : xs.length = n
  row : n = 0 ∨ ∃ b off, a = some ⟨b, off, none⟩ ∧ b < w.heap.size ∧ ∀ i, i < n → w.cell? ⟨b, off + i, none⟩ = some (.int .i64 (xs.getD i 0))
theorem IntsAt.keep {w w' : World} {a : Option Addr} {n : Nat} {xs : List Int} (h : IntsAt w a n xs) (hb : Below w.heap.size w w') : IntsAt w' a n xs := by
  refine ⟨h.len, ?_⟩
  rcases h.row with k | ⟨b, off, rfl, hlt, hc⟩
  · exact .inl k
  · exact .inr ⟨b, off, rfl, Nat.lt_of_lt_of_le hlt hb.size, fun i hi => by rw [hb.cell (p := ⟨b, off + i, none⟩) hlt]; exact hc i hi⟩
theorem IntsAt.nil (w : World) (a : Option Addr) : IntsAt w a 0 [] := ⟨rfl, .inl rfl⟩
/-- The elements from i on. -/
theorem IntsAt.drop {w : World} {b off n : Nat} {xs : List Int} (h : IntsAt w (some ⟨b, off, none⟩) n xs) (i : Nat) (hi : i ≤ n) : IntsAt w (some ⟨b, off + i, none⟩) (n - i) (xs.drop i) := by
  refine ⟨by rw [List.length_drop, h.len], ?_⟩
  rcases h.row with k | ⟨b', off', e, hlt, hc⟩
  · exact .inl (by omega)
  · cases e
    refine .inr ⟨b, off + i, rfl, hlt, fun j hj => ?_⟩
    rw [Nat.add_assoc, hc (i + j) (by omega)]
    simp [List.getD]
theorem IntsAt.take {w : World} {a : Option Addr} {n : Nat} {xs : List Int} (h : IntsAt w a n xs) (i : Nat) (hi : i ≤ n) : IntsAt w a i (xs.take i) := by
  refine ⟨by rw [List.length_take, h.len]; omega, ?_⟩
  rcases h.row with k | ⟨b, off, rfl, hlt, hc⟩
  · exact .inl (by omega)
  · refine .inr ⟨b, off, rfl, hlt, fun j hj => ?_⟩
    rw [hc j (by omega)]
    simp [List.getD, List.getElem?_take_of_lt hj]

/-- Its cells lie in blocks from B on, and may be written. -/
structure OwnAt (B : Nat) (w : World) (a : Option Addr) (n : Nat) (xs : List Int) : Prop where
  ints : IntsAt w a n xs
  own : n = 0 ∨ ∃ b off, a = some ⟨b, off, none⟩ ∧ B ≤ b ∧ ∀ i, i < n → w.frozen? ⟨b, off + i, none⟩ = false
theorem OwnAt.keep {B : Nat} {w w' : World} {a : Option Addr} {n : Nat} {xs : List Int} (h : OwnAt B w a n xs) (hb : Below w.heap.size w w') : OwnAt B w' a n xs := by
  refine ⟨h.ints.keep hb, ?_⟩
  rcases h.own with k | ⟨b, off, rfl, hB, hf⟩
  · exact .inl k
  · rcases h.ints.row with k | ⟨b', off', e, hlt, _⟩
    · exact .inl k
    · cases e
      exact .inr ⟨b, off, rfl, hB, fun i hi => by rw [hb.frozen (p := ⟨b, off + i, none⟩) hlt]; exact hf i hi⟩
theorem OwnAt.mono {B B' : Nat} {w : World} {a : Option Addr} {n : Nat} {xs : List Int} (h : OwnAt B w a n xs) (hB : B' ≤ B) : OwnAt B' w a n xs := by
  refine ⟨h.ints, ?_⟩
  rcases h.own with k | ⟨b, off, rfl, hb, hf⟩
  · exact .inl k
  · exact .inr ⟨b, off, rfl, Nat.le_trans hB hb, hf⟩

/-- What append's laws own is such a slice. -/
theorem own_of {B : Nat} {w : World} {v : Value} {n : Nat} {ys : List Value} (h : w.ownsRow B 3 1 v n ys) (xs : List Int) (hx : ys = xs.map (Value.int .i64)) : ∃ a cap, v = .slice a n cap ∧ OwnAt B w a n xs := by
  subst hx
  obtain ⟨hl, ⟨rfl, rfl⟩ | ⟨g, cap, cur, rfl, hB, hg, hc, hm, hs, ht⟩⟩ := h
  · have : xs = [] := List.length_eq_zero_iff.1 (by simpa using hl)
    subst this
    exact ⟨_, _, rfl, ⟨⟨rfl, .inl rfl⟩, .inl rfl⟩⟩
  · have hlen : xs.length = n := by simpa using hl
    have hlt : g < w.heap.size := by
      rcases Nat.lt_or_ge g w.heap.size with k | k
      · exact k
      · rw [Array.getElem?_eq_none k] at hg; cases hg
    refine ⟨_, _, rfl, ⟨⟨hlen, .inr ⟨g, 0, rfl, hlt, fun i hi => ?_⟩⟩, .inr ⟨g, 0, rfl, hB, fun i hi => ?_⟩⟩⟩
    · rw [Nat.zero_add, cell_of_row w g i cur 3 (0, 0) hg]
      have e : (xs.map (Value.int .i64))[i]? = (cur.toList.take (n * 1))[i]? := by rw [ht]
      rw [List.getElem?_take_of_lt (by omega)] at e
      rw [← Array.getElem?_toList, ← e]
      simp [List.getD, List.getElem?_eq_getElem (show i < xs.length by omega)]
    · rw [Nat.zero_add]
      simp [World.frozen?, hg]
theorem OwnAt.other {B : Nat} {w w' : World} {a : Option Addr} {n b : Nat} {xs : List Int} (h : OwnAt B w a n xs) (hg : w.grownBy w' (some b)) (hne : n = 0 ∨ ∀ b' off', a = some ⟨b', off', none⟩ → b ≠ b') : OwnAt B w' a n xs := by
  obtain ⟨⟨hl, hr⟩, ho⟩ := h
  rcases hne with h0 | hne
  · exact ⟨⟨hl, .inl h0⟩, .inl h0⟩
  · rcases hr with h0 | ⟨b1, off, rfl, hlt, hc⟩
    · exact ⟨⟨hl, .inl h0⟩, .inl h0⟩
    · have key : w'.heap[b1]? = w.heap[b1]? := hg.block b1 hlt (by intro e; cases e; exact hne _ _ rfl rfl)
      rcases ho with h0 | ⟨b', off', e, hB, hf⟩
      · exact ⟨⟨hl, .inl h0⟩, .inl h0⟩
      · cases e
        refine ⟨⟨hl, .inr ⟨b1, off, rfl, Nat.lt_of_lt_of_le hlt hg.size, fun i hi => ?_⟩⟩, .inr ⟨b1, off, rfl, hB, fun i hi => ?_⟩⟩
        · rw [← hc i hi]; exact World.cell?_of_block key
        · rw [← hf i hi]; exact World.frozen?_of_block key
/-- A store into an elder block. -/
theorem OwnAt.far {B : Nat} {w : World} {a : Option Addr} {n : Nat} {xs : List Int} (h : OwnAt B w a n xs) (b o : Nat) (hb : b < B) (x : Value) : OwnAt B (w.setCell ⟨b, o, none⟩ x) a n xs := by
  refine h.other (b := b) ⟨rfl, rfl, rfl, by simp, fun k _ hk => Below.heap_setCell _ _ _ _ (by rintro rfl; exact hk rfl)⟩ ?_
  rcases h.own with h0 | ⟨b', off', rfl, hB, _⟩
  · exact .inl h0
  · exact .inr fun b1 o1 e => by cases e; omega
theorem own_cap {B : Nat} {w : World} {a : Option Addr} {n cap : Nat} {ys : List Value} (h : w.ownsRow B 3 1 (.slice a n cap) n ys) : n ≤ cap := by
  obtain ⟨_, ⟨e, _⟩ | ⟨g, cap', cur, e, _, _, hc, _⟩⟩ := h
  · cases e; exact Nat.le_refl _
  · cases e; exact hc
/-- Every number of the list fits. -/
def wfL (xs : List Int) : Prop := ∀ x ∈ xs, (Lit.int .i64 x).wf = true
theorem wf_at {xs : List Int} (h : wfL xs) {k : Nat} (hk : k < xs.length) : (Lit.int .i64 (xs.getD k 0)).wf = true := by
  have e : xs.getD k 0 = xs[k] := by simp [List.getD, List.getElem?_eq_getElem hk]
  rw [e]; exact h _ (List.getElem_mem _)
theorem wf_take {xs : List Int} (h : wfL xs) (k : Nat) : wfL (xs.take k) := fun x hx => h x (List.mem_of_mem_take hx)
end Go.Proofs.Ytbbhaekmjnincaa.Il
namespace Go.Proofs.Ytbbhaekmjnincaa
open Go.RowKit Pl Il

theorem hidOf {p : Prop} (h : p) : Hid p := h
/-- Does x stand in the list? -/
def hasL (xs : List Int) (x : Int) : Bool := xs.contains x
/-- The first place of x, or -1. -/
def placeL (xs : List Int) (x : Int) : Int := match xs.findIdx? (· == x) with | some i => (i : Int) | none => -1
def eqL (xs ys : List Int) : Bool := decide (xs = ys)
def clientL (x : Int) : Bool := decide (0 ≤ x) && decide (x ≤ 63)
/-- k, k + 1 and so on, n of them. -/
def marks (k : Int) (n : Nat) : List Int := (List.range n).map fun (i : Nat) => k + (i : Int)

theorem has_step {xs : List Int} {k : Nat} {x : Int} (hk : k < xs.length) (h : hasL (xs.take k) x = false) (hne : (xs.getD k 0 == x) = false) : hasL (xs.take (k + 1)) x = false := by
  rw [List.take_succ_eq_append_getElem hk]
  have e : xs.getD k 0 = xs[k] := by simp [List.getD, List.getElem?_eq_getElem hk]
  rw [e] at hne
  simp only [hasL, List.contains_eq_mem, List.mem_append, List.mem_singleton, decide_eq_false_iff_not] at h ⊢
  rintro (m | m)
  · exact h m
  · rw [m] at hne; simp at hne
theorem has_hit {xs : List Int} {k : Nat} {x : Int} (hk : k < xs.length) (he : (xs.getD k 0 == x) = true) : hasL xs x = true := by
  have e : xs.getD k 0 = xs[k] := by simp [List.getD, List.getElem?_eq_getElem hk]
  rw [e] at he
  have : xs[k] = x := by simpa using he
  rw [← this]; simp [hasL]
theorem has_end {xs : List Int} {k : Nat} {x : Int} (hk : xs.length ≤ k) (h : hasL (xs.take k) x = false) : hasL xs x = false := by rwa [List.take_of_length_le hk] at h
theorem bl_drewN {w w' : World} (h : Below w.heap.size w w') (n : Nat) : Below w.heap.size w (w'.drewN n) := ⟨h.os, h.tape, h.output, h.size, h.block⟩
theorem rbool {a b : Bool} (h : a = b) : Ending.returned (.bool a) = .returned (.bool b) := by rw [h]

theorem l2Has_any (a : Option Addr) (n cap : Nat) (xs : List Int) (x : Int) (w : World) (hI : IntsAt w a n xs) (hn : n ≤ 2097152) :
    Calls Try.prog 39 #[.slice a n cap, .int .i64 x] w fun e w' => e = .returned (.bool (hasL xs x)) ∧ w' = w := by
  obtain ⟨hlen, rfl | ⟨b, off, rfl, hb, hcell⟩⟩ := hI
  · have : xs = [] := List.length_eq_zero_iff.1 hlen
    subst this
    go_enter Try.func39, Try.ntmps39
    go_wp2
    go_loop [5] (fun i => i = .int .i64 0) (fun _ => 0)
    case atStart => rfl
    case round =>
      subst hrel
      go_wp2
      go_ret
      exact ⟨rfl, rfl⟩
  · go_enter Try.func39, Try.ntmps39
    go_wp2
    go_loop [5] (fun i => ∃ k : Nat, k ≤ n ∧ i = .int .i64 k ∧ hasL (xs.take k) x = false) (fun i => n - (intOf i).toNat)
    case atStart => exact ⟨0, Nat.zero_le _, rfl, by simp [hasL]⟩
    case round =>
      obtain ⟨k, hk, rfl, hno⟩ := hrel
      have Hno : Hid _ := hno
      clear hno
      by_cases hlt : k < n
      · have hc := hcell k hlt
        generalize hy : xs.getD k 0 = y at hc
        have HY : Hid _ := hy
        clear hy hcell
        cases hxy : (y == x)
        · go_wp2
          go_round
          case rel => exact ⟨k + 1, by omega, by go_num, has_step (by omega) Hno.out (by rw [HY.out]; exact hxy)⟩
          case measure => simp [intOf]; omega
        · go_wp2
          go_ret
          exact ⟨rbool (has_hit (k := k) (by omega) (by rw [HY.out]; exact hxy)).symm, rfl⟩
      · clear hcell
        go_wp2
        go_ret
        exact ⟨rbool (has_end (by omega) Hno.out).symm, rfl⟩

theorem place_hit {xs : List Int} {k : Nat} {x : Int} (hk : k < xs.length) (h : hasL (xs.take k) x = false) (he : (xs.getD k 0 == x) = true) : (k : Int) = placeL xs x := by
  have e : xs.getD k 0 = xs[k] := by simp [List.getD, List.getElem?_eq_getElem hk]
  rw [e] at he
  have hf : xs.findIdx? (· == x) = some k := by
    rw [List.findIdx?_eq_some_iff_getElem]
    refine ⟨hk, he, fun j hj => ?_⟩
    intro hjx
    have hm : xs[j]'(by omega) ∈ xs.take k := by
      rw [List.mem_take_iff_getElem]
      exact ⟨j, by omega, rfl⟩
    have : xs[j]'(by omega) = x := by simpa using hjx
    rw [this] at hm
    simp [hasL] at h
    exact h hm
  simp [placeL, hf]
theorem place_none {xs : List Int} {k : Nat} {x : Int} (hk : xs.length ≤ k) (h : hasL (xs.take k) x = false) : (-1 : Int) = placeL xs x := by
  have h' := has_end hk h
  have hf : xs.findIdx? (· == x) = none := by
    rw [List.findIdx?_eq_none_iff]
    intro y hy
    simp [hasL] at h'
    cases hyx : (y == x)
    · rfl
    · have : y = x := by simpa using hyx
      subst this; exact absurd hy h'
  simp [placeL, hf]
theorem rint {a b : Int} (h : a = b) : Ending.returned (.int .i64 a) = .returned (.int .i64 b) := by rw [h]


theorem eq_step {xs ys : List Int} {k : Nat} (hk : k < xs.length) (hk' : k < ys.length) (h : xs.take k = ys.take k) (he : (xs.getD k 0 != ys.getD k 0) = false) : xs.take (k + 1) = ys.take (k + 1) := by
  rw [List.take_succ_eq_append_getElem hk, List.take_succ_eq_append_getElem hk', h]
  have e : xs.getD k 0 = xs[k] := by simp [List.getD, List.getElem?_eq_getElem hk]
  have e' : ys.getD k 0 = ys[k] := by simp [List.getD, List.getElem?_eq_getElem hk']
  rw [e, e'] at he
  have : xs[k] = ys[k] := by simpa using he
  rw [this]
theorem eq_no {xs ys : List Int} {k : Nat} (he : (xs.getD k 0 != ys.getD k 0) = true) : eqL xs ys = false := by
  unfold eqL
  rw [decide_eq_false_iff_not]
  rintro rfl
  simp at he
theorem eq_len {xs ys : List Int} (hl : ¬ xs.length = ys.length) : eqL xs ys = false := by
  unfold eqL
  rw [decide_eq_false_iff_not]
  rintro rfl
  exact hl rfl
theorem eq_end {xs ys : List Int} {k : Nat} (hl : xs.length = ys.length) (hk : xs.length ≤ k) (h : xs.take k = ys.take k) : eqL xs ys = true := by
  rw [List.take_of_length_le hk, List.take_of_length_le (by omega)] at h
  simp [eqL, h]

end Go.Proofs.Ytbbhaekmjnincaa
namespace Go.Proofs.Ytbbhaekmjnincaa
open Go.RowKit Pl Il

theorem info3 : (Try.prog.info? 3).map (fun i => (i.zero, i.size, i.bytes)) = some (some (.int .i64 0), 1, 8) := by kernel_rfl

/-- A new row in block g: its first k places hold xs's. -/
structure Filling (w : World) (g n : Nat) (xs : List Int) (k : Nat) (wr : World) : Prop where
  below : Below w.heap.size w wr
  ge : w.heap.size ≤ g
  lt : g < wr.heap.size
  cells : ∀ j, j < n → ∃ v, wr.cell? ⟨g, j, none⟩ = some v ∧ (j < k → v = .int .i64 (xs.getD j 0))
  fr : ∀ j, wr.frozen? ⟨g, j, none⟩ = false
theorem Filling.step {w : World} {g n : Nat} {xs : List Int} {k : Nat} {wr : World} (h : Filling w g n xs k wr) (x : Int) (hx : xs.getD k 0 = x) : Filling w g n xs (k + 1) (wr.setCell ⟨g, k, none⟩ (.int .i64 x)) where
  below := h.below.setCell (p := ⟨g, k, none⟩) h.ge _
  ge := h.ge
  lt := by simpa using h.lt
  cells := fun j hj => by
    obtain ⟨v, hv, hk⟩ := h.cells j hj
    by_cases e : j = k
    · subst e
      exact ⟨_, World.cell?_setCell_same _ _ _ hv, fun _ => by rw [hx]⟩
    · refine ⟨v, ?_, fun hlt => hk (by omega)⟩
      rw [World.cell?_setCell_other _ _ _ _ (by intro e'; cases e'; exact e rfl)]; exact hv
  fr := fun j => by simpa using h.fr j
theorem Filling.own {w : World} {g n : Nat} {xs : List Int} {wr : World} (h : Filling w g n xs n wr) (hl : xs.length = n) : OwnAt w.heap.size wr (some ⟨g, 0, none⟩) n xs :=
  ⟨⟨hl, .inr ⟨g, 0, rfl, h.lt, fun i hi => by obtain ⟨v, hv, hk⟩ := h.cells i hi; rw [Nat.zero_add, hv, hk hi]⟩⟩, .inr ⟨g, 0, rfl, h.ge, fun i _ => by rw [Nat.zero_add]; exact h.fr i⟩⟩
theorem Filling.start (w : World) (n : Nat) (xs : List Int) (t : TypeId) : Filling w w.heap.size n xs 0 (w.alloc (.cells (madeCells (Value.int .i64 0).cells n) t)) where
  below := bl_alloc (Below.refl _ _) _
  ge := Nat.le_refl _
  lt := by simp
  cells := fun j hj => by
    rw [World.cell?_alloc_new]
    exact ⟨(madeCells (Value.int .i64 0).cells n)[j]'(by rw [size_madeCells]; exact hj), by rw [Array.getElem?_eq_getElem], fun h => by omega⟩
  fr := fun j => by simp [go_sem]

theorem make_ints (n : Nat) (hn : n ≤ 2097152) (w : World) : (Instr.makeSlice 27 (.int .i64 (n : Int)) (.int .i64 (n : Int))).run Try.prog w = .ok (.slice (some ⟨w.heap.size, 0, none⟩) n n) (w.alloc (.cells (madeCells (Value.int .i64 0).cells n) 3)) := by
  obtain ⟨i, hi, hz0, hz1, hz2⟩ := info_parts info3
  have := run_make (P := Try.prog) w 27 3 i (.int .i64 0) Try.underlying27 hi hz0 .i64 .i64 (n : Int) (n : Int) (by omega) (by omega) (by rw [hz2]; omega) (by omega)
  rw [hz1] at this
  simpa using this

theorem marks_get {k : Int} {n j : Nat} (h : j < n) : (marks k n).getD j 0 = k + (j : Int) := by
  simp [marks, List.getD, List.getElem?_map, List.getElem?_range h]
theorem marks_len (k : Int) (n : Nat) : (marks k n).length = n := by simp [marks]

/-- Marks are written into a row, place by place. -/
structure Marking (w : World) (b off n : Nat) (k : Int) (m : Nat) (wr : World) : Prop where
  ex : w.grownBy wr (some b)
  lt : b < wr.heap.size
  cells : ∀ j, j < n → ∃ v, wr.cell? ⟨b, off + j, none⟩ = some v ∧ (j < m → v = .int .i64 (k + (j : Int)))
  fr : ∀ j, j < n → wr.frozen? ⟨b, off + j, none⟩ = false
theorem Marking.step {w : World} {b off n : Nat} {k : Int} {m : Nat} {wr : World} (h : Marking w b off n k m wr) : Marking w b off n k (m + 1) (wr.setCell ⟨b, off + m, none⟩ (.int .i64 (k + (m : Int)))) where
  ex := by
    refine ⟨h.ex.os, h.ex.tape, h.ex.output, by simpa using h.ex.size, fun i hi hn => ?_⟩
    rw [Below.heap_setCell wr ⟨b, off + m, none⟩ _ i (by rintro rfl; exact hn rfl)]
    exact h.ex.block i hi hn
  lt := by simpa using h.lt
  cells := fun j hj => by
    obtain ⟨v, hv, hk⟩ := h.cells j hj
    by_cases e : j = m
    · subst e
      exact ⟨_, World.cell?_setCell_same _ _ _ hv, fun _ => rfl⟩
    · refine ⟨v, ?_, fun hlt => hk (by omega)⟩
      rw [World.cell?_setCell_other _ _ _ _ (by intro e'; injection e' with _ e2; omega)]; exact hv
  fr := fun j hj => by simpa using h.fr j hj


end Go.Proofs.Ytbbhaekmjnincaa
namespace Go.Proofs.Ytbbhaekmjnincaa
open Go.RowKit Pl Il

/-- The first k clients of a line: each a client, none twice. -/
def lineTo (xs : List Int) (k : Nat) : Bool := (List.range k).all fun i => clientL (xs.getD i 0) && !hasL (xs.take i) (xs.getD i 0)
/-- A right line. -/
def lineL (xs : List Int) : Bool := decide (xs.length ≤ 32) && lineTo xs xs.length
theorem lineTo_zero (xs : List Int) : lineTo xs 0 = true := by simp [lineTo]
theorem lineTo_step {xs : List Int} {k : Nat} {y : Int} (h : lineTo xs k = true) (hy : xs.getD k 0 = y) (hc : clientL y = true) (hh : hasL (xs.take k) y = false) : lineTo xs (k + 1) = true := by
  simp only [lineTo, List.range_succ, List.all_append, List.all_cons, List.all_nil, Bool.and_true, Bool.and_eq_true] at h ⊢
  exact ⟨h, by rw [hy]; exact hc, by rw [hy, hh]; rfl⟩
theorem line_bad {xs : List Int} {k : Nat} {y : Int} (hk : k < xs.length) (hy : xs.getD k 0 = y) (h : clientL y = false ∨ hasL (xs.take k) y = true) : lineL xs = false := by
  have : lineTo xs xs.length = false := by
    unfold lineTo
    rw [List.all_eq_false]
    refine ⟨k, List.mem_range.2 hk, ?_⟩
    rw [hy]
    rcases h with h | h <;> simp [h]
  simp [lineL, this]
theorem line_long {xs : List Int} (h : ¬ xs.length ≤ 32) : lineL xs = false := by simp [lineL, h]
theorem line_end {xs : List Int} (h : xs.length ≤ 32) (ht : lineTo xs xs.length = true) : lineL xs = true := by simp [lineL, h, ht]

theorem in_any (n a b : Int) (w : World) :
    Calls Try.prog 23 #[.int .i64 n, .int .i64 a, .int .i64 b] w fun e w' => e = .returned (.bool (decide (a ≤ n) && decide (n ≤ b))) ∧ w' = w := by
  go_enter Try.func23, Try.ntmps23
  go_wp2
  all_goals go_ret
  all_goals (refine ⟨rbool ?_, rfl⟩; simp; try omega)
theorem client_any (x : Int) (w : World) :
    Calls Try.prog 51 #[.int .i64 x] w fun e w' => e = .returned (.bool (clientL x)) ∧ w' = w := by
  go_enter Try.func51, Try.ntmps51
  go_wp2_with fail
  refine (in_any x _ _ _).mono ?_
  rintro e w1 ⟨rfl, rfl⟩
  go_wp2
  go_ret
  exact ⟨rfl, rfl⟩

theorem specLineOk_any (a : Option Addr) (n cap : Nat) (xs : List Int) (w : World) (hI : IntsAt w a n xs) (hn : n ≤ 2097152) (hcap : n ≤ cap) :
    Calls Try.prog 38 #[.slice a n cap] w fun e w' => e = .returned (.bool (lineL xs)) ∧ Below w.heap.size w w' := by
  by_cases h32 : n ≤ 32
  · have h32' : ¬ 32 < (n : Int) := by omega
    obtain ⟨hlen, rfl | ⟨b, off, rfl, hb, hcell⟩⟩ := id hI
    · have hx : xs = [] := List.length_eq_zero_iff.1 hlen
      subst hx
      go_enter Try.func38, Try.ntmps38
      go_wp2
      go_loop [3] (fun i => i = .int .i64 0) (fun _ => 0)
      case atStart => rfl
      case round =>
        subst hrel
        go_wp2
        go_ret
        exact ⟨rfl, Below.refl _ _⟩
    · go_enter Try.func38, Try.ntmps38
      go_wp2
      go_loopw [3] (fun i wr => ∃ k : Nat, k ≤ n ∧ i = .int .i64 k ∧ lineTo xs k = true ∧ Below w.heap.size w wr) (fun i _ => n - (intOf i).toNat)
      case atStart => exact ⟨0, Nat.zero_le _, rfl, lineTo_zero _, Below.refl _ _⟩
      case round =>
        rename_i wr
        obtain ⟨k, hk, rfl, hto, hbr⟩ := hrel
        have Hto : Hid _ := hto
        clear hto
        by_cases hlt : k < n
        · have hc : wr.cell? ⟨b, off + k, none⟩ = some (.int .i64 (xs.getD k 0)) := by rw [hbr.cell (p := ⟨b, off + k, none⟩) hb]; exact hcell k hlt
          have hT : ∀ q, IntsAt (wr.drewN q) (some ⟨b, off, none⟩) k (xs.take k) := fun q => (hI.take k hk).keep (bl_drewN hbr q)
          have HT : Hid _ := hT
          generalize hy : xs.getD k 0 = y at hc
          have HY : Hid _ := hy
          have hki : (k : Int) < (n : Int) := by omega
          have hkc : (k : Int) ≤ (cap : Int) := by omega
          clear hy hcell hT hI
          cases hcl : clientL y
          · go_wp2
            go_quiet ((first | (go_at_call 51; exact Calls.quiet_of_same (client_any _ _)) | (go_at_call 39; exact Calls.quiet_of_same (l2Has_any _ _ _ _ _ _ (HT.out _) (by omega)))))
            go_wp2
            go_ret
            exact ⟨rbool (line_bad (by omega) HY.out (.inl hcl)).symm, bl_drewN hbr _⟩
          · cases hhs : hasL (xs.take k) y
            · go_wp2
              go_quiet ((first | (go_at_call 51; exact Calls.quiet_of_same (client_any _ _)) | (go_at_call 39; exact Calls.quiet_of_same (l2Has_any _ _ _ _ _ _ (HT.out _) (by omega)))))
              go_wp2
              go_roundw
              case rel => exact ⟨k + 1, by omega, by go_num, lineTo_step Hto.out HY.out hcl hhs, bl_drewN hbr _⟩
              case measure => simp [intOf]; omega
            · go_wp2
              go_quiet ((first | (go_at_call 51; exact Calls.quiet_of_same (client_any _ _)) | (go_at_call 39; exact Calls.quiet_of_same (l2Has_any _ _ _ _ _ _ (HT.out _) (by omega)))))
              go_wp2
              go_ret
              exact ⟨rbool (line_bad (by omega) HY.out (.inr hhs)).symm, bl_drewN hbr _⟩
        · obtain rfl : k = n := by omega
          clear hcell hI
          go_wp2
          go_ret
          exact ⟨rbool (line_end (by omega) (by rw [hlen]; exact Hto.out)).symm, hbr⟩
  · have h32' : 32 < (n : Int) := by omega
    have hq := line_long (xs := xs) (by rw [hI.len]; exact h32)
    clear hI
    go_enter Try.func38, Try.ntmps38
    go_wp2
    go_ret
    exact ⟨rbool hq.symm, Below.refl _ _⟩
end Go.Proofs.Ytbbhaekmjnincaa
namespace Go.Proofs.Ytbbhaekmjnincaa
open Go.RowKit Pl Il

theorem wpList_append_run {P : Program} {ops : Array Oper} {rest : List Oper} {o : Oper} {a : Act} {Q : Exit → Act → World → Prop} {w w' : World} (hgd : o.guard = none) (s x : Operand) (t : TypeId)
    (ho : o.op = .call { callee := .builtin .append, args := #[s, x], argTypes := #[t, t] }) (v u v' : Value) (hs : a.eval s = v) (hx : a.eval x = u)
    (hr : (Builtin.append_ #[t, t] o.type #[v, u]).run P w = .ok v' w') (h : wpList P ops Q rest (a.put o.dst v') w') : wpList P ops Q (o :: rest) a w :=
  wpList_plain hgd fun _ hK => by
    unfold Oper.wp execOp
    simp only [ho, resolve, invoke, builtin, Sem.run_bind, Sem.run_pure, Result.andThen_ok, List.map_toArray, List.map_cons, List.map_nil, hs, hx, hr]
    exact hK _ _ h

/-- A list that the call has made: its row, whole. -/
abbrev Owns (B : Nat) (w : World) (g n cap : Nat) (xs : List Int) : Prop := w.ownsRow B 3 1 (.slice (some ⟨g, 0, none⟩) n cap) n (xs.map (Value.int .i64))
theorem owns_parts {B : Nat} {w : World} {g n cap : Nat} {xs : List Int} (h : Owns B w g n cap xs) : xs.length = n ∧ B ≤ g ∧ g < w.heap.size ∧ n ≤ cap ∧ cap ≤ maxLen ∧ OwnAt B w (some ⟨g, 0, none⟩) n xs := by
  obtain ⟨a, c, e, ho⟩ := own_of h xs rfl
  cases e
  obtain ⟨hl, ⟨e, _⟩ | ⟨g', c', cur, e, hB, hg, hc, hm, _⟩⟩ := h
  · cases e
  · cases e
    refine ⟨by simpa using hl, hB, ?_, hc, hm, ho⟩
    rcases Nat.lt_or_ge g w.heap.size with k | k
    · exact k
    · rw [Array.getElem?_eq_none k] at hg; cases hg
theorem owns_keep {B : Nat} {w w' : World} {g n cap : Nat} {xs : List Int} (h : Owns B w g n cap xs) (hb : Below w.heap.size w w') : Owns B w' g n cap xs := by
  have hlt := (owns_parts h).2.2.1
  obtain ⟨hl, ⟨e, _⟩ | ⟨g', c', cur, e, hB, hg, hr⟩⟩ := h
  · cases e
  · cases e
    exact ⟨hl, .inr ⟨g, cap, cur, rfl, hB, by rw [hb.block g hlt]; exact hg, hr⟩⟩
theorem owns_mono {B B' : Nat} {w : World} {g n cap : Nat} {xs : List Int} (h : Owns B w g n cap xs) (hB : B' ≤ B) : Owns B' w g n cap xs := by
  obtain ⟨hl, ⟨e, _⟩ | ⟨g', c', cur, e, hB0, hr⟩⟩ := h
  · cases e
  · exact ⟨hl, .inr ⟨g', c', cur, e, Nat.le_trans hB hB0, hr⟩⟩
theorem owns_empty (w : World) : Owns w.heap.size (w.alloc (.cells #[] 3)) w.heap.size 0 0 [] :=
  ⟨rfl, .inr ⟨w.heap.size, 0, #[], rfl, Nat.le_refl _, heap_alloc_new w _, Nat.le_refl _, Nat.zero_le _, rfl, rfl⟩⟩

theorem append_ints2 (B g m c : Nat) (ys : List Int) (a : Option Addr) (n cap : Nat) (xs : List Int) (w : World) (ho : Owns B w g m c ys) (hB : B ≤ w.heap.size) (hI : IntsAt w a n xs) (hs : m + n ≤ 4194304) :
    ∃ (g' c' : Nat) (w' : World), (Builtin.append_ #[27, 27] 27 #[.slice (some ⟨g, 0, none⟩) m c, .slice a n cap]).run Try.prog w = .ok (.slice (some ⟨g', 0, none⟩) (m + n) c') w' ∧
      Owns B w' g' (m + n) c' (ys ++ xs) ∧ w.grownBy w' (some g) ∧ (g' = g ∨ g' = w.heap.size) := by
  obtain ⟨i, hi, hz0, hz1, hz2⟩ := info_parts info3
  have hg0 : w.grownBy w (some g) := ⟨rfl, rfl, rfl, Nat.le_refl _, fun _ _ _ => rfl⟩
  have short : ∀ u : Value, (Builtin.append_ #[27, 27] 27 #[.slice (some ⟨g, 0, none⟩) m c, u]).run Try.prog w = .ok (.slice (some ⟨g, 0, none⟩) m c) w →
      ∃ (g' c' : Nat) (w' : World), (Builtin.append_ #[27, 27] 27 #[.slice (some ⟨g, 0, none⟩) m c, u]).run Try.prog w = .ok (.slice (some ⟨g', 0, none⟩) (m + 0) c') w' ∧ Owns B w' g' (m + 0) c' (ys ++ []) ∧ w.grownBy w' (some g) ∧ (g' = g ∨ g' = w.heap.size) :=
    fun u hu => ⟨g, c, w, hu, by rw [List.append_nil]; exact ho, hg0, .inl rfl⟩
  have hmc := (owns_parts ho).2.2.2.1
  obtain ⟨hlen, rfl | ⟨b, off, rfl, hb, hcell⟩⟩ := hI
  · have hx : xs = [] := List.length_eq_zero_iff.1 hlen
    subst hx
    refine short _ ?_
    rcases a with _ | ad
    · exact run_append_room_src _ _ _ _ 3 i Try.underlying27 hi g 0 m c _ 0 [] (Src.ofNil _ Try.underlying27 cap) (by omega) (fun j hj => by cases hj) (fun j hj => by cases hj)
    · exact run_append_room_src _ _ _ _ 3 i Try.underlying27 hi g 0 m c _ 0 [] (Src.ofSlice _ Try.underlying27 ad 0 cap [] (by simp) (fun j u h => by simp at h) (fun u h => by cases h)) (by omega) (fun j hj => by cases hj) (fun j hj => by cases hj)
  · rcases Nat.eq_zero_or_pos n with h0 | hpos
    · subst h0
      have hx : xs = [] := List.length_eq_zero_iff.1 hlen
      subst hx
      refine short _ ?_
      exact run_append_room_src _ _ _ _ 3 i Try.underlying27 hi g 0 m c _ 0 [] (Src.ofSlice _ Try.underlying27 ⟨b, off, none⟩ 0 cap [] (by simp) (fun j u h => by simp at h) (fun u h => by cases h)) (by omega) (fun j hj => by cases hj) (fun j hj => by cases hj)
    · obtain ⟨g', c', w', hr, hown, hgrow, hat, _⟩ := run_append_lies (P := Try.prog) w 27 27 B 3 i (.int .i64 0) 1 8 Try.underlying27 hi hz0 hz1 hz2 rfl (by omega) _ m _ ho ⟨b, off, none⟩ n cap (xs.map (Value.int .i64)) (by simp [hlen])
        (fun j u h => by
          rw [Addr.add_lit]
          have hj : j < n := by
            have := (List.getElem?_eq_some_iff.1 h).1
            simpa [hlen] using this
          rw [hcell j hj]
          simp only [List.getElem?_map] at h
          rw [List.getElem?_eq_getElem (by omega)] at h
          simp only [Option.map_some, Option.some.injEq] at h
          rw [← h]
          simp [List.getD, List.getElem?_eq_getElem (show j < xs.length by omega)])
        (fun u hu => by obtain ⟨_, _, rfl⟩ := List.mem_map.1 hu; rfl) hpos (by unfold maxLen; omega) (by omega) hB _ rfl
      refine ⟨g', c', w', hr, by rw [← List.map_append] at hown; exact hown, hgrow, ?_⟩
      rcases hat with h | h
      · left; simpa [Value.ownBlock] using h.symm
      · exact .inr h
theorem append_ints (B g m c : Nat) (ys : List Int) (a : Option Addr) (n cap : Nat) (xs : List Int) (w : World) (ho : Owns B w g m c ys) (hB : B ≤ w.heap.size) (hI : IntsAt w a n xs) (hs : m + n ≤ 4194304) :
    ∃ (g' c' : Nat) (w' : World), (Builtin.append_ #[27, 27] 27 #[.slice (some ⟨g, 0, none⟩) m c, .slice a n cap]).run Try.prog w = .ok (.slice (some ⟨g', 0, none⟩) (m + n) c') w' ∧
      Owns B w' g' (m + n) c' (ys ++ xs) ∧ w.grownBy w' (some g) := by
  obtain ⟨g', c', w', h1, h2, h3, _⟩ := append_ints2 B g m c ys a n cap xs w ho hB hI hs
  exact ⟨g', c', w', h1, h2, h3⟩
end Go.Proofs.Ytbbhaekmjnincaa
namespace Go.Proofs.Ytbbhaekmjnincaa
open Go.RowKit Pl Il

end Go.Proofs.Ytbbhaekmjnincaa
