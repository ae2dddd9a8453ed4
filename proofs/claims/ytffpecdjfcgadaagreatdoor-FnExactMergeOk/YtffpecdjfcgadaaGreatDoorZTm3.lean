/-
  The plain mathematics of messages (no program in it): which bytes a text may hold, which messages are right, and how the walk's tests meet them.
  Slices of numbers in memory: what they read as, and what leaves that alone.
  Walks of functions that only read a list of numbers.
  Walks of functions that make a list of numbers, or write into one.
  Slices of terms in memory: what they read as, and what leaves that alone.
-/
import Derived.WalkKit
import Derived.Below
import Derived.Maps.Range
import Derived.Maps.AppendAt
import Derived.Deep.AppendLies
import Derived.Deep.AppendSrc
import Derived.Deep.Draws
import Derived.Test.YtffpecdjfcgadaaGreatDoorRows
import Derived.WalkSpells
import Derived.WalkLawsBesides
import Derived.Deep.QuietTactic
import Derived.BigQuiet
import Derived.Laws.MakeOwn
namespace Go.Proofs.YtffpecdjfcgadaaGreatDoor.Pl
open Go.RowKit

def goodB (c : UInt8) : Bool := decide (32 ≤ c.toNat) && decide (c.toNat ≤ 126) && !(decide (c.toNat = 34))
def plainL (l : List UInt8) : Bool := l.all goodB
def plainB (s : ByteArray) : Bool := decide (s.size ≤ 40) && plainL s.data.toList
def okNum (n : Int) : Bool := decide (-999999999 ≤ n) && decide (n ≤ 999999999)
def okB (k n : Int) (t : ByteArray) : Bool :=
  if k = 1 then (t.toList.isEmpty && okNum n) else if k = 2 then (decide (n = 0) && plainB t) else false

theorem take_snoc (s : ByteArray) (k : Nat) (h : k < s.size) : s.data.toList.take (k + 1) = s.data.toList.take k ++ [s[k]] := by
  rw [List.take_succ_eq_append_getElem (by simpa using h)]; rfl
theorem plain_step (s : ByteArray) (k : Nat) (h : k < s.size) (hp : plainL (s.data.toList.take k) = true) (hg : goodB s[k] = true) :
    plainL (s.data.toList.take (k + 1)) = true := by
  rw [take_snoc s k h]; simp [plainL] at hp ⊢; exact ⟨hp, hg⟩
theorem plain_bad (s : ByteArray) (k : Nat) (h : k < s.size) (hg : goodB s[k] = false) : plainB s = false := by
  have hm : s[k] ∈ s.data.toList := by
    have : s.data.toList[k]'(by simpa using h) = s[k] := rfl
    rw [← this]; exact List.getElem_mem _
  have : plainL s.data.toList = false := by
    unfold plainL
    rw [List.all_eq_false]
    exact ⟨_, hm, by simp [hg]⟩
  simp [plainB, this]
theorem plain_long (s : ByteArray) (h : 40 < (s.size : Int)) : plainB s = false := by
  have : ¬ s.size ≤ 40 := by omega
  simp [plainB, this]
theorem plain_all (s : ByteArray) (k : Nat) (h40 : ¬ 40 < (s.size : Int)) (h : s.size ≤ k) (hp : plainL (s.data.toList.take k) = true) : plainB s = true := by
  have e : s.data.toList.take k = s.data.toList := List.take_of_length_le (by simpa using h)
  rw [e] at hp
  have : s.size ≤ 40 := by omega
  simp [plainB, this, hp]
theorem good_lo (c : UInt8) (h : (c.toNat : Int) < 32) : goodB c = false := by
  have : ¬ 32 ≤ c.toNat := by omega
  simp [goodB, this]
theorem good_hi (c : UInt8) (h : 126 < (c.toNat : Int)) : goodB c = false := by
  have : ¬ c.toNat ≤ 126 := by omega
  simp [goodB, this]
theorem good_q (c : UInt8) (h : (c.toNat : Int) = 34) : goodB c = false := by
  have : c.toNat = 34 := by omega
  simp [goodB, this]
theorem good_yes (c : UInt8) (h1 : ¬ (c.toNat : Int) < 32) (h2 : ¬ 126 < (c.toNat : Int)) (h3 : ¬ (c.toNat : Int) = 34) : goodB c = true := by
  have a : 32 ≤ c.toNat := by omega
  have b : c.toNat ≤ 126 := by omega
  have d : ¬ c.toNat = 34 := by omega
  simp [goodB, a, b, d]
theorem good_no (c : UInt8) (h : (c.toNat : Int) < 32 ∨ 126 < (c.toNat : Int) ∨ (c.toNat : Int) = 34) : goodB c = false := by
  rcases h with h | h | h
  · exact good_lo c h
  · exact good_hi c h
  · exact good_q c h
theorem ret_bool {a b : Bool} (h : a = b) : Ending.returned (.bool a) = .returned (.bool b) := by rw [h]
theorem ok_num {k n : Int} {t : ByteArray} (hk : (k == 1) = true) (ht : t.toList = []) : okB k n t = okNum n := by
  have : k = 1 := by simpa using hk
  simp [okB, this, ht]
theorem ok_numNo {k n : Int} {t : ByteArray} (hk : (k == 1) = true) (ht : ¬ t.toList = []) : okB k n t = false := by
  have : k = 1 := by simpa using hk
  simp [okB, this, ht]
theorem ok_text {k : Int} {t : ByteArray} (_h1 : (k == 1) = false) (hk : (k == 2) = true) : okB k 0 t = plainB t := by
  have : k = 2 := by simpa using hk
  simp [okB, this]
theorem ok_textNo {k n : Int} {t : ByteArray} (_h1 : (k == 1) = false) (hk : (k == 2) = true) (hn : ¬ n = 0) : okB k n t = false := by
  have : k = 2 := by simpa using hk
  simp [okB, this, hn]
theorem ok_none {k n : Int} {t : ByteArray} (h1 : (k == 1) = false) (hk : (k == 2) = false) : okB k n t = false := by
  have a : ¬ k = 1 := by simpa using h1
  have b : ¬ k = 2 := by simpa using hk
  simp [okB, a, b]

/-! What a call leaves alone: all that lay in memory ahead of it. -/
theorem bl_alloc {w w' : World} (h : Below w.heap.size w w') (o : Obj) : Below w.heap.size w (w'.alloc o) := h.alloc h.size o
theorem bl_trans {w w1 w2 : World} (h : Below w.heap.size w w1) (k : Below w1.heap.size w1 w2) : Below w.heap.size w w2 := h.trans (k.mono h.size)
theorem bcell {W w1 : World} (hb : Below W.heap.size W w1) : (∀ b o, b < W.heap.size → w1.cell? ⟨b, o, none⟩ = W.cell? ⟨b, o, none⟩) ∧ (∀ b o, b < W.heap.size → w1.frozen? ⟨b, o, none⟩ = W.frozen? ⟨b, o, none⟩) :=
  ⟨fun b o h => hb.cell (p := ⟨b, o, none⟩) h, fun b o h => hb.frozen (p := ⟨b, o, none⟩) h⟩
/-- A variable of three cells in block N. -/
structure Box3 (N : Nat) (v0 v1 v2 : Value) (w : World) : Prop where
  lt : N < w.heap.size
  c0 : w.cell? ⟨N, 0, none⟩ = some v0
  c1 : w.cell? ⟨N, 1, none⟩ = some v1
  c2 : w.cell? ⟨N, 2, none⟩ = some v2
  fr : ∀ o, w.frozen? ⟨N, o, none⟩ = false
theorem Box3.new (w : World) (v0 v1 v2 : Value) (t : TypeId) : Box3 w.heap.size v0 v1 v2 (w.alloc (.cells #[v0, v1, v2] t)) :=
  ⟨by simp, by simp, by simp, by simp, fun o => by simp [go_sem]⟩
theorem Box3.keep {N : Nat} {v0 v1 v2 : Value} {w u : World} (h : Box3 N v0 v1 v2 w) (hb : Below w.heap.size w u) : Box3 N v0 v1 v2 u where
  lt := Nat.lt_of_lt_of_le h.lt hb.size
  c0 := by rw [hb.cell (p := ⟨N, 0, none⟩) h.lt]; exact h.c0
  c1 := by rw [hb.cell (p := ⟨N, 1, none⟩) h.lt]; exact h.c1
  c2 := by rw [hb.cell (p := ⟨N, 2, none⟩) h.lt]; exact h.c2
  fr := fun o => by rw [hb.frozen (p := ⟨N, o, none⟩) h.lt]; exact h.fr o
theorem Box3.alloc {N : Nat} {v0 v1 v2 : Value} {w : World} (h : Box3 N v0 v1 v2 w) (o : Obj) : Box3 N v0 v1 v2 (w.alloc o) := h.keep (bl_alloc (Below.refl _ _) o)
theorem bl_set3 {w u : World} (h : Below w.heap.size w u) (N : Nat) (hN : w.heap.size ≤ N) (x y z : Value) :
    Below w.heap.size w (((u.setCell ⟨N, 0, none⟩ x).setCell ⟨N, 1, none⟩ y).setCell ⟨N, 2, none⟩ z) :=
  ((h.setCell (p := ⟨N, 0, none⟩) hN x).setCell (p := ⟨N, 1, none⟩) hN y).setCell (p := ⟨N, 2, none⟩) hN z
theorem zGA {α : Type} {xs : List α} {i : Nat} (h : i < xs.toArray.size) : xs.toArray[i] = xs[i]'(by simpa using h) := List.getElem_toArray h
theorem zG0 {α : Type} {a : α} {l : List α} (h : 0 < (a :: l).length) : (a :: l)[0] = a := List.getElem_cons_zero ..
theorem zGC {α : Type} {a : α} {l : List α} {i : Nat} (h : i + 1 < (a :: l).length) : (a :: l)[i + 1] = l[i]'(by simpa using h) := List.getElem_cons_succ ..
theorem zSA {α : Type} {l : List α} {i : Nat} {a : α} : l.toArray.setIfInBounds i a = (l.set i a).toArray := List.setIfInBounds_toArray ..
theorem zS0 {α : Type} {l : List α} {a b : α} : (a :: l).set 0 b = b :: l := by rfl
theorem zSC {α : Type} {l : List α} {i : Nat} {a b : α} : (a :: l).set (i + 1) b = a :: l.set i b := by rfl
end Go.Proofs.YtffpecdjfcgadaaGreatDoor.Pl
namespace Go.Proofs.YtffpecdjfcgadaaGreatDoor.Il
open Go.RowKit Pl

/-- The slice at a, of n elements, reads as xs in w. -/
structure IntsAt (w : World) (a : Option Addr) (n : Nat) (xs : List Int) : Prop where
  len : xs.length = n
  row : n = 0 ∨ ∃ b off, a = some ⟨b, off, none⟩ ∧ b < w.heap.size ∧ ∀ i, i < n → w.cell? ⟨b, off + i, none⟩ = some (.int .i64 (xs.getD i 0))
theorem IntsAt.keep {w w' : World} {a : Option Addr} {n : Nat} {xs : List Int} (h : IntsAt w a n xs) (hb : Below w.heap.size w w') : IntsAt w' a n xs := by
  refine ⟨h.len, ?_⟩
  rcases h.row with k | ⟨b, off, rfl, hlt, hc⟩
  · exact .inl k
  · exact .inr ⟨b, off, rfl, Nat.lt_of_lt_of_le hlt hb.size, fun i hi => by rw [hb.cell (p := ⟨b, off + i, none⟩) hlt]; exact hc i hi⟩
theorem IntsAt.nil (w : World) (a : Option Addr) : IntsAt w a 0 [] := ⟨rfl, .inl rfl⟩
/-- The elements from i on. -/
theorem IntsAt.drop {w : World} {b off n : Nat} {xs : List Int} (h : IntsAt w (some ⟨b, off, none⟩) n xs) (i : Nat) (hi : i ≤ n) : IntsAt w (some ⟨b, off + i, none⟩) (n - i) (xs.drop i) := by
  refine ⟨by rw [List.length_drop, h.len], ?_⟩
  rcases h.row with k | ⟨b', off', e, hlt, hc⟩
  · exact .inl (by omega)
  · cases e
    refine .inr ⟨b, off + i, rfl, hlt, fun j hj => ?_⟩
    rw [Nat.add_assoc, hc (i + j) (by omega)]
    simp [List.getD]
theorem IntsAt.take {w : World} {a : Option Addr} {n : Nat} {xs : List Int} (h : IntsAt w a n xs) (i : Nat) (hi : i ≤ n) : IntsAt w a i (xs.take i) := by
  refine ⟨by rw [List.length_take, h.len]; omega, ?_⟩
  rcases h.row with k | ⟨b, off, rfl, hlt, hc⟩
  · exact .inl (by omega)
  · refine .inr ⟨b, off, rfl, hlt, fun j hj => ?_⟩
    rw [hc j (by omega)]
    simp [List.getD, List.getElem?_take_of_lt hj]

/-- Its cells lie in blocks from B on, and may be written. -/
structure OwnAt (B : Nat) (w : World) (a : Option Addr) (n : Nat) (xs : List Int) : Prop where
  ints : IntsAt w a n xs
  own : n = 0 ∨ ∃ b off, a = some ⟨b, off, none⟩ ∧ B ≤ b ∧ ∀ i, i < n → w.frozen? ⟨b, off + i, none⟩ = false
theorem OwnAt.keep {B : Nat} {w w' : World} {a : Option Addr} {n : Nat} {xs : List Int} (h : OwnAt B w a n xs) (hb : Below w.heap.size w w') : OwnAt B w' a n xs := by
  refine ⟨h.ints.keep hb, ?_⟩
  rcases h.own with k | ⟨b, off, rfl, hB, hf⟩
  · exact .inl k
  · rcases h.ints.row with k | ⟨b', off', e, hlt, _⟩
    · exact .inl k
    · cases e
      exact .inr ⟨b, off, rfl, hB, fun i hi => by rw [hb.frozen (p := ⟨b, off + i, none⟩) hlt]; exact hf i hi⟩
theorem OwnAt.mono {B B' : Nat} {w : World} {a : Option Addr} {n : Nat} {xs : List Int} (h : OwnAt B w a n xs) (hB : B' ≤ B) : OwnAt B' w a n xs := by
  refine ⟨h.ints, ?_⟩
  rcases h.own with k | ⟨b, off, rfl, hb, hf⟩
  · exact .inl k
  · exact .inr ⟨b, off, rfl, Nat.le_trans hB hb, hf⟩

/-- What append's laws own is such a slice. -/
theorem own_of {B : Nat} {w : World} {v : Value} {n : Nat} {ys : List Value} (h : w.ownsRow B 3 1 v n ys) (xs : List Int) (hx : ys = xs.map (Value.int .i64)) : ∃ a cap, v = .slice a n cap ∧ OwnAt B w a n xs := by
  subst hx
  obtain ⟨hl, ⟨rfl, rfl⟩ | ⟨g, cap, cur, rfl, hB, hg, hc, hm, hs, ht⟩⟩ := h
  · have : xs = [] := List.length_eq_zero_iff.1 (by simpa using hl)
    subst this
    exact ⟨_, _, rfl, ⟨⟨rfl, .inl rfl⟩, .inl rfl⟩⟩
  · have hlen : xs.length = n := by simpa using hl
    have hlt : g < w.heap.size := by
      rcases Nat.lt_or_ge g w.heap.size with k | k
      · exact k
      · rw [Array.getElem?_eq_none k] at hg; cases hg
    refine ⟨_, _, rfl, ⟨⟨hlen, .inr ⟨g, 0, rfl, hlt, fun i hi => ?_⟩⟩, .inr ⟨g, 0, rfl, hB, fun i hi => ?_⟩⟩⟩
    · rw [Nat.zero_add, cell_of_row w g i cur 3 (0, 0) hg]
      have e : (xs.map (Value.int .i64))[i]? = (cur.toList.take (n * 1))[i]? := by rw [ht]
      rw [List.getElem?_take_of_lt (by omega)] at e
      rw [← Array.getElem?_toList, ← e]
      simp [List.getD, List.getElem?_eq_getElem (show i < xs.length by omega)]
    · rw [Nat.zero_add]
      simp [World.frozen?, hg]
theorem OwnAt.other {B : Nat} {w w' : World} {a : Option Addr} {n b : Nat} {xs : List Int} (h : OwnAt B w a n xs) (hg : w.grownBy w' (some b)) (hne : n = 0 ∨ ∀ b' off', a = some ⟨b', off', none⟩ → b ≠ b') : OwnAt B w' a n xs := by
  obtain ⟨⟨hl, hr⟩, ho⟩ := h
  rcases hne with h0 | hne
  · exact ⟨⟨hl, .inl h0⟩, .inl h0⟩
  · rcases hr with h0 | ⟨b1, off, rfl, hlt, hc⟩
    · exact ⟨⟨hl, .inl h0⟩, .inl h0⟩
    · have key : w'.heap[b1]? = w.heap[b1]? := hg.block b1 hlt (by intro e; cases e; exact hne _ _ rfl rfl)
      rcases ho with h0 | ⟨b', off', e, hB, hf⟩
      · exact ⟨⟨hl, .inl h0⟩, .inl h0⟩
      · cases e
        refine ⟨⟨hl, .inr ⟨b1, off, rfl, Nat.lt_of_lt_of_le hlt hg.size, fun i hi => ?_⟩⟩, .inr ⟨b1, off, rfl, hB, fun i hi => ?_⟩⟩
        · rw [← hc i hi]; exact World.cell?_of_block key
        · rw [← hf i hi]; exact World.frozen?_of_block key
/-- A store into an elder block. -/
theorem OwnAt.far {B : Nat} {w : World} {a : Option Addr} {n : Nat} {xs : List Int} (h : OwnAt B w a n xs) (b o : Nat) (hb : b < B) (x : Value) : OwnAt B (w.setCell ⟨b, o, none⟩ x) a n xs := by
  refine h.other (b := b) ⟨rfl, rfl, rfl, by simp, fun k _ hk => Below.heap_setCell _ _ _ _ (by rintro rfl; exact hk rfl)⟩ ?_
  rcases h.own with h0 | ⟨b', off', rfl, hB, _⟩
  · exact .inl h0
  · exact .inr fun b1 o1 e => by cases e; omega
theorem own_cap {B : Nat} {w : World} {a : Option Addr} {n cap : Nat} {ys : List Value} (h : w.ownsRow B 3 1 (.slice a n cap) n ys) : n ≤ cap := by
  obtain ⟨_, ⟨e, _⟩ | ⟨g, cap', cur, e, _, _, hc, _⟩⟩ := h
  · cases e; exact Nat.le_refl _
  · cases e; exact hc
/-- Every number of the list fits. -/
def wfL (xs : List Int) : Prop := ∀ x ∈ xs, (Lit.int .i64 x).wf = true
theorem wf_at {xs : List Int} (h : wfL xs) {k : Nat} (hk : k < xs.length) : (Lit.int .i64 (xs.getD k 0)).wf = true := by
  have e : xs.getD k 0 = xs[k] := by simp [List.getD, List.getElem?_eq_getElem hk]
  rw [e]; exact h _ (List.getElem_mem _)
theorem wf_take {xs : List Int} (h : wfL xs) (k : Nat) : wfL (xs.take k) := fun x hx => h x (List.mem_of_mem_take hx)
end Go.Proofs.YtffpecdjfcgadaaGreatDoor.Il
namespace Go.Proofs.YtffpecdjfcgadaaGreatDoor
open Go.RowKit Pl Il

theorem hidOf {p : Prop} (h : p) : Hid p := h
/-- Does x stand in the list? -/
def hasL (xs : List Int) (x : Int) : Bool := xs.contains x
/-- The first place of x, or -1. -/
def placeL (xs : List Int) (x : Int) : Int := match xs.findIdx? (· == x) with | some i => (i : Int) | none => -1
def eqL (xs ys : List Int) : Bool := decide (xs = ys)
def clientL (x : Int) : Bool := decide (0 ≤ x) && decide (x ≤ 63)
/-- k, k + 1 and so on, n of them. -/
def marks (k : Int) (n : Nat) : List Int := (List.range n).map fun (i : Nat) => k + (i : Int)

theorem has_step {xs : List Int} {k : Nat} {x : Int} (hk : k < xs.length) (h : hasL (xs.take k) x = false) (hne : (xs.getD k 0 == x) = false) : hasL (xs.take (k + 1)) x = false := by
  rw [List.take_succ_eq_append_getElem hk]
  have e : xs.getD k 0 = xs[k] := by simp [List.getD, List.getElem?_eq_getElem hk]
  rw [e] at hne
  simp only [hasL, List.contains_eq_mem, List.mem_append, List.mem_singleton, decide_eq_false_iff_not] at h ⊢
  rintro (m | m)
  · exact h m
  · rw [m] at hne; simp at hne
theorem has_hit {xs : List Int} {k : Nat} {x : Int} (hk : k < xs.length) (he : (xs.getD k 0 == x) = true) : hasL xs x = true := by
  have e : xs.getD k 0 = xs[k] := by simp [List.getD, List.getElem?_eq_getElem hk]
  rw [e] at he
  have : xs[k] = x := by simpa using he
  rw [← this]; simp [hasL]
theorem has_end {xs : List Int} {k : Nat} {x : Int} (hk : xs.length ≤ k) (h : hasL (xs.take k) x = false) : hasL xs x = false := by rwa [List.take_of_length_le hk] at h
theorem bl_drewN {w w' : World} (h : Below w.heap.size w w') (n : Nat) : Below w.heap.size w (w'.drewN n) := ⟨h.os, h.tape, h.output, h.size, h.block⟩
theorem rbool {a b : Bool} (h : a = b) : Ending.returned (.bool a) = .returned (.bool b) := by rw [h]

theorem l2Has_any (a : Option Addr) (n cap : Nat) (xs : List Int) (x : Int) (w : World) (hI : IntsAt w a n xs) (hn : n ≤ 2097152) :
    Calls Tryz.prog 31 #[.slice a n cap, .int .i64 x] w fun e w' => e = .returned (.bool (hasL xs x)) ∧ w' = w := by
  obtain ⟨hlen, rfl | ⟨b, off, rfl, hb, hcell⟩⟩ := hI
  · have : xs = [] := List.length_eq_zero_iff.1 hlen
    subst this
    go_enter Tryz.func31, Tryz.ntmps31
    go_wp2
    go_loop [5] (fun i => i = .int .i64 0) (fun _ => 0)
    case atStart => rfl
    case round =>
      subst hrel
      go_wp2
      go_ret
      exact ⟨rfl, rfl⟩
  · go_enter Tryz.func31, Tryz.ntmps31
    go_wp2
    go_loop [5] (fun i => ∃ k : Nat, k ≤ n ∧ i = .int .i64 k ∧ hasL (xs.take k) x = false) (fun i => n - (intOf i).toNat)
    case atStart => exact ⟨0, Nat.zero_le _, rfl, by simp [hasL]⟩
    case round =>
      obtain ⟨k, hk, rfl, hno⟩ := hrel
      have Hno : Hid _ := hno
      clear hno
      by_cases hlt : k < n
      · have hc := hcell k hlt
        generalize hy : xs.getD k 0 = y at hc
        have HY : Hid _ := hy
        clear hy hcell
        cases hxy : (y == x)
        · go_wp2
          go_round
          case rel => exact ⟨k + 1, by omega, by go_num, has_step (by omega) Hno.out (by rw [HY.out]; exact hxy)⟩
          case measure => simp [intOf]; omega
        · go_wp2
          go_ret
          exact ⟨rbool (has_hit (k := k) (by omega) (by rw [HY.out]; exact hxy)).symm, rfl⟩
      · clear hcell
        go_wp2
        go_ret
        exact ⟨rbool (has_end (by omega) Hno.out).symm, rfl⟩

theorem place_hit {xs : List Int} {k : Nat} {x : Int} (hk : k < xs.length) (h : hasL (xs.take k) x = false) (he : (xs.getD k 0 == x) = true) : (k : Int) = placeL xs x := by
  have e : xs.getD k 0 = xs[k] := by simp [List.getD, List.getElem?_eq_getElem hk]
  rw [e] at he
  have hf : xs.findIdx? (· == x) = some k := by
    rw [List.findIdx?_eq_some_iff_getElem]
    refine ⟨hk, he, fun j hj => ?_⟩
    intro hjx
    have hm : xs[j]'(by omega) ∈ xs.take k := by
      rw [List.mem_take_iff_getElem]
      exact ⟨j, by omega, rfl⟩
    have : xs[j]'(by omega) = x := by simpa using hjx
    rw [this] at hm
    simp [hasL] at h
    exact h hm
  simp [placeL, hf]
theorem place_none {xs : List Int} {k : Nat} {x : Int} (hk : xs.length ≤ k) (h : hasL (xs.take k) x = false) : (-1 : Int) = placeL xs x := by
  have h' := has_end hk h
  have hf : xs.findIdx? (· == x) = none := by
    rw [List.findIdx?_eq_none_iff]
    intro y hy
    simp [hasL] at h'
    cases hyx : (y == x)
    · rfl
    · have : y = x := by simpa using hyx
      subst this; exact absurd hy h'
  simp [placeL, hf]
theorem rint {a b : Int} (h : a = b) : Ending.returned (.int .i64 a) = .returned (.int .i64 b) := by rw [h]


theorem eq_step {xs ys : List Int} {k : Nat} (hk : k < xs.length) (hk' : k < ys.length) (h : xs.take k = ys.take k) (he : (xs.getD k 0 != ys.getD k 0) = false) : xs.take (k + 1) = ys.take (k + 1) := by
  rw [List.take_succ_eq_append_getElem hk, List.take_succ_eq_append_getElem hk', h]
  have e : xs.getD k 0 = xs[k] := by simp [List.getD, List.getElem?_eq_getElem hk]
  have e' : ys.getD k 0 = ys[k] := by simp [List.getD, List.getElem?_eq_getElem hk']
  rw [e, e'] at he
  have : xs[k] = ys[k] := by simpa using he
  rw [this]
theorem eq_no {xs ys : List Int} {k : Nat} (he : (xs.getD k 0 != ys.getD k 0) = true) : eqL xs ys = false := by
  unfold eqL
  rw [decide_eq_false_iff_not]
  rintro rfl
  simp at he
theorem eq_len {xs ys : List Int} (hl : ¬ xs.length = ys.length) : eqL xs ys = false := by
  unfold eqL
  rw [decide_eq_false_iff_not]
  rintro rfl
  exact hl rfl
theorem eq_end {xs ys : List Int} {k : Nat} (hl : xs.length = ys.length) (hk : xs.length ≤ k) (h : xs.take k = ys.take k) : eqL xs ys = true := by
  rw [List.take_of_length_le hk, List.take_of_length_le (by omega)] at h
  simp [eqL, h]

theorem eqIntS_any (a a' : Option Addr) (n n' cap cap' : Nat) (xs ys : List Int) (w : World) (hI : IntsAt w a n xs) (hJ : IntsAt w a' n' ys) (hn : n ≤ 2097152) (hn' : n' ≤ 2097152) :
    Calls Tryz.prog 68 #[.slice a n cap, .slice a' n' cap'] w fun e w' => e = .returned (.bool (eqL xs ys)) ∧ Below w.heap.size w w' := by
  by_cases hl : n = n'
  · subst hl
    obtain ⟨hlen, rfl | ⟨b, off, rfl, hb, hcell⟩⟩ := hI
    · have : xs = [] := List.length_eq_zero_iff.1 hlen
      have e2 : ys = [] := List.length_eq_zero_iff.1 hJ.len
      subst this e2
      go_enter Tryz.func68, Tryz.ntmps68
      go_wp2
      go_loop [5] (fun i => i = .int .i64 0) (fun _ => 0)
      case atStart => rfl
      case round =>
        subst hrel
        go_wp2
        go_ret
        exact ⟨rfl, Below.refl _ _⟩
    · obtain ⟨hlen', rfl | ⟨b', off', rfl, hb', hcell'⟩⟩ := hJ
      · have : xs = [] := List.length_eq_zero_iff.1 hlen
        have e2 : ys = [] := List.length_eq_zero_iff.1 hlen'
        subst this e2
        go_enter Tryz.func68, Tryz.ntmps68
        go_wp2
        go_loop [5] (fun i => i = .int .i64 0) (fun _ => 0)
        case atStart => rfl
        case round =>
          subst hrel
          go_wp2
          go_ret
          exact ⟨rfl, Below.refl _ _⟩
      · go_enter Tryz.func68, Tryz.ntmps68
        go_wp2
        go_loopw [5] (fun i wr => ∃ k : Nat, k ≤ n ∧ i = .int .i64 k ∧ xs.take k = ys.take k ∧ ∃ q, wr = w.drewN q) (fun i _ => n - (intOf i).toNat)
        case atStart => exact ⟨0, Nat.zero_le _, rfl, rfl, 0, rfl⟩
        case round =>
          obtain ⟨k, hk, rfl, hno, q, rfl⟩ := hrel
          have Hno : Hid _ := hno
          clear hno
          by_cases hlt : k < n
          · have hc := hcell k hlt
            have hc' := hcell' k hlt
            generalize hy : xs.getD k 0 = y at hc
            generalize hz : ys.getD k 0 = z at hc'
            have HY : Hid _ := hy
            have HZ : Hid _ := hz
            clear hy hz hcell hcell'
            have hki : (k : Int) < (n : Int) := by omega
            cases hyz : (y != z)
            · go_wp2
              go_quiet (fail)
              go_wp2
              go_roundw
              case rel => exact ⟨k + 1, by omega, by go_num, eq_step (by omega) (by omega) Hno.out (by rw [HY.out, HZ.out]; exact hyz), _, rfl⟩
              case measure => simp [intOf]; omega
            · go_wp2
              go_quiet (fail)
              go_wp2
              go_ret
              exact ⟨rbool (eq_no (k := k) (by rw [HY.out, HZ.out]; exact hyz)).symm, bl_drewN (bl_drewN (Below.refl _ _) _) _⟩
          · clear hcell hcell'
            go_wp2
            go_ret
            exact ⟨rbool (eq_end (by omega) (by omega) Hno.out).symm, bl_drewN (Below.refl _ _) _⟩
  · have hne : ((n : Int) != (n' : Int)) = true := by simp; omega
    have hq := eq_len (xs := xs) (ys := ys) (by rw [hI.len, hJ.len]; exact hl)
    clear hI hJ
    go_enter Tryz.func68, Tryz.ntmps68
    go_wp2
    go_ret
    exact ⟨rbool hq.symm, Below.refl _ _⟩
end Go.Proofs.YtffpecdjfcgadaaGreatDoor
namespace Go.Proofs.YtffpecdjfcgadaaGreatDoor
open Go.RowKit Pl Il

theorem info3 : (Tryz.prog.info? 3).map (fun i => (i.zero, i.size, i.bytes)) = some (some (.int .i64 0), 1, 8) := by kernel_rfl

/-- A new row in block g: its first k places hold xs's. -/
structure Filling (w : World) (g n : Nat) (xs : List Int) (k : Nat) (wr : World) : Prop where
  below : Below w.heap.size w wr
  ge : w.heap.size ≤ g
  lt : g < wr.heap.size
  cells : ∀ j, j < n → ∃ v, wr.cell? ⟨g, j, none⟩ = some v ∧ (j < k → v = .int .i64 (xs.getD j 0))
  fr : ∀ j, wr.frozen? ⟨g, j, none⟩ = false
theorem Filling.step {w : World} {g n : Nat} {xs : List Int} {k : Nat} {wr : World} (h : Filling w g n xs k wr) (x : Int) (hx : xs.getD k 0 = x) : Filling w g n xs (k + 1) (wr.setCell ⟨g, k, none⟩ (.int .i64 x)) where
  below := h.below.setCell (p := ⟨g, k, none⟩) h.ge _
  ge := h.ge
  lt := by simpa using h.lt
  cells := fun j hj => by
    obtain ⟨v, hv, hk⟩ := h.cells j hj
    by_cases e : j = k
    · subst e
      exact ⟨_, World.cell?_setCell_same _ _ _ hv, fun _ => by rw [hx]⟩
    · refine ⟨v, ?_, fun hlt => hk (by omega)⟩
      rw [World.cell?_setCell_other _ _ _ _ (by intro e'; cases e'; exact e rfl)]; exact hv
  fr := fun j => by simpa using h.fr j
theorem Filling.own {w : World} {g n : Nat} {xs : List Int} {wr : World} (h : Filling w g n xs n wr) (hl : xs.length = n) : OwnAt w.heap.size wr (some ⟨g, 0, none⟩) n xs :=
  ⟨⟨hl, .inr ⟨g, 0, rfl, h.lt, fun i hi => by obtain ⟨v, hv, hk⟩ := h.cells i hi; rw [Nat.zero_add, hv, hk hi]⟩⟩, .inr ⟨g, 0, rfl, h.ge, fun i _ => by rw [Nat.zero_add]; exact h.fr i⟩⟩
theorem Filling.start (w : World) (n : Nat) (xs : List Int) (t : TypeId) : Filling w w.heap.size n xs 0 (w.alloc (.cells (madeCells (Value.int .i64 0).cells n) t)) where
  below := bl_alloc (Below.refl _ _) _
  ge := Nat.le_refl _
  lt := by simp
  cells := fun j hj => by
    rw [World.cell?_alloc_new]
    exact ⟨(madeCells (Value.int .i64 0).cells n)[j]'(by rw [size_madeCells]; exact hj), by rw [Array.getElem?_eq_getElem], fun h => by omega⟩
  fr := fun j => by simp [go_sem]

theorem make_ints (n : Nat) (hn : n ≤ 2097152) (w : World) : (Instr.makeSlice 41 (.int .i64 (n : Int)) (.int .i64 (n : Int))).run Tryz.prog w = .ok (.slice (some ⟨w.heap.size, 0, none⟩) n n) (w.alloc (.cells (madeCells (Value.int .i64 0).cells n) 3)) := by
  obtain ⟨i, hi, hz0, hz1, hz2⟩ := info_parts info3
  have := run_make (P := Tryz.prog) w 41 3 i (.int .i64 0) Tryz.underlying41 hi hz0 .i64 .i64 (n : Int) (n : Int) (by omega) (by omega) (by rw [hz2]; omega) (by omega)
  rw [hz1] at this
  simpa using this
theorem toIntS_any (a : Option Addr) (n cap : Nat) (xs : List Int) (w : World) (hI : IntsAt w a n xs) (hn : n ≤ 2097152) :
    Calls Tryz.prog 53 #[.slice a n cap] w fun e w' => e = .returned (.slice (some ⟨w.heap.size, 0, none⟩) n n) ∧ OwnAt w.heap.size w' (some ⟨w.heap.size, 0, none⟩) n xs ∧ Below w.heap.size w w' := by
  have hmk := make_ints n hn
  have hS := Filling.start w n xs 3
  obtain ⟨hlen, rfl | ⟨b, off, rfl, hb, hcell⟩⟩ := hI
  · have hx : xs = [] := List.length_eq_zero_iff.1 hlen
    subst hx
    have hmk0 : ∀ w : World, (Instr.makeSlice 41 (.int .i64 0) (.int .i64 0)).run Tryz.prog w = .ok (.slice (some ⟨w.heap.size, 0, none⟩) 0 0) (w.alloc (.cells (madeCells (Value.int .i64 0).cells 0) 3)) := fun w => make_ints 0 (by omega) w
    clear hmk
    have hmk := hmk0
    clear hmk0
    go_enter Tryz.func53, Tryz.ntmps53
    go_wp2
    go_loopw [4] (fun i wr => i = .int .i64 0 ∧ Filling w w.heap.size 0 [] 0 wr) (fun _ _ => 0)
    case atStart => exact ⟨rfl, hS⟩
    case round =>
      obtain ⟨rfl, hF⟩ := hrel
      clear hS hmk
      go_wp2
      go_ret
      exact ⟨rfl, hF.own rfl, hF.below⟩
  · go_enter Tryz.func53, Tryz.ntmps53
    go_wp2
    go_loopw [4] (fun i wr => ∃ k : Nat, k ≤ n ∧ i = .int .i64 k ∧ Filling w w.heap.size n xs k wr) (fun i _ => n - (intOf i).toNat)
    case atStart => exact ⟨0, Nat.zero_le _, rfl, hS⟩
    case round =>
      rename_i wr
      obtain ⟨k, hk, rfl, hF⟩ := hrel
      clear hS hmk
      by_cases hlt : k < n
      · have hc : wr.cell? ⟨b, off + k, none⟩ = some (.int .i64 (xs.getD k 0)) := by rw [hF.below.cell (p := ⟨b, off + k, none⟩) hb]; exact hcell k hlt
        generalize hy : xs.getD k 0 = y at hc
        obtain ⟨v, hv, _⟩ := hF.cells k hlt
        have hfr := hF.fr k
        have hN := hF.step y hy
        have HF : Hid _ := hN
        clear hy hcell hF hN
        go_wp2
        go_roundw
        case rel => exact ⟨k + 1, by omega, by go_num, HF.out⟩
        case measure => simp [intOf]; omega
      · obtain rfl : k = n := by omega
        clear hcell
        go_wp2
        go_ret
        exact ⟨rfl, hF.own hlen, hF.below⟩

theorem marks_get {k : Int} {n j : Nat} (h : j < n) : (marks k n).getD j 0 = k + (j : Int) := by
  simp [marks, List.getD, List.getElem?_map, List.getElem?_range h]
theorem marks_len (k : Int) (n : Nat) : (marks k n).length = n := by simp [marks]

/-- Marks are written into a row, place by place. -/
structure Marking (w : World) (b off n : Nat) (k : Int) (m : Nat) (wr : World) : Prop where
  ex : w.grownBy wr (some b)
  lt : b < wr.heap.size
  cells : ∀ j, j < n → ∃ v, wr.cell? ⟨b, off + j, none⟩ = some v ∧ (j < m → v = .int .i64 (k + (j : Int)))
  fr : ∀ j, j < n → wr.frozen? ⟨b, off + j, none⟩ = false
theorem Marking.step {w : World} {b off n : Nat} {k : Int} {m : Nat} {wr : World} (h : Marking w b off n k m wr) : Marking w b off n k (m + 1) (wr.setCell ⟨b, off + m, none⟩ (.int .i64 (k + (m : Int)))) where
  ex := by
    refine ⟨h.ex.os, h.ex.tape, h.ex.output, by simpa using h.ex.size, fun i hi hn => ?_⟩
    rw [Below.heap_setCell wr ⟨b, off + m, none⟩ _ i (by rintro rfl; exact hn rfl)]
    exact h.ex.block i hi hn
  lt := by simpa using h.lt
  cells := fun j hj => by
    obtain ⟨v, hv, hk⟩ := h.cells j hj
    by_cases e : j = m
    · subst e
      exact ⟨_, World.cell?_setCell_same _ _ _ hv, fun _ => rfl⟩
    · refine ⟨v, ?_, fun hlt => hk (by omega)⟩
      rw [World.cell?_setCell_other _ _ _ _ (by intro e'; injection e' with _ e2; omega)]; exact hv
  fr := fun j hj => by simpa using h.fr j hj


end Go.Proofs.YtffpecdjfcgadaaGreatDoor
namespace Go.Proofs.YtffpecdjfcgadaaGreatDoor
open Go.RowKit Pl Il

abbrev Tm : Type := Int × Int × ByteArray
def noT : ByteArray := ⟨#[]⟩
def qC (p : Tm) : List Value := [.int .i64 p.1, .int .i64 p.2.1, .string p.2.2]
def qflat (ts : List Tm) : List Value := ts.flatMap qC
def qg (ts : List Tm) (i : Nat) : Tm := ts.getD i (0, 0, noT)
theorem length_qflat (l : List Tm) : (qflat l).length = l.length * 3 := by
  induction l with
  | nil => rfl
  | cons x l ih => simp [qflat, qC] at ih ⊢; omega
theorem qflat_at : ∀ (l : List Tm) (i r : Nat), i < l.length → r < 3 → (qflat l)[i * 3 + r]? = (qC (qg l i))[r]?
  | [], i, r, hi, _ => by simp at hi
  | x :: l, 0, r, _, hr => by
    have e : qflat (x :: l) = qC x ++ qflat l := by simp [qflat]
    rw [e, List.getElem?_append_left (by simp [qC]; omega)]
    simp [qg]
  | x :: l, i + 1, r, hi, hr => by
    have e : qflat (x :: l) = qC x ++ qflat l := by simp [qflat]
    have hc : (qC x).length = 3 := rfl
    rw [e, List.getElem?_append_right (by rw [hc]; omega), hc, show (i + 1) * 3 + r - 3 = i * 3 + r by omega, qflat_at l i r (by simpa using hi) hr]
    simp [qg]
theorem qflat_snoc (l : List Tm) (x : Tm) : qflat (l ++ [x]) = qflat l ++ qC x := by simp [qflat]
theorem qflat_append (l m : List Tm) : qflat (l ++ m) = qflat l ++ qflat m := by simp [qflat]
theorem qg_eq {l : List Tm} {i : Nat} (h : i < l.length) : qg l i = l[i] := by unfold qg; rw [List.getD_eq_getElem?_getD, List.getElem?_eq_getElem h]; rfl
theorem qg_take {l : List Tm} {i n : Nat} (h : i < n) : qg (l.take n) i = qg l i := by unfold qg; rw [List.getD_eq_getElem?_getD, List.getD_eq_getElem?_getD, List.getElem?_take_of_lt h]
theorem take_qg {l : List Tm} {k : Nat} (h : k < l.length) : l.take (k + 1) = l.take k ++ [qg l k] := by rw [List.take_succ_eq_append_getElem h, qg_eq h]
theorem drop_qg {l : List Tm} {k : Nat} (h : k < l.length) : l.drop k = qg l k :: l.drop (k + 1) := by rw [List.drop_eq_getElem_cons h, qg_eq h]
theorem qg_mem {l : List Tm} {k : Nat} (h : k < l.length) : qg l k ∈ l := by rw [qg_eq h]; exact List.getElem_mem h

/-- The slice at a, of n terms, reads as ts in w. -/
structure TmAt (w : World) (a : Option Addr) (n : Nat) (ts : List Tm) : Prop where
  len : ts.length = n
  short : ∀ p, p ∈ ts → p.2.2.size ≤ maxLen
  row : n = 0 ∨ ∃ b off, a = some ⟨b, off, none⟩ ∧ b < w.heap.size ∧ ∀ i, i < n → w.cell? ⟨b, off + i * 3, none⟩ = some (.int .i64 (qg ts i).1) ∧ w.cell? ⟨b, off + i * 3 + 1, none⟩ = some (.int .i64 (qg ts i).2.1) ∧ w.cell? ⟨b, off + i * 3 + 2, none⟩ = some (.string (qg ts i).2.2)
theorem TmAt.keep {w w' : World} {a : Option Addr} {n : Nat} {ts : List Tm} (h : TmAt w a n ts) (hb : Below w.heap.size w w') : TmAt w' a n ts := by
  refine ⟨h.len, h.short, ?_⟩
  rcases h.row with k | ⟨b, off, rfl, hlt, hc⟩
  · exact .inl k
  · exact .inr ⟨b, off, rfl, Nat.lt_of_lt_of_le hlt hb.size, fun i hi => by rw [hb.cell (p := ⟨b, off + i * 3, none⟩) hlt, hb.cell (p := ⟨b, off + i * 3 + 1, none⟩) hlt, hb.cell (p := ⟨b, off + i * 3 + 2, none⟩) hlt]; exact hc i hi⟩
theorem TmAt.below {w w' : World} {B : Nat} {a : Option Addr} {n : Nat} {ts : List Tm} (h : TmAt w a n ts) (hb : Below B w w') (hB : n = 0 ∨ ∀ b off, a = some ⟨b, off, none⟩ → b < B) : TmAt w' a n ts := by
  refine ⟨h.len, h.short, ?_⟩
  rcases h.row with k | ⟨b, off, rfl, hlt, hc⟩
  · exact .inl k
  · rcases hB with k | hB
    · exact .inl k
    · have hbB := hB b off rfl
      exact .inr ⟨b, off, rfl, Nat.lt_of_lt_of_le hlt hb.size, fun i hi => by rw [hb.cell (p := ⟨b, off + i * 3, none⟩) hbB, hb.cell (p := ⟨b, off + i * 3 + 1, none⟩) hbB, hb.cell (p := ⟨b, off + i * 3 + 2, none⟩) hbB]; exact hc i hi⟩
theorem TmAt.nil (w : World) (a : Option Addr) : TmAt w a 0 [] := ⟨rfl, fun p hp => (by cases hp), .inl rfl⟩
theorem TmAt.lt {w : World} {a : Option Addr} {n : Nat} {ts : List Tm} (h : TmAt w a n ts) : n = 0 ∨ ∀ b off, a = some ⟨b, off, none⟩ → b < w.heap.size := by
  rcases h.row with k | ⟨b, off, rfl, hlt, hc⟩
  · exact .inl k
  · exact .inr fun b' o' e => by cases e; exact hlt

/-- Its cells lie in blocks from B on, and may be written. -/
structure OwnF (B : Nat) (w : World) (a : Option Addr) (n : Nat) (ts : List Tm) : Prop where
  tm : TmAt w a n ts
  own : n = 0 ∨ ∃ b off, a = some ⟨b, off, none⟩ ∧ B ≤ b ∧ ∀ o, w.frozen? ⟨b, o, none⟩ = false
theorem OwnF.keep {B : Nat} {w w' : World} {a : Option Addr} {n : Nat} {ts : List Tm} (h : OwnF B w a n ts) (hb : Below w.heap.size w w') : OwnF B w' a n ts := by
  refine ⟨h.tm.keep hb, ?_⟩
  rcases h.own with k | ⟨b, off, rfl, hB, hf⟩
  · exact .inl k
  · rcases h.tm.row with k | ⟨b', off', e, hlt, _⟩
    · exact .inl k
    · cases e
      exact .inr ⟨b, off, rfl, hB, fun o => by rw [hb.frozen (p := ⟨b, o, none⟩) hlt]; exact hf o⟩
theorem OwnF.mono {B B' : Nat} {w : World} {a : Option Addr} {n : Nat} {ts : List Tm} (h : OwnF B w a n ts) (hB : B' ≤ B) : OwnF B' w a n ts := by
  refine ⟨h.tm, ?_⟩
  rcases h.own with k | ⟨b, off, rfl, hb, hf⟩
  · exact .inl k
  · exact .inr ⟨b, off, rfl, Nat.le_trans hB hb, hf⟩
theorem OwnF.other {B : Nat} {w w' : World} {a : Option Addr} {n b : Nat} {ts : List Tm} (h : OwnF B w a n ts) (hg : w.grownBy w' (some b)) (hne : n = 0 ∨ ∀ b' off', a = some ⟨b', off', none⟩ → b ≠ b') : OwnF B w' a n ts := by
  obtain ⟨⟨hl, hs, hr⟩, ho⟩ := h
  rcases hne with h0 | hne
  · exact ⟨⟨hl, hs, .inl h0⟩, .inl h0⟩
  · rcases hr with h0 | ⟨b1, off, rfl, hlt, hc⟩
    · exact ⟨⟨hl, hs, .inl h0⟩, .inl h0⟩
    · have key : w'.heap[b1]? = w.heap[b1]? := hg.block b1 hlt (by intro e; cases e; exact hne _ _ rfl rfl)
      rcases ho with h0 | ⟨b', off', e, hB, hf⟩
      · exact ⟨⟨hl, hs, .inl h0⟩, .inl h0⟩
      · cases e
        refine ⟨⟨hl, hs, .inr ⟨b1, off, rfl, Nat.lt_of_lt_of_le hlt hg.size, fun i hi => ?_⟩⟩, .inr ⟨b1, off, rfl, hB, fun o => ?_⟩⟩
        · rw [World.cell?_of_block (w := w) (a := ⟨b1, off + i * 3, none⟩) key, World.cell?_of_block (w := w) (a := ⟨b1, off + i * 3 + 1, none⟩) key, World.cell?_of_block (w := w) (a := ⟨b1, off + i * 3 + 2, none⟩) key]; exact hc i hi
        · rw [← hf o]; exact World.frozen?_of_block key
/-- A store into an elder block. -/
theorem OwnF.far {B : Nat} {w : World} {a : Option Addr} {n : Nat} {ts : List Tm} (h : OwnF B w a n ts) (b o : Nat) (hb : b < B) (x : Value) : OwnF B (w.setCell ⟨b, o, none⟩ x) a n ts := by
  refine h.other (b := b) ⟨rfl, rfl, rfl, by simp, fun k _ hk => Below.heap_setCell _ _ _ _ (by rintro rfl; exact hk rfl)⟩ ?_
  rcases h.own with h0 | ⟨b', off', rfl, hB, _⟩
  · exact .inl h0
  · exact .inr fun b1 o1 e => by cases e; omega
theorem OwnF.span {B : Nat} {w : World} {a : Option Addr} {n : Nat} {ts : List Tm} (h : OwnF B w a n ts) : n = 0 ∨ ∀ b off, a = some ⟨b, off, none⟩ → B ≤ b ∧ b < w.heap.size := by
  rcases h.tm.row with h0 | ⟨b, off, rfl, hlt, _⟩
  · exact .inl h0
  · rcases h.own with h0 | ⟨b', off', e, hB, _⟩
    · exact .inl h0
    · cases e
      exact .inr fun b1 o1 e => by cases e; exact ⟨hB, hlt⟩
/-- What append's laws own is such a slice. -/
theorem ownF_of {B : Nat} {w : World} {t : TypeId} {v : Value} {n : Nat} {ys : List Value} (h : w.ownsRow B t 3 v n ys) (ts : List Tm) (hx : ys = qflat ts) (hs : ∀ p, p ∈ ts → p.2.2.size ≤ maxLen) : ∃ a cap, v = .slice a n cap ∧ n ≤ cap ∧ OwnF B w a n ts := by
  subst hx
  have hlen : ts.length = n := by have := h.1; rw [length_qflat] at this; omega
  obtain ⟨hl, ⟨rfl, rfl⟩ | ⟨g, cap, cur, rfl, hB, hg, hc, hm, _, ht⟩⟩ := id h
  · exact ⟨_, _, rfl, Nat.le_refl _, ⟨⟨hlen, hs, .inl rfl⟩, .inl rfl⟩⟩
  · have hlt : g < w.heap.size := by
      rcases Nat.lt_or_ge g w.heap.size with k | k
      · exact k
      · rw [Array.getElem?_eq_none k] at hg; cases hg
    refine ⟨_, _, rfl, hc, ⟨⟨hlen, hs, .inr ⟨g, 0, rfl, hlt, fun i hi => ?_⟩⟩, .inr ⟨g, 0, rfl, hB, fun o => by simp [World.frozen?, hg]⟩⟩⟩
    have key : ∀ r, r < 3 → w.cell? ⟨g, i * 3 + r, none⟩ = (qC (qg ts i))[r]? := fun r hr => by
      rw [h.cellAt (i * 3 + r) (by omega), qflat_at ts i r (by omega) hr]
    rw [Nat.zero_add]
    exact ⟨key 0 (by omega), key 1 (by omega), key 2 (by omega)⟩
end Go.Proofs.YtffpecdjfcgadaaGreatDoor
