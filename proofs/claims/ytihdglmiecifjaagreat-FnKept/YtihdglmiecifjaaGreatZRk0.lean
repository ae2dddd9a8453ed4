/-
  The plain mathematics of messages (no program in it): which bytes a te
  Slices of numbers in memory: what they read as, and what leaves that a
  Walks of functions that only read a list of numbers
  Walks of functions that make a list of numbers, or write into one
-/
import Derived.Below
import Derived.BigQuiet
import Derived.Deep.AppendLies
import Derived.Deep.AppendSrc
import Derived.Deep.Draws
import Derived.Deep.QuietTactic
import Derived.Deep.RegionHeld3
import Derived.Laws.MakeOwn
import Derived.Maps.AppendAt
import Derived.Maps.Range
import Derived.Test.YtihdglmiecifjaaGreatRows
import Derived.WalkKit
import Derived.WalkLawsBesides
import Derived.WalkSpells
namespace Go.Proofs.YtihdglmiecifjaaGreat.Pl
open Go.RowKit
def goodB (c : UInt8) : Bool := decide (32 ≤ c.toNat) && decide (c.toNat ≤ 126) && !(decide (c.toNat = 34))
def plainL (l : List UInt8) : Bool := l.all goodB
def plainB (s : ByteArray) : Bool := decide (s.size ≤ 40) && plainL s.data.toList
def okNum (n : Int) : Bool := decide (-999999999 ≤ n) && decide (n ≤ 999999999)
def okB (k n : Int) (t : ByteArray) : Bool :=
  if k = 1 then (t.toList.isEmpty && okNum n) else if k = 2 then (decide (n = 0) && plainB t) else false
theorem take_snoc (s : ByteArray) (k : Nat) (h : k < s.size) : s.data.toList.take (k + 1) = s.data.toList.take k ++ [s[k]] := by
  rw [List.take_succ_eq_append_getElem (by simpa using h)]; rfl
theorem plain_step (s : ByteArray) (k : Nat) (h : k < s.size) (hp : plainL (s.data.toList.take k) = true) (hg : goodB s[k] = true) :
    plainL (s.data.toList.take (k + 1)) = true := by
  rw [take_snoc s k h]; simp [plainL] at hp ⊢; exact ⟨hp, hg⟩
theorem plain_bad (s : ByteArray) (k : Nat) (h : k < s.size) (hg : goodB s[k] = false) : plainB s = false := by
  have hm : s[k] ∈ s.data.toList := by
    have : s.data.toList[k]'(by simpa using h) = s[k] := rfl
    rw [← this]; exact List.getElem_mem _
  have : plainL s.data.toList = false := by
    unfold plainL
    rw [List.all_eq_false]
    exact ⟨_, hm, by simp [hg]⟩
  simp [plainB, this]
theorem plain_long (s : ByteArray) (h : 40 < (s.size : Int)) : plainB s = false := by
  have : ¬ s.size ≤ 40 := by omega
  simp [plainB, this]
theorem plain_all (s : ByteArray) (k : Nat) (h40 : ¬ 40 < (s.size : Int)) (h : s.size ≤ k) (hp : plainL (s.data.toList.take k) = true) : plainB s = true := by
  have e : s.data.toList.take k = s.data.toList := List.take_of_length_le (by simpa using h)
  rw [e] at hp
  have : s.size ≤ 40 := by omega
  simp [plainB, this, hp]
theorem good_lo (c : UInt8) (h : (c.toNat : Int) < 32) : goodB c = false := by
  have : ¬ 32 ≤ c.toNat := by omega
  simp [goodB, this]
theorem good_hi (c : UInt8) (h : 126 < (c.toNat : Int)) : goodB c = false := by
  have : ¬ c.toNat ≤ 126 := by omega
  simp [goodB, this]
theorem good_q (c : UInt8) (h : (c.toNat : Int) = 34) : goodB c = false := by
  have : c.toNat = 34 := by omega
  simp [goodB, this]
theorem good_yes (c : UInt8) (h1 : ¬ (c.toNat : Int) < 32) (h2 : ¬ 126 < (c.toNat : Int)) (h3 : ¬ (c.toNat : Int) = 34) : goodB c = true := by
  have a : 32 ≤ c.toNat := by omega
  have b : c.toNat ≤ 126 := by omega
  have d : ¬ c.toNat = 34 := by omega
  simp [goodB, a, b, d]
theorem good_no (c : UInt8) (h : (c.toNat : Int) < 32 ∨ 126 < (c.toNat : Int) ∨ (c.toNat : Int) = 34) : goodB c = false := by
  rcases h with h | h | h
  · exact good_lo c h
  · exact good_hi c h
  · exact good_q c h
theorem ret_bool {a b : Bool} (h : a = b) : Ending.returned (.bool a) = .returned (.bool b) := by rw [h]
theorem ok_num {k n : Int} {t : ByteArray} (hk : (k == 1) = true) (ht : t.toList = []) : okB k n t = okNum n := by
  have : k = 1 := by simpa using hk
  simp [okB, this, ht]
theorem ok_numNo {k n : Int} {t : ByteArray} (hk : (k == 1) = true) (ht : ¬ t.toList = []) : okB k n t = false := by
  have : k = 1 := by simpa using hk
  simp [okB, this, ht]
theorem ok_text {k : Int} {t : ByteArray} (_h1 : (k == 1) = false) (hk : (k == 2) = true) : okB k 0 t = plainB t := by
  have : k = 2 := by simpa using hk
  simp [okB, this]
theorem ok_textNo {k n : Int} {t : ByteArray} (_h1 : (k == 1) = false) (hk : (k == 2) = true) (hn : ¬ n = 0) : okB k n t = false := by
  have : k = 2 := by simpa using hk
  simp [okB, this, hn]
theorem ok_none {k n : Int} {t : ByteArray} (h1 : (k == 1) = false) (hk : (k == 2) = false) : okB k n t = false := by
  have a : ¬ k = 1 := by simpa using h1
  have b : ¬ k = 2 := by simpa using hk
  simp [okB, a, b]
/-! What a call leaves alone: all that lay in memory ahead of it. -/
theorem bl_alloc {w w' : World} (h : Below w.heap.size w w') (o : Obj) : Below w.heap.size w (w'.alloc o) := h.alloc h.size o
theorem bl_trans {w w1 w2 : World} (h : Below w.heap.size w w1) (k : Below w1.heap.size w1 w2) : Below w.heap.size w w2 := h.trans (k.mono h.size)
/-- A variable of three cells in block N. -/
structure Box3 (N : Nat) (v0 v1 v2 : Value) (w : World) : Prop where
  lt : N < w.heap.size
  c0 : w.cell? ⟨N, 0, none⟩ = some v0
  c1 : w.cell? ⟨N, 1, none⟩ = some v1
  c2 : w.cell? ⟨N, 2, none⟩ = some v2
  fr : ∀ o, w.frozen? ⟨N, o, none⟩ = false
theorem Box3.new (w : World) (v0 v1 v2 : Value) (t : TypeId) : Box3 w.heap.size v0 v1 v2 (w.alloc (.cells #[v0, v1, v2] t)) :=
  ⟨by simp, by simp, by simp, by simp, fun o => by simp [go_sem]⟩
theorem Box3.keep {N : Nat} {v0 v1 v2 : Value} {w u : World} (h : Box3 N v0 v1 v2 w) (hb : Below w.heap.size w u) : Box3 N v0 v1 v2 u where
  lt := Nat.lt_of_lt_of_le h.lt hb.size
  c0 := by rw [hb.cell (p := ⟨N, 0, none⟩) h.lt]; exact h.c0
  c1 := by rw [hb.cell (p := ⟨N, 1, none⟩) h.lt]; exact h.c1
  c2 := by rw [hb.cell (p := ⟨N, 2, none⟩) h.lt]; exact h.c2
  fr := fun o => by rw [hb.frozen (p := ⟨N, o, none⟩) h.lt]; exact h.fr o
theorem Box3.alloc {N : Nat} {v0 v1 v2 : Value} {w : World} (h : Box3 N v0 v1 v2 w) (o : Obj) : Box3 N v0 v1 v2 (w.alloc o) := h.keep (bl_alloc (Below.refl _ _) o)
theorem zGA {α : Type} {xs : List α} {i : Nat} (h : i < xs.toArray.size) : xs.toArray[i] = xs[i]'(by simpa using h) := List.getElem_toArray h
theorem zG0 {α : Type} {a : α} {l : List α} (h : 0 < (a :: l).length) : (a :: l)[0] = a := List.getElem_cons_zero ..
theorem zGC {α : Type} {a : α} {l : List α} {i : Nat} (h : i + 1 < (a :: l).length) : (a :: l)[i + 1] = l[i]'(by simpa using h) := List.getElem_cons_succ ..
theorem zSA {α : Type} {l : List α} {i : Nat} {a : α} : l.toArray.setIfInBounds i a = (l.set i a).toArray := List.setIfInBounds_toArray ..
theorem zS0 {α : Type} {l : List α} {a b : α} : (a :: l).set 0 b = b :: l := by rfl
theorem zSC {α : Type} {l : List α} {i : Nat} {a b : α} : (a :: l).set (i + 1) b = a :: l.set i b := by rfl
end Go.Proofs.YtihdglmiecifjaaGreat.Pl
namespace Go.Proofs.YtihdglmiecifjaaGreat.Il
open Go.RowKit Pl
/-- The slice at a, of n elements, reads as xs in w. -/
structure IntsAt (w : World) (a : Option Addr) (n : Nat) (xs : List Int) : Prop where
  len : xs.length = n
  row : n = 0 ∨ ∃ b off, a = some ⟨b, off, none⟩ ∧ b < w.heap.size ∧ ∀ i, i < n → w.cell? ⟨b, off + i, none⟩ = some (.int .i64 (xs.getD i 0))
theorem IntsAt.keep {w w' : World} {a : Option Addr} {n : Nat} {xs : List Int} (h : IntsAt w a n xs) (hb : Below w.heap.size w w') : IntsAt w' a n xs := by
  refine ⟨h.len, ?_⟩
  rcases h.row with k | ⟨b, off, rfl, hlt, hc⟩
  · exact .inl k
  · exact .inr ⟨b, off, rfl, Nat.lt_of_lt_of_le hlt hb.size, fun i hi => by rw [hb.cell (p := ⟨b, off + i, none⟩) hlt]; exact hc i hi⟩
theorem IntsAt.nil (w : World) (a : Option Addr) : IntsAt w a 0 [] := ⟨rfl, .inl rfl⟩
/-- The elements from i on. -/
theorem IntsAt.drop {w : World} {b off n : Nat} {xs : List Int} (h : IntsAt w (some ⟨b, off, none⟩) n xs) (i : Nat) (hi : i ≤ n) : IntsAt w (some ⟨b, off + i, none⟩) (n - i) (xs.drop i) := by
  refine ⟨by rw [List.length_drop, h.len], ?_⟩
  rcases h.row with k | ⟨b', off', e, hlt, hc⟩
  · exact .inl (by omega)
  · cases e
    refine .inr ⟨b, off + i, rfl, hlt, fun j hj => ?_⟩
    rw [Nat.add_assoc, hc (i + j) (by omega)]
    simp [List.getD]
theorem IntsAt.take {w : World} {a : Option Addr} {n : Nat} {xs : List Int} (h : IntsAt w a n xs) (i : Nat) (hi : i ≤ n) : IntsAt w a i (xs.take i) := by
  refine ⟨by rw [List.length_take, h.len]; omega, ?_⟩
  rcases h.row with k | ⟨b, off, rfl, hlt, hc⟩
  · exact .inl (by omega)
  · refine .inr ⟨b, off, rfl, hlt, fun j hj => ?_⟩
    rw [hc j (by omega)]
    simp [List.getD, List.getElem?_take_of_lt hj]
/-- Its cells lie in blocks from B on, and may be written. -/
structure OwnAt (B : Nat) (w : World) (a : Option Addr) (n : Nat) (xs : List Int) : Prop where
  ints : IntsAt w a n xs
  own : n = 0 ∨ ∃ b off, a = some ⟨b, off, none⟩ ∧ B ≤ b ∧ ∀ i, i < n → w.frozen? ⟨b, off + i, none⟩ = false
theorem OwnAt.keep {B : Nat} {w w' : World} {a : Option Addr} {n : Nat} {xs : List Int} (h : OwnAt B w a n xs) (hb : Below w.heap.size w w') : OwnAt B w' a n xs := by
  refine ⟨h.ints.keep hb, ?_⟩
  rcases h.own with k | ⟨b, off, rfl, hB, hf⟩
  · exact .inl k
  · rcases h.ints.row with k | ⟨b', off', e, hlt, _⟩
    · exact .inl k
    · cases e
      exact .inr ⟨b, off, rfl, hB, fun i hi => by rw [hb.frozen (p := ⟨b, off + i, none⟩) hlt]; exact hf i hi⟩
theorem OwnAt.mono {B B' : Nat} {w : World} {a : Option Addr} {n : Nat} {xs : List Int} (h : OwnAt B w a n xs) (hB : B' ≤ B) : OwnAt B' w a n xs := by
  refine ⟨h.ints, ?_⟩
  rcases h.own with k | ⟨b, off, rfl, hb, hf⟩
  · exact .inl k
  · exact .inr ⟨b, off, rfl, Nat.le_trans hB hb, hf⟩
/-- What append's laws own is such a slice. -/
theorem own_of {B : Nat} {w : World} {v : Value} {n : Nat} {ys : List Value} (h : w.ownsRow B 3 1 v n ys) (xs : List Int) (hx : ys = xs.map (Value.int .i64)) : ∃ a cap, v = .slice a n cap ∧ OwnAt B w a n xs := by
  subst hx
  obtain ⟨hl, ⟨rfl, rfl⟩ | ⟨g, cap, cur, rfl, hB, hg, hc, hm, hs, ht⟩⟩ := h
  · have : xs = [] := List.length_eq_zero_iff.1 (by simpa using hl)
    subst this
    exact ⟨_, _, rfl, ⟨⟨rfl, .inl rfl⟩, .inl rfl⟩⟩
  · have hlen : xs.length = n := by simpa using hl
    have hlt : g < w.heap.size := by
      rcases Nat.lt_or_ge g w.heap.size with k | k
      · exact k
      · rw [Array.getElem?_eq_none k] at hg; cases hg
    refine ⟨_, _, rfl, ⟨⟨hlen, .inr ⟨g, 0, rfl, hlt, fun i hi => ?_⟩⟩, .inr ⟨g, 0, rfl, hB, fun i hi => ?_⟩⟩⟩
    · rw [Nat.zero_add, cell_of_row w g i cur 3 (0, 0) hg]
      have e : (xs.map (Value.int .i64))[i]? = (cur.toList.take (n * 1))[i]? := by rw [ht]
      rw [List.getElem?_take_of_lt (by omega)] at e
      rw [← Array.getElem?_toList, ← e]
      simp [List.getD, List.getElem?_eq_getElem (show i < xs.length by omega)]
    · rw [Nat.zero_add]
      simp [World.frozen?, hg]
theorem OwnAt.other {B : Nat} {w w' : World} {a : Option Addr} {n b : Nat} {xs : List Int} (h : OwnAt B w a n xs) (hg : w.grownBy w' (some b)) (hne : n = 0 ∨ ∀ b' off', a = some ⟨b', off', none⟩ → b ≠ b') : OwnAt B w' a n xs := by
  obtain ⟨⟨hl, hr⟩, ho⟩ := h
  rcases hne with h0 | hne
  · exact ⟨⟨hl, .inl h0⟩, .inl h0⟩
  · rcases hr with h0 | ⟨b1, off, rfl, hlt, hc⟩
    · exact ⟨⟨hl, .inl h0⟩, .inl h0⟩
    · have key : w'.heap[b1]? = w.heap[b1]? := hg.block b1 hlt (by intro e; cases e; exact hne _ _ rfl rfl)
      rcases ho with h0 | ⟨b', off', e, hB, hf⟩
      · exact ⟨⟨hl, .inl h0⟩, .inl h0⟩
      · cases e
        refine ⟨⟨hl, .inr ⟨b1, off, rfl, Nat.lt_of_lt_of_le hlt hg.size, fun i hi => ?_⟩⟩, .inr ⟨b1, off, rfl, hB, fun i hi => ?_⟩⟩
        · rw [← hc i hi]; exact World.cell?_of_block key
        · rw [← hf i hi]; exact World.frozen?_of_block key
/-- A store into an elder block. -/
theorem OwnAt.far {B : Nat} {w : World} {a : Option Addr} {n : Nat} {xs : List Int} (h : OwnAt B w a n xs) (b o : Nat) (hb : b < B) (x : Value) : OwnAt B (w.setCell ⟨b, o, none⟩ x) a n xs := by
  refine h.other (b := b) ⟨rfl, rfl, rfl, by simp, fun k _ hk => Below.heap_setCell _ _ _ _ (by rintro rfl; exact hk rfl)⟩ ?_
  rcases h.own with h0 | ⟨b', off', rfl, hB, _⟩
  · exact .inl h0
  · exact .inr fun b1 o1 e => by cases e; omega
theorem own_cap {B : Nat} {w : World} {a : Option Addr} {n cap : Nat} {ys : List Value} (h : w.ownsRow B 3 1 (.slice a n cap) n ys) : n ≤ cap := by
  obtain ⟨_, ⟨e, _⟩ | ⟨g, cap', cur, e, _, _, hc, _⟩⟩ := h
  · cases e; exact Nat.le_refl _
  · cases e; exact hc
/-- Every number of the list fits. -/
def wfL (xs : List Int) : Prop := ∀ x ∈ xs, (Lit.int .i64 x).wf = true
theorem wf_at {xs : List Int} (h : wfL xs) {k : Nat} (hk : k < xs.length) : (Lit.int .i64 (xs.getD k 0)).wf = true := by
  have e : xs.getD k 0 = xs[k] := by simp [List.getD, List.getElem?_eq_getElem hk]
  rw [e]; exact h _ (List.getElem_mem _)
end Go.Proofs.YtihdglmiecifjaaGreat.Il
namespace Go.Proofs.YtihdglmiecifjaaGreat
open Go.RowKit Pl Il
theorem hidOf {p : Prop} (h : p) : Hid p := h
/-- Does x stand in the list? -/
def hasL (xs : List Int) (x : Int) : Bool := xs.contains x
def eqL (xs ys : List Int) : Bool := decide (xs = ys)
theorem has_step {xs : List Int} {k : Nat} {x : Int} (hk : k < xs.length) (h : hasL (xs.take k) x = false) (hne : (xs.getD k 0 == x) = false) : hasL (xs.take (k + 1)) x = false := by
  rw [List.take_succ_eq_append_getElem hk]
  have e : xs.getD k 0 = xs[k] := by simp [List.getD, List.getElem?_eq_getElem hk]
  rw [e] at hne
  simp only [hasL, List.contains_eq_mem, List.mem_append, List.mem_singleton, decide_eq_false_iff_not] at h ⊢
  rintro (m | m)
  · exact h m
  · rw [m] at hne; simp at hne
theorem has_hit {xs : List Int} {k : Nat} {x : Int} (hk : k < xs.length) (he : (xs.getD k 0 == x) = true) : hasL xs x = true := by
  have e : xs.getD k 0 = xs[k] := by simp [List.getD, List.getElem?_eq_getElem hk]
  rw [e] at he
  have : xs[k] = x := by simpa using he
  rw [← this]; simp [hasL]
theorem has_end {xs : List Int} {k : Nat} {x : Int} (hk : xs.length ≤ k) (h : hasL (xs.take k) x = false) : hasL xs x = false := by rwa [List.take_of_length_le hk] at h
theorem bl_drewN {w w' : World} (h : Below w.heap.size w w') (n : Nat) : Below w.heap.size w (w'.drewN n) := ⟨h.os, h.tape, h.output, h.size, h.block⟩
theorem rbool {a b : Bool} (h : a = b) : Ending.returned (.bool a) = .returned (.bool b) := by rw [h]
theorem l2Has_any (a : Option Addr) (n cap : Nat) (xs : List Int) (x : Int) (w : World) (hI : IntsAt w a n xs) (hn : n ≤ 2097152) :
    Calls Tryz.prog 92 #[.slice a n cap, .int .i64 x] w fun e w' => e = .returned (.bool (hasL xs x)) ∧ w' = w := by
  obtain ⟨hlen, rfl | ⟨b, off, rfl, hb, hcell⟩⟩ := hI
  · have : xs = [] := List.length_eq_zero_iff.1 hlen
    subst this
    go_enter Tryz.func92, Tryz.ntmps92
    go_wp2
    go_loop [5] (fun i => i = .int .i64 0) (fun _ => 0)
    case atStart => rfl
    case round =>
      subst hrel
      go_wp2
      go_ret
      exact ⟨rfl, rfl⟩
  · go_enter Tryz.func92, Tryz.ntmps92
    go_wp2
    go_loop [5] (fun i => ∃ k : Nat, k ≤ n ∧ i = .int .i64 k ∧ hasL (xs.take k) x = false) (fun i => n - (intOf i).toNat)
    case atStart => exact ⟨0, Nat.zero_le _, rfl, by simp [hasL]⟩
    case round =>
      obtain ⟨k, hk, rfl, hno⟩ := hrel
      have Hno : Hid _ := hno
      clear hno
      by_cases hlt : k < n
      · have hc := hcell k hlt
        generalize hy : xs.getD k 0 = y at hc
        have HY : Hid _ := hy
        clear hy hcell
        cases hxy : (y == x)
        · go_wp2
          go_round
          case rel => exact ⟨k + 1, by omega, by go_num, has_step (by omega) Hno.out (by rw [HY.out]; exact hxy)⟩
          case measure => simp [intOf]; omega
        · go_wp2
          go_ret
          exact ⟨rbool (has_hit (k := k) (by omega) (by rw [HY.out]; exact hxy)).symm, rfl⟩
      · clear hcell
        go_wp2
        go_ret
        exact ⟨rbool (has_end (by omega) Hno.out).symm, rfl⟩
theorem rint {a b : Int} (h : a = b) : Ending.returned (.int .i64 a) = .returned (.int .i64 b) := by rw [h]
theorem eq_step {xs ys : List Int} {k : Nat} (hk : k < xs.length) (hk' : k < ys.length) (h : xs.take k = ys.take k) (he : (xs.getD k 0 != ys.getD k 0) = false) : xs.take (k + 1) = ys.take (k + 1) := by
  rw [List.take_succ_eq_append_getElem hk, List.take_succ_eq_append_getElem hk', h]
  have e : xs.getD k 0 = xs[k] := by simp [List.getD, List.getElem?_eq_getElem hk]
  have e' : ys.getD k 0 = ys[k] := by simp [List.getD, List.getElem?_eq_getElem hk']
  rw [e, e'] at he
  have : xs[k] = ys[k] := by simpa using he
  rw [this]
theorem eq_no {xs ys : List Int} {k : Nat} (he : (xs.getD k 0 != ys.getD k 0) = true) : eqL xs ys = false := by
  unfold eqL
  rw [decide_eq_false_iff_not]
  rintro rfl
  simp at he
theorem eq_len {xs ys : List Int} (hl : ¬ xs.length = ys.length) : eqL xs ys = false := by
  unfold eqL
  rw [decide_eq_false_iff_not]
  rintro rfl
  exact hl rfl
theorem eq_end {xs ys : List Int} {k : Nat} (hl : xs.length = ys.length) (hk : xs.length ≤ k) (h : xs.take k = ys.take k) : eqL xs ys = true := by
  rw [List.take_of_length_le hk, List.take_of_length_le (by omega)] at h
  simp [eqL, h]
end Go.Proofs.YtihdglmiecifjaaGreat
namespace Go.Proofs.YtihdglmiecifjaaGreat
open Go.RowKit Pl Il
theorem info3 : (Tryz.prog.info? 3).map (fun i => (i.zero, i.size, i.bytes)) = some (some (.int .i64 0), 1, 8) := by kernel_rfl
end Go.Proofs.YtihdglmiecifjaaGreat
namespace Go.Proofs.YtihdglmiecifjaaGreat
open Go.RowKit Pl Il
abbrev Tm : Type := Int × Int × ByteArray
def noT : ByteArray := ⟨#[]⟩
def qC (p : Tm) : List Value := [.int .i64 p.1, .int .i64 p.2.1, .string p.2.2]
def qflat (ts : List Tm) : List Value := ts.flatMap qC
def qg (ts : List Tm) (i : Nat) : Tm := ts.getD i (0, 0, noT)
theorem length_qflat (l : List Tm) : (qflat l).length = l.length * 3 := by
  induction l with
  | nil => rfl
  | cons x l ih => simp [qflat, qC] at ih ⊢; omega
theorem qflat_at : ∀ (l : List Tm) (i r : Nat), i < l.length → r < 3 → (qflat l)[i * 3 + r]? = (qC (qg l i))[r]?
  | [], i, r, hi, _ => by simp at hi
  | x :: l, 0, r, _, hr => by
    have e : qflat (x :: l) = qC x ++ qflat l := by simp [qflat]
    rw [e, List.getElem?_append_left (by simp [qC]; omega)]
    simp [qg]
  | x :: l, i + 1, r, hi, hr => by
    have e : qflat (x :: l) = qC x ++ qflat l := by simp [qflat]
    have hc : (qC x).length = 3 := rfl
    rw [e, List.getElem?_append_right (by rw [hc]; omega), hc, show (i + 1) * 3 + r - 3 = i * 3 + r by omega, qflat_at l i r (by simpa using hi) hr]
    simp [qg]
theorem qflat_append (l m : List Tm) : qflat (l ++ m) = qflat l ++ qflat m := by simp [qflat]
theorem qg_eq {l : List Tm} {i : Nat} (h : i < l.length) : qg l i = l[i] := by unfold qg; rw [List.getD_eq_getElem?_getD, List.getElem?_eq_getElem h]; rfl
theorem take_qg {l : List Tm} {k : Nat} (h : k < l.length) : l.take (k + 1) = l.take k ++ [qg l k] := by rw [List.take_succ_eq_append_getElem h, qg_eq h]
theorem qg_mem {l : List Tm} {k : Nat} (h : k < l.length) : qg l k ∈ l := by rw [qg_eq h]; exact List.getElem_mem h
/-- The slice at a, of n terms, reads as ts in w. -/
structure TmAt (w : World) (a : Option Addr) (n : Nat) (ts : List Tm) : Prop where
  len : ts.length = n
  short : ∀ p, p ∈ ts → p.2.2.size ≤ maxLen
  row : n = 0 ∨ ∃ b off, a = some ⟨b, off, none⟩ ∧ b < w.heap.size ∧ ∀ i, i < n → w.cell? ⟨b, off + i * 3, none⟩ = some (.int .i64 (qg ts i).1) ∧ w.cell? ⟨b, off + i * 3 + 1, none⟩ = some (.int .i64 (qg ts i).2.1) ∧ w.cell? ⟨b, off + i * 3 + 2, none⟩ = some (.string (qg ts i).2.2)
theorem TmAt.keep {w w' : World} {a : Option Addr} {n : Nat} {ts : List Tm} (h : TmAt w a n ts) (hb : Below w.heap.size w w') : TmAt w' a n ts := by
  refine ⟨h.len, h.short, ?_⟩
  rcases h.row with k | ⟨b, off, rfl, hlt, hc⟩
  · exact .inl k
  · exact .inr ⟨b, off, rfl, Nat.lt_of_lt_of_le hlt hb.size, fun i hi => by rw [hb.cell (p := ⟨b, off + i * 3, none⟩) hlt, hb.cell (p := ⟨b, off + i * 3 + 1, none⟩) hlt, hb.cell (p := ⟨b, off + i * 3 + 2, none⟩) hlt]; exact hc i hi⟩
theorem TmAt.below {w w' : World} {B : Nat} {a : Option Addr} {n : Nat} {ts : List Tm} (h : TmAt w a n ts) (hb : Below B w w') (hB : n = 0 ∨ ∀ b off, a = some ⟨b, off, none⟩ → b < B) : TmAt w' a n ts := by
  refine ⟨h.len, h.short, ?_⟩
  rcases h.row with k | ⟨b, off, rfl, hlt, hc⟩
  · exact .inl k
  · rcases hB with k | hB
    · exact .inl k
    · have hbB := hB b off rfl
      exact .inr ⟨b, off, rfl, Nat.lt_of_lt_of_le hlt hb.size, fun i hi => by rw [hb.cell (p := ⟨b, off + i * 3, none⟩) hbB, hb.cell (p := ⟨b, off + i * 3 + 1, none⟩) hbB, hb.cell (p := ⟨b, off + i * 3 + 2, none⟩) hbB]; exact hc i hi⟩
theorem TmAt.nil (w : World) (a : Option Addr) : TmAt w a 0 [] := ⟨rfl, fun p hp => (by cases hp), .inl rfl⟩
theorem TmAt.lt {w : World} {a : Option Addr} {n : Nat} {ts : List Tm} (h : TmAt w a n ts) : n = 0 ∨ ∀ b off, a = some ⟨b, off, none⟩ → b < w.heap.size := by
  rcases h.row with k | ⟨b, off, rfl, hlt, hc⟩
  · exact .inl k
  · exact .inr fun b' o' e => by cases e; exact hlt
/-- Its cells lie in blocks from B on, and may be written. -/
structure OwnF (B : Nat) (w : World) (a : Option Addr) (n : Nat) (ts : List Tm) : Prop where
  tm : TmAt w a n ts
  own : n = 0 ∨ ∃ b off, a = some ⟨b, off, none⟩ ∧ B ≤ b ∧ ∀ o, w.frozen? ⟨b, o, none⟩ = false
theorem OwnF.keep {B : Nat} {w w' : World} {a : Option Addr} {n : Nat} {ts : List Tm} (h : OwnF B w a n ts) (hb : Below w.heap.size w w') : OwnF B w' a n ts := by
  refine ⟨h.tm.keep hb, ?_⟩
  rcases h.own with k | ⟨b, off, rfl, hB, hf⟩
  · exact .inl k
  · rcases h.tm.row with k | ⟨b', off', e, hlt, _⟩
    · exact .inl k
    · cases e
      exact .inr ⟨b, off, rfl, hB, fun o => by rw [hb.frozen (p := ⟨b, o, none⟩) hlt]; exact hf o⟩
theorem OwnF.mono {B B' : Nat} {w : World} {a : Option Addr} {n : Nat} {ts : List Tm} (h : OwnF B w a n ts) (hB : B' ≤ B) : OwnF B' w a n ts := by
  refine ⟨h.tm, ?_⟩
  rcases h.own with k | ⟨b, off, rfl, hb, hf⟩
  · exact .inl k
  · exact .inr ⟨b, off, rfl, Nat.le_trans hB hb, hf⟩
theorem OwnF.other {B : Nat} {w w' : World} {a : Option Addr} {n b : Nat} {ts : List Tm} (h : OwnF B w a n ts) (hg : w.grownBy w' (some b)) (hne : n = 0 ∨ ∀ b' off', a = some ⟨b', off', none⟩ → b ≠ b') : OwnF B w' a n ts := by
  obtain ⟨⟨hl, hs, hr⟩, ho⟩ := h
  rcases hne with h0 | hne
  · exact ⟨⟨hl, hs, .inl h0⟩, .inl h0⟩
  · rcases hr with h0 | ⟨b1, off, rfl, hlt, hc⟩
    · exact ⟨⟨hl, hs, .inl h0⟩, .inl h0⟩
    · have key : w'.heap[b1]? = w.heap[b1]? := hg.block b1 hlt (by intro e; cases e; exact hne _ _ rfl rfl)
      rcases ho with h0 | ⟨b', off', e, hB, hf⟩
      · exact ⟨⟨hl, hs, .inl h0⟩, .inl h0⟩
      · cases e
        refine ⟨⟨hl, hs, .inr ⟨b1, off, rfl, Nat.lt_of_lt_of_le hlt hg.size, fun i hi => ?_⟩⟩, .inr ⟨b1, off, rfl, hB, fun o => ?_⟩⟩
        · rw [World.cell?_of_block (w := w) (a := ⟨b1, off + i * 3, none⟩) key, World.cell?_of_block (w := w) (a := ⟨b1, off + i * 3 + 1, none⟩) key, World.cell?_of_block (w := w) (a := ⟨b1, off + i * 3 + 2, none⟩) key]; exact hc i hi
        · rw [← hf o]; exact World.frozen?_of_block key
/-- A store into an elder block. -/
theorem OwnF.far {B : Nat} {w : World} {a : Option Addr} {n : Nat} {ts : List Tm} (h : OwnF B w a n ts) (b o : Nat) (hb : b < B) (x : Value) : OwnF B (w.setCell ⟨b, o, none⟩ x) a n ts := by
  refine h.other (b := b) ⟨rfl, rfl, rfl, by simp, fun k _ hk => Below.heap_setCell _ _ _ _ (by rintro rfl; exact hk rfl)⟩ ?_
  rcases h.own with h0 | ⟨b', off', rfl, hB, _⟩
  · exact .inl h0
  · exact .inr fun b1 o1 e => by cases e; omega
/-- What append's laws own is such a slice. -/
theorem ownF_of {B : Nat} {w : World} {t : TypeId} {v : Value} {n : Nat} {ys : List Value} (h : w.ownsRow B t 3 v n ys) (ts : List Tm) (hx : ys = qflat ts) (hs : ∀ p, p ∈ ts → p.2.2.size ≤ maxLen) : ∃ a cap, v = .slice a n cap ∧ n ≤ cap ∧ OwnF B w a n ts := by
  subst hx
  have hlen : ts.length = n := by have := h.1; rw [length_qflat] at this; omega
  obtain ⟨hl, ⟨rfl, rfl⟩ | ⟨g, cap, cur, rfl, hB, hg, hc, hm, _, ht⟩⟩ := id h
  · exact ⟨_, _, rfl, Nat.le_refl _, ⟨⟨hlen, hs, .inl rfl⟩, .inl rfl⟩⟩
  · have hlt : g < w.heap.size := by
      rcases Nat.lt_or_ge g w.heap.size with k | k
      · exact k
      · rw [Array.getElem?_eq_none k] at hg; cases hg
    refine ⟨_, _, rfl, hc, ⟨⟨hlen, hs, .inr ⟨g, 0, rfl, hlt, fun i hi => ?_⟩⟩, .inr ⟨g, 0, rfl, hB, fun o => by simp [World.frozen?, hg]⟩⟩⟩
    have key : ∀ r, r < 3 → w.cell? ⟨g, i * 3 + r, none⟩ = (qC (qg ts i))[r]? := fun r hr => by
      rw [h.cellAt (i * 3 + r) (by omega), qflat_at ts i r (by omega) hr]
    rw [Nat.zero_add]
    exact ⟨key 0 (by omega), key 1 (by omega), key 2 (by omega)⟩
end Go.Proofs.YtihdglmiecifjaaGreat
namespace Go.Proofs.YtihdglmiecifjaaGreat
open Go.RowKit Pl Il
theorem cellK {w w' : World} {a : Addr} {v : Value} (h : w.cell? a = some v) (hb : Below w.heap.size w w') : w'.cell? a = some v := by
  rw [hb.cell (p := a) (World.block_lt_of_cell? w a h)]; exact h
end Go.Proofs.YtihdglmiecifjaaGreat
namespace Go.Proofs.YtihdglmiecifjaaGreat
open Go.RowKit Pl Il
/-- Neighbouring cells written from o on. -/
def setL (w : World) (g : Nat) : Nat → List Value → World
  | _, [] => w
  | o, v :: vs => setL (w.setCell ⟨g, o, none⟩ v) g (o + 1) vs
theorem setL_other {g : Nat} : ∀ {vs : List Value} {w : World} {o p : Nat}, (p < o ∨ o + vs.length ≤ p) → (setL w g o vs).cell? ⟨g, p, none⟩ = w.cell? ⟨g, p, none⟩
  | [], _, _, _, _ => rfl
  | v :: vs, w, o, p, h => by
    unfold setL
    simp only [List.length_cons] at h
    rw [setL_other (by omega), World.cell?_setCell_other _ _ _ _ (by intro e'; injection e' with _ e2; omega)]
theorem setL_same {g : Nat} : ∀ {vs : List Value} {w : World} {o : Nat}, (∀ i, i < vs.length → ∃ v, w.cell? ⟨g, o + i, none⟩ = some v) → ∀ i (hi : i < vs.length), (setL w g o vs).cell? ⟨g, o + i, none⟩ = some vs[i]
  | [], _, _, _, i, hi => by simp at hi
  | v :: vs, w, o, h, 0, _ => by
    unfold setL
    rw [setL_other (by left; omega)]
    obtain ⟨u, hu⟩ := h 0 (by simp)
    exact World.cell?_setCell_same _ _ _ hu
  | v :: vs, w, o, h, i + 1, hi => by
    unfold setL
    have := setL_same (g := g) (vs := vs) (w := w.setCell ⟨g, o, none⟩ v) (o := o + 1) (fun j hj => by
      obtain ⟨u, hu⟩ := h (j + 1) (by simp; omega)
      exact ⟨u, by rw [World.cell?_setCell_other _ _ _ _ (by intro e'; injection e' with _ e2; omega), show o + 1 + j = o + (j + 1) by omega]; exact hu⟩) i (by simpa using hi)
    rw [show o + 1 + i = o + (i + 1) by omega] at this
    rw [this]
    rfl
theorem setL_fr {g : Nat} : ∀ {vs : List Value} {w : World} {o : Nat} (a : Addr), (setL w g o vs).frozen? a = w.frozen? a
  | [], _, _, _ => rfl
  | v :: vs, w, o, a => by unfold setL; rw [setL_fr]; simp
theorem setL_size {g : Nat} : ∀ {vs : List Value} {w : World} {o : Nat}, (setL w g o vs).heap.size = w.heap.size
  | [], _, _ => rfl
  | v :: vs, w, o => by unfold setL; rw [setL_size]; simp
theorem setL_below {g B : Nat} (hg : B ≤ g) : ∀ {vs : List Value} {w u : World} {o : Nat}, Below B w u → Below B w (setL u g o vs)
  | [], _, _, _, h => h
  | v :: vs, w, u, o, h => by unfold setL; exact setL_below hg (h.setCell (p := ⟨g, o, none⟩) hg _)
theorem setL_block {g k : Nat} (hk : k ≠ g) : ∀ {vs : List Value} {w : World} {o : Nat}, (setL w g o vs).heap[k]? = w.heap[k]?
  | [], _, _ => rfl
  | v :: vs, w, o => by unfold setL; rw [setL_block hk, Below.heap_setCell _ _ _ _ hk]
theorem setL_grown {g : Nat} {w u : World} {o : Nat} {vs : List Value} (h : w.grownBy u (some g)) : w.grownBy (setL u g o vs) (some g) := by
  have hos : ∀ {vs : List Value} {u : World} {o : Nat}, (setL u g o vs).os = u.os ∧ (setL u g o vs).tape = u.tape ∧ (setL u g o vs).output = u.output := by
    intro vs
    induction vs with
    | nil => intro u o; exact ⟨rfl, rfl, rfl⟩
    | cons v vs ih => intro u o; unfold setL; obtain ⟨a, b, c⟩ := ih (u := u.setCell ⟨g, o, none⟩ v) (o := o + 1); exact ⟨a, b, c⟩
  obtain ⟨h1, h2, h3, h4, h5⟩ := h
  obtain ⟨e1, e2, e3⟩ := hos (vs := vs) (u := u) (o := o)
  exact ⟨e1.trans h1, e2.trans h2, e3.trans h3, by rw [setL_size]; exact h4, fun k hk hne => by rw [setL_block (by rintro rfl; exact hne rfl)]; exact h5 k hk hne⟩
/-- A subscriber. -/
structure Sb where
  id : Int
  st : Int
  cu : Int
  gt : Int
  lo : Int
  pa : Int
  fl : List Tm
/-- A subscriber in memory: where its filter lies. -/
structure Sa where
  s : Sb
  a : Option Addr
  n : Nat
  c : Nat
def Sa.zero : Sa := ⟨⟨0, 0, 0, 0, 0, 0, []⟩, none, 0, 0⟩
def sg (xs : List Sa) (i : Nat) : Sa := xs.getD i Sa.zero
def svs (xs : List Sa) : List Sb := xs.map (·.s)
abbrev sC (x : Sa) : List Value := [.int .i64 x.s.id, .int .i64 x.s.st, .int .i64 x.s.cu, .int .i64 x.s.gt, .int .i64 x.s.lo, .int .i64 x.s.pa, .slice x.a x.n x.c]
theorem sg_eq {l : List Sa} {i : Nat} (h : i < l.length) : sg l i = l[i] := by unfold sg; rw [List.getD_eq_getElem?_getD, List.getElem?_eq_getElem h]; rfl
theorem sg_mem {l : List Sa} {k : Nat} (h : k < l.length) : sg l k ∈ l := by rw [sg_eq h]; exact List.getElem_mem h
/-- The seven cells of one. -/
structure SCell (w : World) (b o : Nat) (x : Sa) : Prop where
  c0 : w.cell? ⟨b, o, none⟩ = some (.int .i64 x.s.id)
  c1 : w.cell? ⟨b, o + 1, none⟩ = some (.int .i64 x.s.st)
  c2 : w.cell? ⟨b, o + 2, none⟩ = some (.int .i64 x.s.cu)
  c3 : w.cell? ⟨b, o + 3, none⟩ = some (.int .i64 x.s.gt)
  c4 : w.cell? ⟨b, o + 4, none⟩ = some (.int .i64 x.s.lo)
  c5 : w.cell? ⟨b, o + 5, none⟩ = some (.int .i64 x.s.pa)
  c6 : w.cell? ⟨b, o + 6, none⟩ = some (.slice x.a x.n x.c)
theorem SCell.same {w u : World} {b o : Nat} {x : Sa} (h : SCell w b o x) (he : ∀ i, i < 7 → u.cell? ⟨b, o + i, none⟩ = w.cell? ⟨b, o + i, none⟩) : SCell u b o x :=
  ⟨(he 0 (by omega)).trans h.c0, (he 1 (by omega)).trans h.c1, (he 2 (by omega)).trans h.c2, (he 3 (by omega)).trans h.c3, (he 4 (by omega)).trans h.c4, (he 5 (by omega)).trans h.c5, (he 6 (by omega)).trans h.c6⟩
theorem SCell.below {w u : World} {b o B : Nat} {x : Sa} (h : SCell w b o x) (hb : Below B w u) (hB : b < B) : SCell u b o x := h.same fun i _ => hb.cell (p := ⟨b, o + i, none⟩) hB
/-- The slice at a, of n subscribers, reads as xs in w. -/
structure SubAt (w : World) (a : Option Addr) (n : Nat) (xs : List Sa) : Prop where
  len : xs.length = n
  fil : ∀ x, x ∈ xs → TmAt w x.a x.n x.s.fl
  row : n = 0 ∨ ∃ b off, a = some ⟨b, off, none⟩ ∧ b < w.heap.size ∧ ∀ i, i < n → SCell w b (off + i * 7) (sg xs i)
theorem SubAt.keep {w w' : World} {a : Option Addr} {n : Nat} {xs : List Sa} (h : SubAt w a n xs) (hb : Below w.heap.size w w') : SubAt w' a n xs := by
  refine ⟨h.len, fun x hx => (h.fil x hx).keep hb, ?_⟩
  rcases h.row with k | ⟨b, off, rfl, hlt, hc⟩
  · exact .inl k
  · exact .inr ⟨b, off, rfl, Nat.lt_of_lt_of_le hlt hb.size, fun i hi => (hc i hi).below hb hlt⟩
theorem SubAt.nil (w : World) (a : Option Addr) : SubAt w a 0 [] := ⟨rfl, fun p hp => (by cases hp), .inl rfl⟩
theorem SubAt.lt {w : World} {a : Option Addr} {n : Nat} {xs : List Sa} (h : SubAt w a n xs) : n = 0 ∨ ∀ b off, a = some ⟨b, off, none⟩ → b < w.heap.size := by
  rcases h.row with k | ⟨b, off, rfl, hlt, hc⟩
  · exact .inl k
  · exact .inr fun b' o' e => by cases e; exact hlt
/-- Two slices that share no block. -/
def Far (a : Option Addr) (n : Nat) (a' : Option Addr) (n' : Nat) : Prop := n = 0 ∨ n' = 0 ∨ ∀ b off b' off', a = some ⟨b, off, none⟩ → a' = some ⟨b', off', none⟩ → b ≠ b'
theorem Far.symm {a a' : Option Addr} {n n' : Nat} (h : Far a n a' n') : Far a' n' a n := by
  rcases h with h | h | h
  · exact .inr (.inl h)
  · exact .inl h
  · exact .inr (.inr fun b off b' off' e e' => (h b' off' b off e' e).symm)
/-- Its cells, and those of the filters, lie in blocks from B on, and may be written; no two lists share a block. -/
structure OwnS (B : Nat) (w : World) (a : Option Addr) (n : Nat) (xs : List Sa) : Prop where
  sub : SubAt w a n xs
  own : n = 0 ∨ ∃ b off, a = some ⟨b, off, none⟩ ∧ B ≤ b ∧ ∀ o, w.frozen? ⟨b, o, none⟩ = false
  fow : ∀ x, x ∈ xs → OwnF B w x.a x.n x.s.fl
  apt : xs.Pairwise fun x y => Far x.a x.n y.a y.n
  apa : ∀ x, x ∈ xs → Far a n x.a x.n
theorem OwnS.keep {B : Nat} {w w' : World} {a : Option Addr} {n : Nat} {xs : List Sa} (h : OwnS B w a n xs) (hb : Below w.heap.size w w') : OwnS B w' a n xs := by
  refine ⟨h.sub.keep hb, ?_, fun x hx => (h.fow x hx).keep hb, h.apt, h.apa⟩
  rcases h.own with k | ⟨b, off, rfl, hB, hf⟩
  · exact .inl k
  · rcases h.sub.row with k | ⟨b', off', e, hlt, _⟩
    · exact .inl k
    · cases e
      exact .inr ⟨b, off, rfl, hB, fun o => by rw [hb.frozen (p := ⟨b, o, none⟩) hlt]; exact hf o⟩
theorem OwnS.mono {B B' : Nat} {w : World} {a : Option Addr} {n : Nat} {xs : List Sa} (h : OwnS B w a n xs) (hB : B' ≤ B) : OwnS B' w a n xs := by
  refine ⟨h.sub, ?_, fun x hx => (h.fow x hx).mono hB, h.apt, h.apa⟩
  rcases h.own with k | ⟨b, off, rfl, hb, hf⟩
  · exact .inl k
  · exact .inr ⟨b, off, rfl, Nat.le_trans hB hb, hf⟩
end Go.Proofs.YtihdglmiecifjaaGreat
namespace Go.Proofs.YtihdglmiecifjaaGreat
open Go.RowKit Pl Il
theorem bl_setB {B : Nat} {w u : World} (h : Below B w u) (N o : Nat) (hN : B ≤ N) (v : Value) : Below B w (u.setCell ⟨N, o, none⟩ v) := h.setCell (p := ⟨N, o, none⟩) hN v
/-- The variable in block N holds vs. -/
structure BoxL (N : Nat) (vs : List Value) (w : World) : Prop where
  lt : N < w.heap.size
  cs : ∀ i (hi : i < vs.length), w.cell? ⟨N, i, none⟩ = some vs[i]
  fr : ∀ o, w.frozen? ⟨N, o, none⟩ = false
section
variable {N : Nat} {vs : List Value} {w w' : World}
theorem BoxL.new (w : World) (vs : List Value) (t : TypeId) : BoxL w.heap.size vs (w.alloc (.cells vs.toArray t)) :=
  ⟨by simp, fun i hi => by rw [World.cell?_alloc_new]; simp [hi], fun o => by simp [go_sem]⟩
theorem BoxL.of_block (h : BoxL N vs w) (key : w'.heap[N]? = w.heap[N]?) (hs : N < w'.heap.size) : BoxL N vs w' :=
  ⟨hs, fun i hi => by rw [← h.cs i hi]; exact World.cell?_of_block key, fun o => by rw [← h.fr o]; exact World.frozen?_of_block key⟩
theorem BoxL.below {B : Nat} (h : BoxL N vs w) (hb : Below B w w') (hN : N < B) : BoxL N vs w' := h.of_block (hb.block N hN) (Nat.lt_of_lt_of_le h.lt hb.size)
theorem BoxL.keep (h : BoxL N vs w) (hb : Below w.heap.size w w') : BoxL N vs w' := h.below hb h.lt
theorem BoxL.alloc (h : BoxL N vs w) (o : Obj) : BoxL N vs (w.alloc o) := h.keep (bl_alloc (Below.refl _ _) o)
theorem BoxL.far (h : BoxL N vs w) (M o : Nat) (hM : N ≠ M) (y : Value) : BoxL N vs (w.setCell ⟨M, o, none⟩ y) := h.of_block (Below.heap_setCell w ⟨M, o, none⟩ y N hM) (by simpa using h.lt)
theorem BoxL.grown {g : Option Nat} (h : BoxL N vs w) (hg : w.grownBy w' g) (hN : g ≠ some N) : BoxL N vs w' := h.of_block (hg.block N h.lt (fun e => hN e.symm)) (Nat.lt_of_lt_of_le h.lt hg.size)
theorem BoxL.set (h : BoxL N vs w) (i : Nat) (hi : i < vs.length) (v : Value) : BoxL N (vs.set i v) (w.setCell ⟨N, i, none⟩ v) := by
  refine ⟨by simpa using h.lt, fun j hj => ?_, fun o => by simpa using h.fr o⟩
  have hj' : j < vs.length := by simpa using hj
  by_cases e : j = i
  · subst e
    rw [World.cell?_setCell_same _ _ _ (h.cs j hj')]
    simp
  · rw [World.cell?_setCell_other _ _ _ _ (by intro e'; injection e' with _ e2; exact e e2.symm), h.cs j hj', List.getElem_set_ne (by omega)]
end
end Go.Proofs.YtihdglmiecifjaaGreat
namespace Go.Proofs.YtihdglmiecifjaaGreat
open Go.RowKit Pl Il
theorem svs_at {xs ys : List Sa} (h : svs xs = svs ys) {k : Nat} (hk : k < xs.length) : (sg ys k).s = (sg xs k).s := by
  have hl : xs.length = ys.length := by have := congrArg List.length h; simpa [svs] using this
  rw [sg_eq hk, sg_eq (by omega)]
  have h1 : (svs xs)[k]? = (svs ys)[k]? := by rw [h]
  simp only [svs, List.getElem?_map, List.getElem?_eq_getElem hk, List.getElem?_eq_getElem (show k < ys.length by omega), Option.map_some] at h1
  injection h1 with h1
  exact h1.symm
end Go.Proofs.YtihdglmiecifjaaGreat
namespace Go.Proofs.YtihdglmiecifjaaGreat
open Go.RowKit Pl Il
theorem infoMs : (Tryz.prog.info? 30).map (fun i => (i.zero, i.size, i.bytes)) = some (some (.agg #[.int .i64 0, .int .i64 0, .string ⟨#[]⟩]), 3, 32) := by kernel_rfl
theorem make_msgs (n : Nat) (hn : n ≤ 2097152) (w : World) : (Instr.makeSlice 24 (.int .i64 (n : Int)) (.int .i64 (n : Int))).run Tryz.prog w = .ok (.slice (some ⟨w.heap.size, 0, none⟩) n n) (w.alloc (.cells (madeCells (Value.agg #[.int .i64 0, .int .i64 0, .string ⟨#[]⟩]).cells (n * 3)) 30)) := by
  obtain ⟨i, hi, hz0, hz1, hz2⟩ := info_parts infoMs
  have := run_make (P := Tryz.prog) w 24 30 i (.agg #[.int .i64 0, .int .i64 0, .string ⟨#[]⟩]) Tryz.underlying24 hi hz0 .i64 .i64 (n : Int) (n : Int) (by omega) (by omega) (by rw [hz2]; omega) (by omega)
  rw [hz1] at this
  simpa using this
end Go.Proofs.YtihdglmiecifjaaGreat
namespace Go.Proofs.YtihdglmiecifjaaGreat
open Go.RowKit Pl Il
theorem wpList_append_run {P : Program} {ops : Array Oper} {rest : List Oper} {o : Oper} {a : Act} {Q : Exit → Act → World → Prop} {w w' : World} (hgd : o.guard = none) (s x : Operand) (t : TypeId)
    (ho : o.op = .call { callee := .builtin .append, args := #[s, x], argTypes := #[t, t] }) (v u v' : Value) (hs : a.eval s = v) (hx : a.eval x = u)
    (hr : (Builtin.append_ #[t, t] o.type #[v, u]).run P w = .ok v' w') (h : wpList P ops Q rest (a.put o.dst v') w') : wpList P ops Q (o :: rest) a w :=
  wpList_plain hgd fun _ hK => by
    unfold Oper.wp execOp
    simp only [ho, resolve, invoke, builtin, Sem.run_bind, Sem.run_pure, Result.andThen_ok, List.map_toArray, List.map_cons, List.map_nil, hs, hx, hr]
    exact hK _ _ h
/-- A list that the call has made: its row, whole. -/
abbrev Owns (B : Nat) (w : World) (g n cap : Nat) (xs : List Int) : Prop := w.ownsRow B 3 1 (.slice (some ⟨g, 0, none⟩) n cap) n (xs.map (Value.int .i64))
theorem owns_parts {B : Nat} {w : World} {g n cap : Nat} {xs : List Int} (h : Owns B w g n cap xs) : xs.length = n ∧ B ≤ g ∧ g < w.heap.size ∧ n ≤ cap ∧ cap ≤ maxLen ∧ OwnAt B w (some ⟨g, 0, none⟩) n xs := by
  obtain ⟨a, c, e, ho⟩ := own_of h xs rfl
  cases e
  obtain ⟨hl, ⟨e, _⟩ | ⟨g', c', cur, e, hB, hg, hc, hm, _⟩⟩ := h
  · cases e
  · cases e
    refine ⟨by simpa using hl, hB, ?_, hc, hm, ho⟩
    rcases Nat.lt_or_ge g w.heap.size with k | k
    · exact k
    · rw [Array.getElem?_eq_none k] at hg; cases hg
theorem owns_keep {B : Nat} {w w' : World} {g n cap : Nat} {xs : List Int} (h : Owns B w g n cap xs) (hb : Below w.heap.size w w') : Owns B w' g n cap xs := by
  have hlt := (owns_parts h).2.2.1
  obtain ⟨hl, ⟨e, _⟩ | ⟨g', c', cur, e, hB, hg, hr⟩⟩ := h
  · cases e
  · cases e
    exact ⟨hl, .inr ⟨g, cap, cur, rfl, hB, by rw [hb.block g hlt]; exact hg, hr⟩⟩
theorem owns_empty (w : World) : Owns w.heap.size (w.alloc (.cells #[] 3)) w.heap.size 0 0 [] :=
  ⟨rfl, .inr ⟨w.heap.size, 0, #[], rfl, Nat.le_refl _, heap_alloc_new w _, Nat.le_refl _, Nat.zero_le _, rfl, rfl⟩⟩
theorem append_ints2 (B g m c : Nat) (ys : List Int) (a : Option Addr) (n cap : Nat) (xs : List Int) (w : World) (ho : Owns B w g m c ys) (hB : B ≤ w.heap.size) (hI : IntsAt w a n xs) (hs : m + n ≤ 4194304) :
  ∃ (g' c' : Nat) (w' : World), (Builtin.append_ #[26, 26] 26 #[.slice (some ⟨g, 0, none⟩) m c, .slice a n cap]).run Tryz.prog w = .ok (.slice (some ⟨g', 0, none⟩) (m + n) c') w' ∧
   Owns B w' g' (m + n) c' (ys ++ xs) ∧ w.grownBy w' (some g) ∧ (g' = g ∨ g' = w.heap.size) := by
 obtain ⟨i, hi, hz0, hz1, hz2⟩ := info_parts info3
 have hg0 : w.grownBy w (some g) := ⟨rfl, rfl, rfl, Nat.le_refl _, fun _ _ _ => rfl⟩
 have short : ∀ u : Value, (Builtin.append_ #[26, 26] 26 #[.slice (some ⟨g, 0, none⟩) m c, u]).run Tryz.prog w = .ok (.slice (some ⟨g, 0, none⟩) m c) w →
   ∃ (g' c' : Nat) (w' : World), (Builtin.append_ #[26, 26] 26 #[.slice (some ⟨g, 0, none⟩) m c, u]).run Tryz.prog w = .ok (.slice (some ⟨g', 0, none⟩) (m + 0) c') w' ∧ Owns B w' g' (m + 0) c' (ys ++ []) ∧ w.grownBy w' (some g) ∧ (g' = g ∨ g' = w.heap.size) :=
  fun u hu => ⟨g, c, w, hu, by rw [List.append_nil]; exact ho, hg0, .inl rfl⟩
 have hmc := (owns_parts ho).2.2.2.1
 obtain ⟨hlen, rfl | ⟨b, off, rfl, hb, hcell⟩⟩ := hI
 ·have hx : xs = [] := List.length_eq_zero_iff.1 hlen
  subst hx
  refine short _ ?_
  rcases a with _ | ad
  ·exact run_append_room_src _ _ _ _ 3 i Tryz.underlying26 hi g 0 m c _ 0 [] (Src.ofNil _ Tryz.underlying26 cap) (by omega) (fun j hj => by cases hj) (fun j hj => by cases hj)
  ·exact run_append_room_src _ _ _ _ 3 i Tryz.underlying26 hi g 0 m c _ 0 [] (Src.ofSlice _ Tryz.underlying26 ad 0 cap [] (by simp) (fun j u h => by simp at h) (fun u h => by cases h)) (by omega) (fun j hj => by cases hj) (fun j hj => by cases hj)
 ·rcases Nat.eq_zero_or_pos n with h0 | hpos
  ·subst h0
   have hx : xs = [] := List.length_eq_zero_iff.1 hlen
   subst hx
   refine short _ ?_
   exact run_append_room_src _ _ _ _ 3 i Tryz.underlying26 hi g 0 m c _ 0 [] (Src.ofSlice _ Tryz.underlying26 ⟨b, off, none⟩ 0 cap [] (by simp) (fun j u h => by simp at h) (fun u h => by cases h)) (by omega) (fun j hj => by cases hj) (fun j hj => by cases hj)
  ·obtain ⟨g', c', w', hr, hown, hgrow, hat, _⟩ := run_append_lies (P := Tryz.prog) w 26 26 B 3 i (.int .i64 0) 1 8 Tryz.underlying26 hi hz0 hz1 hz2 rfl (by omega) _ m _ ho ⟨b, off, none⟩ n cap (xs.map (Value.int .i64)) (by simp [hlen])
    (fun j u h => by
     rw [Addr.add_lit]
     have hj : j < n := by
      have := (List.getElem?_eq_some_iff.1 h).1
      simpa [hlen] using this
     rw [hcell j hj]
     simp only [List.getElem?_map] at h
     rw [List.getElem?_eq_getElem (by omega)] at h
     simp only [Option.map_some, Option.some.injEq] at h
     rw [← h]
     simp [List.getD, List.getElem?_eq_getElem (show j < xs.length by omega)])
    (fun u hu => by obtain ⟨_, _, rfl⟩ := List.mem_map.1 hu; rfl) hpos (by unfold maxLen; omega) (by omega) hB _ rfl
   refine ⟨g', c', w', hr, by rw [← List.map_append] at hown; exact hown, hgrow, ?_⟩
   rcases hat with h | h
   ·left; simpa [Value.ownBlock] using h.symm
   ·exact .inr h
theorem append_ints (B g m c : Nat) (ys : List Int) (a : Option Addr) (n cap : Nat) (xs : List Int) (w : World) (ho : Owns B w g m c ys) (hB : B ≤ w.heap.size) (hI : IntsAt w a n xs) (hs : m + n ≤ 4194304) :
    ∃ (g' c' : Nat) (w' : World), (Builtin.append_ #[26, 26] 26 #[.slice (some ⟨g, 0, none⟩) m c, .slice a n cap]).run Tryz.prog w = .ok (.slice (some ⟨g', 0, none⟩) (m + n) c') w' ∧
      Owns B w' g' (m + n) c' (ys ++ xs) ∧ w.grownBy w' (some g) := by
  obtain ⟨g', c', w', h1, h2, h3, _⟩ := append_ints2 B g m c ys a n cap xs w ho hB hI hs
  exact ⟨g', c', w', h1, h2, h3⟩
end Go.Proofs.YtihdglmiecifjaaGreat
namespace Go.Proofs.YtihdglmiecifjaaGreat
open Go.RowKit Pl Il
theorem l2Copy_any (a : Option Addr) (n cap : Nat) (xs : List Int) (w : World) (hI : IntsAt w a n xs) (hn : n ≤ 2097152) :
    Calls Tryz.prog 87 #[.slice a n cap] w fun e w' => ∃ g c, e = .returned (.slice (some ⟨g, 0, none⟩) n c) ∧ Owns w.heap.size w' g n c xs ∧ Below w.heap.size w w' := by
  have hb0 : Below w.heap.size w (w.alloc (.cells #[] 3)) := bl_alloc (Below.refl _ _) _
  obtain ⟨g, c, w', hr, ho, hg⟩ := append_ints w.heap.size w.heap.size 0 0 [] a n cap xs (w.alloc (.cells #[] 3)) (owns_empty w) (by simp) (hI.keep hb0) (by omega)
  rw [Nat.zero_add] at hr ho
  rw [List.nil_append] at ho
  have hb : Below w.heap.size w w' := hb0.grown hg (by simp) (fun k hk => by simp at hk; omega)
  have Hr : Hid _ := hr
  clear hr hg hb0 hI
  go_enter Tryz.func87, Tryz.ntmps87
  go_wp2_with (at_builtin; refine wpList_append_run rfl _ _ 26 rfl _ _ _ rfl rfl Hr.out ?_)
  go_ret
  exact ⟨g, c, rfl, ho, hb⟩
end Go.Proofs.YtihdglmiecifjaaGreat
namespace Go.Proofs.YtihdglmiecifjaaGreat
open Go.RowKit Pl Il
/-- append of one number to a row that is owned, or nil. -/
theorem append_own1 (B m : Nat) (v : Value) (ys : List Int) (x : Int) (w : World) (ho : w.ownsRow B 3 1 v m (ys.map (Value.int .i64))) (hB : B ≤ w.heap.size) (hs : m + 1 ≤ 4194304) :
    ∃ (g' c' : Nat) (w' : World), (Builtin.append_ #[26, 26] 26 #[v, .slice (some ⟨w.heap.size, 0, none⟩) 1 1]).run Tryz.prog (w.alloc (.cells #[.int .i64 x] 3)) = .ok (.slice (some ⟨g', 0, none⟩) (m + 1) c') w' ∧
      w'.ownsRow B 3 1 (.slice (some ⟨g', 0, none⟩) (m + 1) c') (m + 1) ((ys ++ [x]).map (Value.int .i64)) ∧ w.grownBy w' v.ownBlock ∧ (v.ownBlock = some g' ∨ w.heap.size ≤ g') := by
  obtain ⟨i, hi, hz0, hz1, hz2⟩ := info_parts info3
  obtain ⟨g', c', w', hr, hown, hgrow, hl, _⟩ := run_append_lies (P := Tryz.prog) (w.alloc (.cells #[.int .i64 x] 3)) 26 26 B 3 i (.int .i64 0) 1 8 Tryz.underlying26 hi hz0 hz1 hz2 rfl (by omega) v m _ (ho.alloc _) ⟨w.heap.size, 0, none⟩ 1 1 [.int .i64 x] rfl
    (cell_one_new _ _ _) (fun u hu => by rw [List.mem_singleton] at hu; subst hu; rfl) (by omega) (by unfold maxLen; omega) (by omega) (by simp; omega) _ rfl
  refine ⟨g', c', w', hr, by rw [List.map_append]; exact hown, (World.grownBy_alloc w _ _).trans hgrow, ?_⟩
  rcases hl with h | h
  · exact .inl h
  · right; subst h; simp
theorem append_one (B g m c : Nat) (ys : List Int) (x : Int) (w w0 : World) (hB : B = w0.heap.size) (ho : Owns B w g m c ys) (hb : Below B w0 w) (hs : m + 1 ≤ 4194304) :
    ∃ (g' c' : Nat) (w' : World), (Builtin.append_ #[26, 26] 26 #[.slice (some ⟨g, 0, none⟩) m c, .slice (some ⟨w.heap.size, 0, none⟩) 1 1]).run Tryz.prog (w.alloc (.cells #[.int .i64 x] 3)) = .ok (.slice (some ⟨g', 0, none⟩) (m + 1) c') w' ∧
      Owns B w' g' (m + 1) c' (ys ++ [x]) ∧ Below B w0 w' := by
  subst hB
  have hb0 : Below w.heap.size w (w.alloc (.cells #[.int .i64 x] 3)) := bl_alloc (Below.refl _ _) _
  have hle := hb.size
  obtain ⟨_, hgB, _⟩ := owns_parts ho
  obtain ⟨g', c', w', hr, ho', hg⟩ := append_ints w0.heap.size g m c ys (some ⟨w.heap.size, 0, none⟩) 1 1 [x] (w.alloc (.cells #[.int .i64 x] 3)) (owns_keep ho hb0) (by simp; omega)
    ⟨rfl, .inr ⟨w.heap.size, 0, rfl, by simp, fun i hi => by obtain rfl : i = 0 := by omega
                                                             simp [World.cell?_alloc_new]⟩⟩ (by omega)
  exact ⟨g', c', w', hr, ho', (bl_alloc hb _).grown hg (by simp; omega) (fun k hk => by simp at hk; omega)⟩
/-- A list without the first that is x. -/
def lessL (xs : List Int) (x : Int) : List Int := xs.erase x
theorem less_skip {xs : List Int} {k : Nat} {x y : Int} (hk : k < xs.length) (hy : xs.getD k 0 = y) (h : hasL (xs.take k) x = false) (he : (y == x) = true) : lessL (xs.take (k + 1)) x = lessL (xs.take k) x := by
  rw [List.take_succ_eq_append_getElem hk]
  have e : xs.getD k 0 = xs[k] := by simp [List.getD, List.getElem?_eq_getElem hk]
  rw [e] at hy
  have hm : x ∉ xs.take k := by simpa [hasL] using h
  have hyx : y = x := by simpa using he
  unfold lessL
  rw [List.erase_append_right _ hm, hy, hyx, List.erase_of_not_mem hm]
  simp
theorem less_keep {xs : List Int} {k : Nat} {x y : Int} (hk : k < xs.length) (hy : xs.getD k 0 = y) (h : hasL (xs.take k) x = true ∨ (y == x) = false) : lessL (xs.take (k + 1)) x = lessL (xs.take k) x ++ [y] := by
  rw [List.take_succ_eq_append_getElem hk]
  have e : xs.getD k 0 = xs[k] := by simp [List.getD, List.getElem?_eq_getElem hk]
  rw [e] at hy
  unfold lessL
  rw [List.erase_append, hy]
  split
  · rfl
  · rename_i hn
    rcases h with h | h
    · exact absurd (by simpa [hasL] using h) hn
    · rw [List.erase_of_not_mem hn, List.erase_of_not_mem]
      simp only [List.mem_singleton]
      rintro rfl
      simp at h
theorem has_more {xs : List Int} {k : Nat} {x y : Int} (hk : k < xs.length) (hy : xs.getD k 0 = y) : hasL (xs.take (k + 1)) x = (hasL (xs.take k) x || (y == x)) := by
  rw [List.take_succ_eq_append_getElem hk]
  have e : xs.getD k 0 = xs[k] := by simp [List.getD, List.getElem?_eq_getElem hk]
  rw [e] at hy
  rw [Bool.eq_iff_iff]
  simp only [hasL, hy, List.contains_eq_mem, List.mem_append, List.mem_singleton, Bool.or_eq_true, decide_eq_true_eq, beq_iff_eq]
  exact ⟨fun h => h.imp id Eq.symm, fun h => h.imp id Eq.symm⟩
theorem less_len (xs : List Int) (x : Int) : (lessL xs x).length ≤ xs.length := List.length_erase_le
theorem l2Less_any (a : Option Addr) (n cap : Nat) (xs : List Int) (x : Int) (w : World) (hI : IntsAt w a n xs) (hn : n ≤ 2097152) :
  Calls Tryz.prog 109 #[.slice a n cap, .int .i64 x] w fun e w' => ∃ g m c, e = .returned (.slice (some ⟨g, 0, none⟩) m c) ∧ Owns w.heap.size w' g m c (lessL xs x) ∧ Below w.heap.size w w' := by
 obtain ⟨hlen, rfl | ⟨b, off, rfl, hb, hcell⟩⟩ := hI
 ·have : xs = [] := List.length_eq_zero_iff.1 hlen
  subst this
  go_enter Tryz.func109, Tryz.ntmps109
  go_wp2
  go_loopw [5, 6, 7] (fun o d i wr => i = .int .i64 0 ∧ d = .bool false ∧ o = .slice (some ⟨w.heap.size, 0, none⟩) 0 0 ∧ Owns w.heap.size wr w.heap.size 0 0 [] ∧ Below w.heap.size w wr) (fun _ _ _ _ => 0)
  case atStart => exact ⟨rfl, rfl, rfl, owns_empty w, bl_alloc (Below.refl _ _) _⟩
  case round =>
   obtain ⟨rfl, rfl, rfl, ho, hbr⟩ := hrel
   go_wp2
   go_ret
   exact ⟨_, _, _, rfl, ho, hbr⟩
 ·go_enter Tryz.func109, Tryz.ntmps109
  go_wp2
  go_loopw [5, 6, 7] (fun o d i wr => ∃ k m g c : Nat, k ≤ n ∧ i = .int .i64 k ∧ d = .bool (hasL (xs.take k) x) ∧ o = .slice (some ⟨g, 0, none⟩) m c ∧ Owns w.heap.size wr g m c (lessL (xs.take k) x) ∧ Below w.heap.size w wr) (fun _ _ i _ => n - (intOf i).toNat)
  case atStart => exact ⟨0, 0, w.heap.size, 0, Nat.zero_le _, rfl, rfl, rfl, owns_empty w, bl_alloc (Below.refl _ _) _⟩
  case round =>
   rename_i wr
   obtain ⟨k, m, g, c, hk, rfl, rfl, rfl, ho, hbr⟩ := hrel
   by_cases hlt : k < n
   ·have hc : wr.cell? ⟨b, off + k, none⟩ = some (.int .i64 (xs.getD k 0)) := by rw [hbr.cell (p := ⟨b, off + k, none⟩) hb]; exact hcell k hlt
    generalize hy : xs.getD k 0 = y at hc
    have hm : m ≤ n := by
     have h1 := (owns_parts ho).1
     have h2 := less_len (xs.take k) x
     rw [List.length_take] at h2
     omega
    obtain ⟨g', c', w', hr, ho', hb'⟩ := append_one w.heap.size g m c _ y wr w rfl ho hbr (by omega)
    have HY : Hid _ := hy
    have Hr : Hid _ := hr
    have Ho : Hid _ := ho
    have Ho' : Hid _ := ho'
    have Hbr : Hid _ := hbr
    have Hb' : Hid _ := hb'
    have hkx : k < xs.length := by omega
    clear hy hcell hr ho ho' hbr hb'
    cases hh : hasL (xs.take k) x
    ·cases he : (y == x)
     ·have hne : y ≠ x := by simpa using he
      go_wp2_with (at_builtin; refine wpList_append_run rfl _ _ 26 rfl _ _ _ rfl rfl Hr.out ?_)
      go_roundw
      case rel => exact ⟨k + 1, m + 1, g', c', by omega, by go_num, by rw [has_more hkx HY.out, hh, he]; rfl, rfl, by rw [less_keep hkx HY.out (.inr he)]; exact Ho'.out, Hb'.out⟩
      case measure => simp [intOf]; omega
     ·have hne : y = x := by simpa using he
      go_wp2
      go_roundw
      case rel => exact ⟨k + 1, m, g, c, by omega, by go_num, by rw [has_more hkx HY.out, hh, he]; rfl, rfl, by rw [less_skip hkx HY.out hh he]; exact Ho.out, Hbr.out⟩
      case measure => simp [intOf]; omega
    ·cases he : (y == x)
     ·have hne : y ≠ x := by simpa using he
      go_wp2_with (at_builtin; refine wpList_append_run rfl _ _ 26 rfl _ _ _ rfl rfl Hr.out ?_)
      go_roundw
      case rel => exact ⟨k + 1, m + 1, g', c', by omega, by go_num, by rw [has_more hkx HY.out, hh]; rfl, rfl, by rw [less_keep hkx HY.out (.inl hh)]; exact Ho'.out, Hb'.out⟩
      case measure => simp [intOf]; omega
     ·obtain rfl : y = x := by simpa using he
      go_wp2_with (at_builtin; refine wpList_append_run rfl _ _ 26 rfl _ _ _ rfl rfl Hr.out ?_)
      go_roundw
      case rel => exact ⟨k + 1, m + 1, g', c', by omega, by go_num, by rw [has_more hkx HY.out, hh]; rfl, rfl, by rw [less_keep hkx HY.out (.inl hh)]; exact Ho'.out, Hb'.out⟩
      case measure => simp [intOf]; omega
   ·obtain rfl : k = n := by omega
    clear hcell
    rw [List.take_of_length_le (by omega)] at ho
    go_wp2
    go_ret
    exact ⟨_, _, _, rfl, ho, hbr⟩
end Go.Proofs.YtihdglmiecifjaaGreat
namespace Go.Proofs.YtihdglmiecifjaaGreat
open Go.RowKit Pl Il
def cnt (x : Int) : Bool := decide (0 ≤ x) && decide (x ≤ 1000000000)
/-- Where two lists lie. -/
structure Na where
  a : Option Addr
  n : Nat
  c : Nat
  a' : Option Addr
  n' : Nat
  c' : Nat
def Na.zero : Na := ⟨none, 0, 0, none, 0, 0⟩
/-- Each list lies within its room. -/
def Na.ok (A : Na) : Prop := A.n ≤ A.c ∧ A.n' ≤ A.c'
end Go.Proofs.YtihdglmiecifjaaGreat
namespace Go.Proofs.YtihdglmiecifjaaGreat
open Go.RowKit Pl Il
theorem bl_set1 {B : Nat} {w u : World} (h : Below B w u) (N o : Nat) (hN : B ≤ N) (y : Value) : Below B w (u.setCell ⟨N, o, none⟩ y) := h.setCell (p := ⟨N, o, none⟩) hN y
/-- Which blocks a marking of two lists may have turned: those of its two lists. -/
structure Turned (a : Option Addr) (n : Nat) (a' : Option Addr) (n' : Nat) (w w' : World) : Prop where
  os : w'.os = w.os
  tape : w'.tape = w.tape
  output : w'.output = w.output
  size : w.heap.size ≤ w'.heap.size
  block : ∀ k, k < w.heap.size → (∀ off, 0 < n → a ≠ some ⟨k, off, none⟩) → (∀ off, 0 < n' → a' ≠ some ⟨k, off, none⟩) → w'.heap[k]? = w.heap[k]?
theorem Turned.below {a : Option Addr} {n : Nat} {a' : Option Addr} {n' : Nat} {w w' : World} {B : Nat} (h : Turned a n a' n' w w') (hB : B ≤ w.heap.size) (h1 : n = 0 ∨ ∀ b off, a = some ⟨b, off, none⟩ → B ≤ b) (h2 : n' = 0 ∨ ∀ b off, a' = some ⟨b, off, none⟩ → B ≤ b) : Below B w w' :=
  ⟨h.os, h.tape, h.output, h.size, fun k hk => h.block k (by omega)
    (fun off hp e => by rcases h1 with h1 | h1; · omega
                        · have := h1 _ _ e; omega)
    (fun off hp e => by rcases h2 with h2 | h2; · omega
                        · have := h2 _ _ e; omega)⟩
theorem Il.OwnAt.turned {B : Nat} {w w' : World} {a : Option Addr} {n : Nat} {xs : List Int} {a1 : Option Addr} {n1 : Nat} {a2 : Option Addr} {n2 : Nat} (h : Il.OwnAt B w a n xs) (ht : Turned a1 n1 a2 n2 w w')
    (h1 : n1 = 0 ∨ ∀ b off, a1 = some ⟨b, off, none⟩ → b < B) (h2 : n2 = 0 ∨ ∀ b off, a2 = some ⟨b, off, none⟩ → b < B) : Il.OwnAt B w' a n xs := by
  obtain ⟨⟨hl, hr⟩, ho⟩ := h
  rcases hr with h0 | ⟨b1, off, rfl, hlt, hc⟩
  · exact ⟨⟨hl, .inl h0⟩, .inl h0⟩
  · rcases ho with h0 | ⟨b', off', e, hB, hf⟩
    · exact ⟨⟨hl, .inl h0⟩, .inl h0⟩
    · cases e
      have key : w'.heap[b1]? = w.heap[b1]? := ht.block b1 hlt
        (fun o hp e => by rcases h1 with h1 | h1; · omega
                          · have := h1 _ _ e; omega)
        (fun o hp e => by rcases h2 with h2 | h2; · omega
                          · have := h2 _ _ e; omega)
      refine ⟨⟨hl, .inr ⟨b1, off, rfl, Nat.lt_of_lt_of_le hlt ht.size, fun i hi => ?_⟩⟩, .inr ⟨b1, off, rfl, hB, fun i hi => ?_⟩⟩
      · rw [← hc i hi]; exact World.cell?_of_block key
      · rw [← hf i hi]; exact World.frozen?_of_block key
end Go.Proofs.YtihdglmiecifjaaGreat
namespace Go.Proofs.YtihdglmiecifjaaGreat
open Go.RowKit Pl Il
/-- A ring. -/
structure Rv where
  cp : Int
  se : Int
  it : List Tm
  nx : Int
  sb : List Sb
  ln : List Int
  gs : List Int
  cl : Bool
/-- Where its lists lie. -/
structure Rm where
  ia : Option Addr
  i : Nat
  ic : Nat
  sa : Option Addr
  s : Nat
  sc : Nat
  xs : List Sa
  la : Option Addr
  l : Nat
  lc : Nat
  ga : Option Addr
  g : Nat
  gc : Nat
abbrev rC (M : Rm) (v : Rv) : List Value := [.int .i64 v.cp, .int .i64 v.se, .slice M.ia M.i M.ic, .int .i64 v.nx, .slice M.sa M.s M.sc, .slice M.la M.l M.lc, .slice M.ga M.g M.gc, .bool v.cl]
/-- It reads as v. -/
structure RIn (w : World) (M : Rm) (v : Rv) : Prop where
  it : TmAt w M.ia M.i v.it
  sb : SubAt w M.sa M.s M.xs
  sv : svs M.xs = v.sb
  ln : IntsAt w M.la M.l v.ln
  gs : IntsAt w M.ga M.g v.gs
theorem RIn.keep {w w' : World} {M : Rm} {v : Rv} (h : RIn w M v) (hb : Below w.heap.size w w') : RIn w' M v := ⟨h.it.keep hb, h.sb.keep hb, h.sv, h.ln.keep hb, h.gs.keep hb⟩
/-- All its lists are at most k long. -/
structure RLe (M : Rm) (k : Nat) : Prop where
  i : M.i ≤ k
  s : M.s ≤ k
  f : ∀ x, x ∈ M.xs → x.n ≤ k
  l : M.l ≤ k
  g : M.g ≤ k
theorem RLe.mono {M : Rm} {k k' : Nat} (h : RLe M k) (hk : k ≤ k') : RLe M k' := ⟨Nat.le_trans h.i hk, Nat.le_trans h.s hk, fun x hx => Nat.le_trans (h.f x hx) hk, Nat.le_trans h.l hk, Nat.le_trans h.g hk⟩
theorem eqLR_self (xs : List Int) : eqL xs xs = true := by simp [eqL]
end Go.Proofs.YtihdglmiecifjaaGreat
