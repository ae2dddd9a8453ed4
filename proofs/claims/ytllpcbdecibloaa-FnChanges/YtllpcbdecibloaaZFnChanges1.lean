/-
  The plain mathematics of messages (no program in it): which bytes a text may hold, which messages are right, and how the walk's tests meet them.
  What the draws leave alone: a cursor in block c, the bytes that it reads, and all other blocks.
  Walks of the specification's draws: whatever the bytes, a byte is drawn, and the cursor stays a cursor.
  Walks of the specification's draws: one out of a list; a message that is right.
  Walks of the specification's draws: any message, and two messages.
  Walks of the specification's draws: a new cursor; two messages.
  Walks of the functions that tell a right message.
  The walk of the function that makes a message's body.
  The walk of the function that makes a message's body: texts, and what is neither.
  Walks: a right message told by the program's own function; what the law's own functions answer.
  Slices of numbers in memory: what they read as, and what leaves that alone.
-/
import Derived.WalkKit
import Derived.Below
import Derived.Laws.BitsLemmas
import Derived.Laws.Bits64
import Derived.Maps.Range
import Derived.Maps.AppendAt
import Derived.Deep.AppendLies
import Derived.Deep.Draws
import Derived.Test.YtllpcbdecibloaaRows
import Derived.WalkSpells
import Derived.WalkLawsBesides
import Derived.RowKit3
import Derived.Deep.RegionHeld3
import Derived.Deep.RegionWith
import Derived.Deep.QuietTactic
import Derived.BigQuiet
import Derived.Deep.AppendSrc
namespace Go.Proofs.Ytllpcbdecibloaa.Pl
open Go.RowKit

def goodB (c : UInt8) : Bool := decide (32 ≤ c.toNat) && decide (c.toNat ≤ 126) && !(decide (c.toNat = 34))
def plainL (l : List UInt8) : Bool := l.all goodB
def plainB (s : ByteArray) : Bool := decide (s.size ≤ 40) && plainL s.data.toList
def okNum (n : Int) : Bool := decide (-999999999 ≤ n) && decide (n ≤ 999999999)
def okB (k n : Int) (t : ByteArray) : Bool :=
  if k = 1 then (t.toList.isEmpty && okNum n) else if k = 2 then (decide (n = 0) && plainB t) else false

theorem take_snoc (s : ByteArray) (k : Nat) (h : k < s.size) : s.data.toList.take (k + 1) = s.data.toList.take k ++ [s[k]] := by
  rw [List.take_succ_eq_append_getElem (by simpa using h)]; rfl
theorem plain_step (s : ByteArray) (k : Nat) (h : k < s.size) (hp : plainL (s.data.toList.take k) = true) (hg : goodB s[k] = true) :
    plainL (s.data.toList.take (k + 1)) = true := by
  rw [take_snoc s k h]; simp [plainL] at hp ⊢; exact ⟨hp, hg⟩
theorem plain_bad (s : ByteArray) (k : Nat) (h : k < s.size) (hg : goodB s[k] = false) : plainB s = false := by
  have hm : s[k] ∈ s.data.toList := by
    have : s.data.toList[k]'(by simpa using h) = s[k] := rfl
    rw [← this]; exact List.getElem_mem _
  have : plainL s.data.toList = false := by
    unfold plainL
    rw [List.all_eq_false]
    exact ⟨_, hm, by simp [hg]⟩
  simp [plainB, this]
theorem plain_long (s : ByteArray) (h : 40 < (s.size : Int)) : plainB s = false := by
  have : ¬ s.size ≤ 40 := by omega
  simp [plainB, this]
theorem plain_all (s : ByteArray) (k : Nat) (h40 : ¬ 40 < (s.size : Int)) (h : s.size ≤ k) (hp : plainL (s.data.toList.take k) = true) : plainB s = true := by
  have e : s.data.toList.take k = s.data.toList := List.take_of_length_le (by simpa using h)
  rw [e] at hp
  have : s.size ≤ 40 := by omega
  simp [plainB, this, hp]
theorem good_lo (c : UInt8) (h : (c.toNat : Int) < 32) : goodB c = false := by
  have : ¬ 32 ≤ c.toNat := by omega
  simp [goodB, this]
theorem good_hi (c : UInt8) (h : 126 < (c.toNat : Int)) : goodB c = false := by
  have : ¬ c.toNat ≤ 126 := by omega
  simp [goodB, this]
theorem good_q (c : UInt8) (h : (c.toNat : Int) = 34) : goodB c = false := by
  have : c.toNat = 34 := by omega
  simp [goodB, this]
theorem good_yes (c : UInt8) (h1 : ¬ (c.toNat : Int) < 32) (h2 : ¬ 126 < (c.toNat : Int)) (h3 : ¬ (c.toNat : Int) = 34) : goodB c = true := by
  have a : 32 ≤ c.toNat := by omega
  have b : c.toNat ≤ 126 := by omega
  have d : ¬ c.toNat = 34 := by omega
  simp [goodB, a, b, d]
theorem good_no (c : UInt8) (h : (c.toNat : Int) < 32 ∨ 126 < (c.toNat : Int) ∨ (c.toNat : Int) = 34) : goodB c = false := by
  rcases h with h | h | h
  · exact good_lo c h
  · exact good_hi c h
  · exact good_q c h
theorem ret_bool {a b : Bool} (h : a = b) : Ending.returned (.bool a) = .returned (.bool b) := by rw [h]
theorem ok_num {k n : Int} {t : ByteArray} (hk : (k == 1) = true) (ht : t.toList = []) : okB k n t = okNum n := by
  have : k = 1 := by simpa using hk
  simp [okB, this, ht]
theorem ok_numNo {k n : Int} {t : ByteArray} (hk : (k == 1) = true) (ht : ¬ t.toList = []) : okB k n t = false := by
  have : k = 1 := by simpa using hk
  simp [okB, this, ht]
theorem ok_text {k : Int} {t : ByteArray} (_h1 : (k == 1) = false) (hk : (k == 2) = true) : okB k 0 t = plainB t := by
  have : k = 2 := by simpa using hk
  simp [okB, this]
theorem ok_textNo {k n : Int} {t : ByteArray} (_h1 : (k == 1) = false) (hk : (k == 2) = true) (hn : ¬ n = 0) : okB k n t = false := by
  have : k = 2 := by simpa using hk
  simp [okB, this, hn]
theorem ok_none {k n : Int} {t : ByteArray} (h1 : (k == 1) = false) (hk : (k == 2) = false) : okB k n t = false := by
  have a : ¬ k = 1 := by simpa using h1
  have b : ¬ k = 2 := by simpa using hk
  simp [okB, a, b]

/-! What a call leaves alone: all that lay in memory ahead of it. -/
theorem bl_alloc {w w' : World} (h : Below w.heap.size w w') (o : Obj) : Below w.heap.size w (w'.alloc o) := h.alloc h.size o
theorem bl_trans {w w1 w2 : World} (h : Below w.heap.size w w1) (k : Below w1.heap.size w1 w2) : Below w.heap.size w w2 := h.trans (k.mono h.size)
theorem bcell {W w1 : World} (hb : Below W.heap.size W w1) : (∀ b o, b < W.heap.size → w1.cell? ⟨b, o, none⟩ = W.cell? ⟨b, o, none⟩) ∧ (∀ b o, b < W.heap.size → w1.frozen? ⟨b, o, none⟩ = W.frozen? ⟨b, o, none⟩) :=
  ⟨fun b o h => hb.cell (p := ⟨b, o, none⟩) h, fun b o h => hb.frozen (p := ⟨b, o, none⟩) h⟩
/-- A variable of three cells in block N. -/
structure Box3 (N : Nat) (v0 v1 v2 : Value) (w : World) : Prop where
  lt : N < w.heap.size
  c0 : w.cell? ⟨N, 0, none⟩ = some v0
  c1 : w.cell? ⟨N, 1, none⟩ = some v1
  c2 : w.cell? ⟨N, 2, none⟩ = some v2
  fr : ∀ o, w.frozen? ⟨N, o, none⟩ = false
theorem Box3.new (w : World) (v0 v1 v2 : Value) (t : TypeId) : Box3 w.heap.size v0 v1 v2 (w.alloc (.cells #[v0, v1, v2] t)) :=
  ⟨by simp, by simp, by simp, by simp, fun o => by simp [go_sem]⟩
theorem Box3.keep {N : Nat} {v0 v1 v2 : Value} {w u : World} (h : Box3 N v0 v1 v2 w) (hb : Below w.heap.size w u) : Box3 N v0 v1 v2 u where
  lt := Nat.lt_of_lt_of_le h.lt hb.size
  c0 := by rw [hb.cell (p := ⟨N, 0, none⟩) h.lt]; exact h.c0
  c1 := by rw [hb.cell (p := ⟨N, 1, none⟩) h.lt]; exact h.c1
  c2 := by rw [hb.cell (p := ⟨N, 2, none⟩) h.lt]; exact h.c2
  fr := fun o => by rw [hb.frozen (p := ⟨N, o, none⟩) h.lt]; exact h.fr o
theorem Box3.alloc {N : Nat} {v0 v1 v2 : Value} {w : World} (h : Box3 N v0 v1 v2 w) (o : Obj) : Box3 N v0 v1 v2 (w.alloc o) := h.keep (bl_alloc (Below.refl _ _) o)
theorem bl_set3 {w u : World} (h : Below w.heap.size w u) (N : Nat) (hN : w.heap.size ≤ N) (x y z : Value) :
    Below w.heap.size w (((u.setCell ⟨N, 0, none⟩ x).setCell ⟨N, 1, none⟩ y).setCell ⟨N, 2, none⟩ z) :=
  ((h.setCell (p := ⟨N, 0, none⟩) hN x).setCell (p := ⟨N, 1, none⟩) hN y).setCell (p := ⟨N, 2, none⟩) hN z
end Go.Proofs.Ytllpcbdecibloaa.Pl
namespace Go.Proofs.Ytllpcbdecibloaa.Dr
open Go.RowKit Pl

theorem and255 (x : Int) : 0 ≤ bits .and .i64 x 255 ∧ bits .and .i64 x 255 ≤ 255 := by
  unfold bits
  simp only
  have h : (BitVec.ofInt IntKind.i64.bits x &&& BitVec.ofInt IntKind.i64.bits 255).toNat ≤ 255 := by
    rw [BitVec.toNat_and]
    have e : (BitVec.ofInt IntKind.i64.bits 255).toNat = 255 := by decide
    rw [e]
    exact Nat.and_le_right
  generalize (BitVec.ofInt IntKind.i64.bits x &&& BitVec.ofInt IntKind.i64.bits 255).toNat = m at h
  rw [IntKind.wrap_i64]
  omega

/-- Of what w held nothing has turned but block c. -/
abbrev Ex (c : Nat) (w w' : World) : Prop := w.grownBy w' (some c)
theorem Ex.refl (c : Nat) (w : World) : Ex c w w := ⟨rfl, rfl, rfl, Nat.le_refl _, fun _ _ _ => rfl⟩
theorem Ex.trans {c : Nat} {a b d : World} (h : Ex c a b) (k : Ex c b d) : Ex c a d :=
  ⟨k.os.trans h.os, k.tape.trans h.tape, k.output.trans h.output, Nat.le_trans h.size k.size, fun i hi hn => (k.block i (Nat.lt_of_lt_of_le hi h.size) hn).trans (h.block i hi hn)⟩
theorem Ex.of {c : Nat} {w w' : World} (h : Below w.heap.size w w') : Ex c w w' := ⟨h.os, h.tape, h.output, h.size, fun i hi _ => h.block i hi⟩
theorem Ex.below {c B : Nat} {w w' : World} (h : Ex c w w') (hB : B ≤ c) (hw : B ≤ w.heap.size) : Below B w w' :=
  ⟨h.os, h.tape, h.output, h.size, fun i hi => h.block i (by omega) (by simp; omega)⟩
theorem Ex.alloc {c : Nat} {a w : World} (h : Ex c a w) (o : Obj) : Ex c a (w.alloc o) := h.trans (Ex.of (bl_alloc (Below.refl _ _) o))
theorem Ex.drew {c : Nat} {a w : World} (h : Ex c a w) : Ex c a w.drew := ⟨h.os, h.tape, h.output, h.size, h.block⟩
theorem Ex.drewN {c : Nat} {a w : World} (h : Ex c a w) (n : Nat) : Ex c a (w.drewN n) := ⟨h.os, h.tape, h.output, h.size, h.block⟩
theorem Ex.setCell {c : Nat} {a w : World} (h : Ex c a w) (p : Addr) (hp : p.block = c) (v : Value) : Ex c a (w.setCell p v) := by
  refine h.trans ⟨rfl, rfl, rfl, by simp, fun i _ hn => Below.heap_setCell w p v i ?_⟩
  rintro rfl; exact hn (by rw [hp])
theorem Ex.cell {c : Nat} {w w' : World} (h : Ex c w w') {b o : Nat} (hb : b < w.heap.size) (hn : b ≠ c) : w'.cell? ⟨b, o, none⟩ = w.cell? ⟨b, o, none⟩ :=
  h.cell_far ⟨b, o, none⟩ hb (by simp [hn])
theorem Ex.frozen {c : Nat} {w w' : World} (h : Ex c w w') {b o : Nat} (hb : b < w.heap.size) (hn : b ≠ c) : w'.frozen? ⟨b, o, none⟩ = w.frozen? ⟨b, o, none⟩ :=
  h.frozen_far ⟨b, o, none⟩ hb (by simp [hn])

/-- A slice of bytes that is only read, not in block c: empty, or a row of cells, each a byte. -/
def Bytes (c : Nat) (w : World) (a : Option Addr) (len cap : Nat) : Prop :=
  len ≤ 1048577 ∧ cap ≤ maxLen ∧ (len = 0 ∨ ∃ b off : Nat, a = some ⟨b, off, none⟩ ∧ b < w.heap.size ∧ b ≠ c ∧ ∀ i, i < len → ∃ n : Int, w.cell? ⟨b, off + i, none⟩ = some (.int .u8 n) ∧ 0 ≤ n ∧ n ≤ 255)
theorem Bytes.keep {c : Nat} {w w' : World} {a : Option Addr} {len cap : Nat} (h : Bytes c w a len cap) (hx : Ex c w w') : Bytes c w' a len cap := by
  obtain ⟨hl, hm, h | ⟨b, off, rfl, hb, hn, hc⟩⟩ := h
  · exact ⟨hl, hm, .inl h⟩
  · refine ⟨hl, hm, .inr ⟨b, off, rfl, Nat.lt_of_lt_of_le hb hx.size, hn, fun i hi => ?_⟩⟩
    rw [hx.cell hb hn]; exact hc i hi

/-- A cursor in block c over these bytes. -/
structure Cur (c : Nat) (a : Option Addr) (len cap : Nat) (w : World) : Prop where
  lt : c < w.heap.size
  bytes : Bytes c w a len cap
  at0 : w.cell? ⟨c, 0, none⟩ = some (.slice a len cap)
  at1 : ∃ i : Nat, i ≤ len ∧ w.cell? ⟨c, 1, none⟩ = some (.int .i64 i)
  at2 : ∃ h : Int, w.cell? ⟨c, 2, none⟩ = some (.int .i64 h)
  fr1 : w.frozen? ⟨c, 1, none⟩ = false
  fr2 : w.frozen? ⟨c, 2, none⟩ = false
theorem Cur.keep {c : Nat} {a : Option Addr} {len cap : Nat} {w w' : World} (h : Cur c a len cap w) (hb : Below w.heap.size w w') : Cur c a len cap w' where
  lt := Nat.lt_of_lt_of_le h.lt hb.size
  bytes := h.bytes.keep (Ex.of hb)
  at0 := by rw [hb.cell (p := ⟨c, 0, none⟩) h.lt]; exact h.at0
  at1 := by rw [hb.cell (p := ⟨c, 1, none⟩) h.lt]; exact h.at1
  at2 := by rw [hb.cell (p := ⟨c, 2, none⟩) h.lt]; exact h.at2
  fr1 := by rw [hb.frozen (p := ⟨c, 1, none⟩) h.lt]; exact h.fr1
  fr2 := by rw [hb.frozen (p := ⟨c, 2, none⟩) h.lt]; exact h.fr2
theorem Cur.alloc {c : Nat} {a : Option Addr} {len cap : Nat} {w : World} (h : Cur c a len cap w) (o : Obj) : Cur c a len cap (w.alloc o) := h.keep (bl_alloc (Below.refl _ _) o)
theorem Cur.drew {c : Nat} {a : Option Addr} {len cap : Nat} {w : World} (h : Cur c a len cap w) : Cur c a len cap w.drew := h.keep (Below.refl _ _).drew
theorem Cur.drewN {c : Nat} {a : Option Addr} {len cap : Nat} {w : World} (h : Cur c a len cap w) (n : Nat) : Cur c a len cap (w.drewN n) :=
  h.keep ⟨rfl, rfl, rfl, Nat.le_refl _, fun _ _ => rfl⟩
theorem Cur.wrote2 {c : Nat} {a : Option Addr} {len cap : Nat} {w : World} (h : Cur c a len cap w) (x : Int) : Cur c a len cap (w.setCell ⟨c, 2, none⟩ (.int .i64 x)) := by
  obtain ⟨y, hy⟩ := h.at2
  refine ⟨by simpa using h.lt, h.bytes.keep ((Ex.refl _ _).setCell _ rfl _), ?_, ?_, ⟨x, World.cell?_setCell_same _ _ _ hy⟩, by simpa using h.fr1, by simpa using h.fr2⟩
  · rw [World.cell?_setCell_other _ _ _ _ (by simp)]; exact h.at0
  · rw [World.cell?_setCell_other _ _ _ _ (by simp)]; exact h.at1
theorem Cur.wrote1 {c : Nat} {a : Option Addr} {len cap : Nat} {w : World} (h : Cur c a len cap w) (v : Int) (i : Nat) (hv : v = (i : Int)) (hi : i ≤ len) : Cur c a len cap (w.setCell ⟨c, 1, none⟩ (.int .i64 v)) := by
  subst hv
  obtain ⟨y, _, hy⟩ := h.at1
  refine ⟨by simpa using h.lt, h.bytes.keep ((Ex.refl _ _).setCell _ rfl _), ?_, ⟨i, hi, World.cell?_setCell_same _ _ _ hy⟩, ?_, by simpa using h.fr1, by simpa using h.fr2⟩
  · rw [World.cell?_setCell_other _ _ _ _ (by simp)]; exact h.at0
  · rw [World.cell?_setCell_other _ _ _ _ (by simp)]; exact h.at2
/-- A store into another block. -/
theorem Cur.store {c : Nat} {a : Option Addr} {len cap : Nat} {w : World} (h : Cur c a len cap w) {p : Addr} (hp : p.block ≠ c) (hq : ∀ b off, len ≠ 0 → a = some ⟨b, off, none⟩ → b ≠ p.block) (v : Value) : Cur c a len cap (w.setCell p v) := by
  have hx : ∀ k, k ≠ p.block → (w.setCell p v).heap[k]? = w.heap[k]? := fun k hk => Below.heap_setCell w p v k hk
  have hcell : ∀ o, (w.setCell p v).cell? ⟨c, o, none⟩ = w.cell? ⟨c, o, none⟩ := fun o => World.cell?_of_block (w := w) (hx c (Ne.symm hp))
  have hfr : ∀ o, (w.setCell p v).frozen? ⟨c, o, none⟩ = w.frozen? ⟨c, o, none⟩ := fun o => World.frozen?_of_block (w := w) (hx c (Ne.symm hp))
  refine ⟨by simpa using h.lt, ?_, by rw [hcell]; exact h.at0, by rw [hcell]; exact h.at1, by rw [hcell]; exact h.at2, by rw [hfr]; exact h.fr1, by rw [hfr]; exact h.fr2⟩
  obtain ⟨hl, hm, k | ⟨b, off, rfl, hb, hn, hc⟩⟩ := h.bytes
  · exact ⟨hl, hm, .inl k⟩
  · refine ⟨hl, hm, .inr ⟨b, off, rfl, by simpa using hb, hn, fun i hi => ?_⟩⟩
    have : (w.setCell p v).cell? ⟨b, off + i, none⟩ = w.cell? ⟨b, off + i, none⟩ := World.cell?_of_block (w := w) (hx b (hq _ _ (by omega) rfl))
    rw [this]; exact hc i hi
end Go.Proofs.Ytllpcbdecibloaa.Dr
namespace Go.Proofs.Ytllpcbdecibloaa
open Go.RowKit Pl Dr

/-- What a draw leaves: the cursor, and all but its block. -/
structure Drawn (c : Nat) (a : Option Addr) (len cap : Nat) (w w' : World) : Prop where
  cur : Cur c a len cap w'
  ex : Ex c w w'

theorem byte_end (a : Option Addr) (len cap : Nat) (c : Nat) (i : Nat) (h : Int) (w : World) (hC : Cur c a len cap w) (hi : ¬ i < len)
    (h0 : w.cell? ⟨c, 0, none⟩ = some (.slice a len cap)) (h1 : w.cell? ⟨c, 1, none⟩ = some (.int .i64 i)) (h2 : w.cell? ⟨c, 2, none⟩ = some (.int .i64 h)) (f2 : w.frozen? ⟨c, 2, none⟩ = false) :
    Calls Try.prog 140 #[.pointer (some ⟨c, 0, none⟩)] w fun e w' => ∃ x : Int, e = .returned (.int .i64 x) ∧ 0 ≤ x ∧ x ≤ 255 ∧ Drawn c a len cap w w' := by
  go_enter Try.func140, Try.ntmps140
  go_wp2
  go_quiet (fail)
  go_wp2
  go_quiet (fail)
  go_wp2
  go_ret
  exact ⟨_, rfl, (and255 _).1, (and255 _).2, ((hC.wrote2 _).drewN _).drewN _, (((Ex.refl _ _).setCell _ rfl _).drewN _).drewN _⟩

theorem byte_more (b off : Nat) (len cap : Nat) (c : Nat) (i : Nat) (h n : Int) (w : World) (hC : Cur c (some ⟨b, off, none⟩) len cap w) (hi : i < len) (hl : len ≤ 1048577) (hb : b ≠ c)
    (h0 : w.cell? ⟨c, 0, none⟩ = some (.slice (some ⟨b, off, none⟩) len cap)) (h1 : w.cell? ⟨c, 1, none⟩ = some (.int .i64 i)) (h2 : w.cell? ⟨c, 2, none⟩ = some (.int .i64 h))
    (hn : w.cell? ⟨b, off + i, none⟩ = some (.int .u8 n)) (n0 : 0 ≤ n) (n1 : n ≤ 255) (f1 : w.frozen? ⟨c, 1, none⟩ = false) (f2 : w.frozen? ⟨c, 2, none⟩ = false) :
    Calls Try.prog 140 #[.pointer (some ⟨c, 0, none⟩)] w fun e w' => ∃ x : Int, e = .returned (.int .i64 x) ∧ 0 ≤ x ∧ x ≤ 255 ∧ Drawn c (some ⟨b, off, none⟩) len cap w w' := by
  go_enter Try.func140, Try.ntmps140
  go_wp2
  go_quiet (fail)
  go_wp2
  go_quiet (fail)
  go_wp2
  go_quiet (fail)
  go_wp2
  go_ret
  refine ⟨_, rfl, (and255 _).1, (and255 _).2, ?_, ?_⟩
  · exact ((hC.wrote2 _).drewN _).wrote1 _ (i + 1) (by omega) (by omega)
  · exact (((Ex.refl c w).setCell ⟨c, 2, none⟩ rfl _).drewN _).setCell ⟨c, 1, none⟩ rfl _

/-- A byte is drawn. -/
theorem byte_any (a : Option Addr) (len cap : Nat) (c : Nat) (w : World) (hC : Cur c a len cap w) :
    Calls Try.prog 140 #[.pointer (some ⟨c, 0, none⟩)] w fun e w' => ∃ x : Int, e = .returned (.int .i64 x) ∧ 0 ≤ x ∧ x ≤ 255 ∧ Drawn c a len cap w w' := by
  obtain ⟨i, hi, h1⟩ := hC.at1
  obtain ⟨h, h2⟩ := hC.at2
  by_cases hlt : i < len
  · obtain ⟨hl, _, k | ⟨b, off, rfl, _, hbc, hc⟩⟩ := hC.bytes
    · omega
    · obtain ⟨n, hn, n0, n1⟩ := hc i hlt
      exact byte_more b off len cap c i h n w hC hlt hl hbc hC.at0 h1 h2 hn n0 n1 hC.fr1 hC.fr2
  · exact byte_end a len cap c i h w hC hlt hC.at0 h1 h2 hC.fr2

/-- A number below n is drawn. -/
theorem below_any (a : Option Addr) (len cap : Nat) (c : Nat) (n : Int) (w : World) (hC : Cur c a len cap w) (h0 : 0 < n) (h1 : n ≤ 256) :
    Calls Try.prog 101 #[.pointer (some ⟨c, 0, none⟩), .int .i64 n] w fun e w' => ∃ x : Int, e = .returned (.int .i64 x) ∧ 0 ≤ x ∧ x < n ∧ Drawn c a len cap w w' := by
  have hn : ¬ n = 0 := by omega
  have hn' : ¬ n ≤ 0 := by omega
  go_enter Try.func101, Try.ntmps101
  go_wp2_with fail
  refine (byte_any a len cap c _ hC).mono ?_
  rintro e w1 ⟨x, rfl, x0, x1, hd⟩
  go_wp2
  go_ret
  exact ⟨_, rfl, Int.emod_nonneg _ hn, Int.emod_lt_of_pos _ h0, hd⟩

/-- Once in n. -/
theorem once_any (a : Option Addr) (len cap : Nat) (c : Nat) (n : Int) (w : World) (hC : Cur c a len cap w) (h0 : 0 < n) (h1 : n ≤ 256) :
    Calls Try.prog 48 #[.pointer (some ⟨c, 0, none⟩), .int .i64 n] w fun e w' => ∃ x : Bool, e = .returned (.bool x) ∧ Drawn c a len cap w w' := by
  go_enter Try.func48, Try.ntmps48
  go_wp2_with fail
  refine (below_any a len cap c n _ hC h0 h1).mono ?_
  rintro e w1 ⟨x, rfl, x0, x1, hd⟩
  go_wp2
  go_ret
  exact ⟨_, rfl, hd⟩
end Go.Proofs.Ytllpcbdecibloaa
namespace Go.Proofs.Ytllpcbdecibloaa
open Go.RowKit Pl Dr

theorem Drawn.start {c : Nat} {a : Option Addr} {len cap : Nat} {w : World} (h : Cur c a len cap w) : Drawn c a len cap w w := ⟨h, Ex.refl _ _⟩
theorem Drawn.trans {c : Nat} {a : Option Addr} {len cap : Nat} {w u v : World} (h : Drawn c a len cap w u) (k : Drawn c a len cap u v) : Drawn c a len cap w v := ⟨k.cur, h.ex.trans k.ex⟩
theorem Drawn.alloc {c : Nat} {a : Option Addr} {len cap : Nat} {w u : World} (h : Drawn c a len cap w u) (o : Obj) : Drawn c a len cap w (u.alloc o) := ⟨h.cur.alloc o, h.ex.alloc o⟩
theorem Drawn.drew {c : Nat} {a : Option Addr} {len cap : Nat} {w u : World} (h : Drawn c a len cap w u) : Drawn c a len cap w u.drew := ⟨h.cur.drew, h.ex.drew⟩
/-- A store into a block that is new since w. -/
theorem Drawn.store {c : Nat} {a : Option Addr} {len cap : Nat} {w u : World} (h : Drawn c a len cap w u) (hC : Cur c a len cap w) (p : Addr) (hp : w.heap.size ≤ p.block) (v : Value) : Drawn c a len cap w (u.setCell p v) := by
  have hne : p.block ≠ c := by have := hC.lt; omega
  refine ⟨h.cur.store hne ?_ v, ?_⟩
  · intro b off h0 e
    obtain ⟨_, _, k | ⟨b', off', k, hb, _⟩⟩ := hC.bytes
    · exact absurd k h0
    · rw [e] at k; cases k; omega
  · refine ⟨h.ex.os, h.ex.tape, h.ex.output, by simpa using h.ex.size, fun i hi hn => ?_⟩
    rw [Below.heap_setCell u p v i (by omega)]
    exact h.ex.block i hi hn
theorem Drawn.at {c : Nat} {a : Option Addr} {len cap : Nat} {w u : World} (h : Drawn c a len cap w u) (b : Nat) (hb : b < w.heap.size) (hn : b ≠ c) :
    (∀ o, u.cell? ⟨b, o, none⟩ = w.cell? ⟨b, o, none⟩) ∧ (∀ o, u.frozen? ⟨b, o, none⟩ = w.frozen? ⟨b, o, none⟩) :=
  ⟨fun _ => h.ex.cell hb hn, fun _ => h.ex.frozen hb hn⟩

def strsB (cs : Array Value) (n : Nat) : Bool := (List.range n).all fun i => match cs[i]? with | some (.string v) => decide (v.size ≤ 40) | _ => false
def intsB (cs : Array Value) (n : Nat) : Bool := (List.range n).all fun i => match cs[i]? with | some (.int .i64 _) => true | _ => false
theorem row_strs (w : World) (cs : Array Value) (t : TypeId) (n : Nat) (h : strsB cs n = true) : ∀ i, i < n → ∃ v : ByteArray, (w.alloc (.cells cs t)).cell? ⟨w.heap.size, i, none⟩ = some (.string v) ∧ v.size ≤ 40 := by
  intro i hi
  rw [World.cell?_alloc_new]
  have := (List.all_eq_true.1 h) i (List.mem_range.2 hi)
  split at this
  · rename_i v hv; exact ⟨v, hv, by simpa using this⟩
  · cases this
theorem row_ints (w : World) (cs : Array Value) (t : TypeId) (n : Nat) (h : intsB cs n = true) : ∀ i, i < n → ∃ v : Int, (w.alloc (.cells cs t)).cell? ⟨w.heap.size, i, none⟩ = some (.int .i64 v) := by
  intro i hi
  rw [World.cell?_alloc_new]
  have := (List.all_eq_true.1 h) i (List.mem_range.2 hi)
  split at this
  · rename_i v hv; exact ⟨v, hv⟩
  · cases this

theorem pickInt_any (a : Option Addr) (len cap : Nat) (c B n : Nat) (w : World) (hC : Cur c a len cap w) (hB : B < w.heap.size) (hBc : B ≠ c) (h0 : 0 < n) (h1 : n ≤ 256)
    (hcell : ∀ i, i < n → ∃ v : Int, w.cell? ⟨B, i, none⟩ = some (.int .i64 v)) :
    Calls Try.prog 102 #[.pointer (some ⟨c, 0, none⟩), .slice (some ⟨B, 0, none⟩) n n] w fun e w' => ∃ x : Int, e = .returned (.int .i64 x) ∧ Drawn c a len cap w w' := by
  go_enter Try.func102, Try.ntmps102
  go_wp2_with fail
  refine (below_any a len cap c n _ hC (by omega) (by omega)).mono ?_
  rintro e w1 ⟨x, rfl, x0, x1, hd⟩
  obtain ⟨k, rfl⟩ := Int.eq_ofNat_of_zero_le x0
  obtain ⟨v, hv⟩ := hcell k (by omega)
  have hv1 : w1.cell? ⟨B, k, none⟩ = some (.int .i64 v) := by rw [hd.ex.cell hB hBc]; exact hv
  clear hcell
  go_wp2
  go_ret
  exact ⟨_, rfl, hd⟩

theorem pick_any (a : Option Addr) (len cap : Nat) (c B n : Nat) (w : World) (hC : Cur c a len cap w) (hB : B < w.heap.size) (hBc : B ≠ c) (h0 : 0 < n) (h1 : n ≤ 256)
    (hcell : ∀ i, i < n → ∃ v : ByteArray, w.cell? ⟨B, i, none⟩ = some (.string v) ∧ v.size ≤ 40) :
    Calls Try.prog 100 #[.pointer (some ⟨c, 0, none⟩), .slice (some ⟨B, 0, none⟩) n n] w fun e w' => ∃ x : ByteArray, e = .returned (.string x) ∧ x.size ≤ 40 ∧ Drawn c a len cap w w' := by
  go_enter Try.func100, Try.ntmps100
  go_wp2_with fail
  refine (below_any a len cap c n _ hC (by omega) (by omega)).mono ?_
  rintro e w1 ⟨x, rfl, x0, x1, hd⟩
  obtain ⟨k, rfl⟩ := Int.eq_ofNat_of_zero_le x0
  obtain ⟨v, hv, hs⟩ := hcell k (by omega)
  have hv1 : w1.cell? ⟨B, k, none⟩ = some (.string v) := by rw [hd.ex.cell hB hBc]; exact hv
  clear hcell
  go_wp2
  go_ret
  exact ⟨_, rfl, hs, hd⟩

theorem Pl.Box3.drawn {N : Nat} {v0 v1 v2 : Value} {c : Nat} {a : Option Addr} {len cap : Nat} {w u : World} (h : Box3 N v0 v1 v2 w) (hd : Drawn c a len cap w u) (hn : N ≠ c) : Box3 N v0 v1 v2 u where
  lt := Nat.lt_of_lt_of_le h.lt hd.ex.size
  c0 := by rw [hd.ex.cell h.lt hn]; exact h.c0
  c1 := by rw [hd.ex.cell h.lt hn]; exact h.c1
  c2 := by rw [hd.ex.cell h.lt hn]; exact h.c2
  fr := fun o => by rw [hd.ex.frozen h.lt hn]; exact h.fr o

theorem msg_any (a : Option Addr) (len cap : Nat) (c : Nat) (w : World) (hC : Cur c a len cap w) :
    Calls Try.prog 46 #[.pointer (some ⟨c, 0, none⟩)] w fun e w' => ∃ (k n : Int) (s : ByteArray), e = .returned (.agg #[.int .i64 k, .int .i64 n, .string s]) ∧ s.size ≤ 40 ∧ Drawn c a len cap w w' := by
  have hlt := hC.lt
  have hne : w.heap.size ≠ c := by omega
  go_enter Try.func46, Try.ntmps46
  go_wp2_with fail
  refine (once_any a len cap c _ _ (hC.alloc _) (by omega) (by omega)).mono ?_
  rintro e w1 ⟨x, rfl, hd1⟩
  have b1 := (Box3.new w (.int .i64 0) (.int .i64 0) (.string ⟨#[]⟩) 25).drawn hd1 hne
  have hD1 : Drawn c a len cap w w1 := ((Drawn.start hC).alloc _).trans hd1
  clear hd1
  cases x
  · go_wp2_with fail
    refine (below_any a len cap c _ _ hD1.cur (by omega) (by omega)).mono ?_
    rintro e w2 ⟨n, rfl, n0, n1, hd2⟩
    have b2 := b1.drawn hd2 hne
    have hD2 := hD1.trans hd2
    clear hd2 hD1 b1
    go_wp2_with fail
    refine (once_any a len cap c _ _ hD2.cur (by omega) (by omega)).mono ?_
    rintro e w3 ⟨x, rfl, hd3⟩
    have b3 := b2.drawn hd3 hne
    have hD3 := hD2.trans hd3
    clear hd3 hD2 b2
    cases x
    · obtain ⟨l3, p0, p1, p2, fr⟩ := b3
      go_wp2
      refine bodyPost_ret (v := .agg #[.int .i64 1, .int .i64 (n - 10), .string ⟨#[]⟩]) (by simp [results, Try.results46, go_sem, p0, p1, p2]) rfl ⟨_, _, _, rfl, by decide, ?_⟩
      exact ((hD3.store hC _ (Nat.le_refl _) _).store hC _ (Nat.le_refl _) _).store hC _ (Nat.le_refl _) _
    · go_wp2_with fail
      refine (pickInt_any a len cap c w3.heap.size 3 _ (hD3.cur.alloc _) (by simp) (by have := hD3.cur.lt; omega) (by omega) (by omega) (row_ints _ _ _ _ (by decide))).mono ?_
      rintro e w4 ⟨x, rfl, hd4⟩
      obtain ⟨l4, p0, p1, p2, fr⟩ := (b3.alloc _).drawn hd4 hne
      have hD4 := (hD3.alloc _).trans hd4
      clear hd4 hD3
      go_wp2
      refine bodyPost_ret (v := .agg #[.int .i64 1, .int .i64 x, .string ⟨#[]⟩]) (by simp [results, Try.results46, go_sem, p0, p1, p2]) rfl ⟨_, _, _, rfl, by decide, ?_⟩
      exact ((hD4.store hC _ (Nat.le_refl _) _).store hC _ (Nat.le_refl _) _).store hC _ (Nat.le_refl _) _
  · go_wp2_with fail
    refine (pick_any a len cap c w1.heap.size 8 _ (hD1.cur.alloc _) (by simp) (by have := hD1.cur.lt; omega) (by omega) (by omega) (row_strs _ _ _ _ (by decide))).mono ?_
    rintro e w2 ⟨s, rfl, hs, hd2⟩
    obtain ⟨l2, p0, p1, p2, fr⟩ := (b1.alloc _).drawn hd2 hne
    have hD2 := (hD1.alloc _).trans hd2
    clear hd2 hD1
    go_wp2
    refine bodyPost_ret (v := .agg #[.int .i64 2, .int .i64 0, .string s]) (by simp [results, Try.results46, go_sem, p0, p1, p2]) rfl ⟨_, _, _, rfl, hs, ?_⟩
    exact ((hD2.store hC _ (Nat.le_refl _) _).store hC _ (Nat.le_refl _) _).store hC _ (Nat.le_refl _) _
end Go.Proofs.Ytllpcbdecibloaa
namespace Go.Proofs.Ytllpcbdecibloaa
open Go.RowKit Pl Dr

theorem anyMsg_any (a : Option Addr) (len cap : Nat) (c : Nat) (w : World) (hC : Cur c a len cap w) :
    Calls Try.prog 103 #[.pointer (some ⟨c, 0, none⟩)] w fun e w' => ∃ (k n : Int) (s : ByteArray), e = .returned (.agg #[.int .i64 k, .int .i64 n, .string s]) ∧ s.size ≤ 41 ∧ Drawn c a len cap w w' := by
  have hlt := hC.lt
  have hne : w.heap.size ≠ c := by omega
  go_enter Try.func103, Try.ntmps103
  go_wp2_with fail
  refine (msg_any a len cap c _ (hC.alloc _)).mono ?_
  rintro e w1 ⟨k, n, s, rfl, hs, hd1⟩
  have b1 := (Box3.new w (.int .i64 0) (.int .i64 0) (.string ⟨#[]⟩) 25).drawn hd1 hne
  have hD1 : Drawn c a len cap w w1 := ((Drawn.start hC).alloc _).trans hd1
  have hN := b1.lt
  have hn1 : ¬ w.heap.size = w1.heap.size := by omega
  have hn2 : ¬ w1.heap.size = w.heap.size := by omega
  have hne1 : w1.heap.size ≠ c := by omega
  clear hd1
  go_wp2_with fail
  refine (once_any a len cap c _ _ (hD1.cur.alloc _) (by omega) (by omega)).mono ?_
  rintro e w2 ⟨x, rfl, hd2⟩
  have m2 := (Box3.new w1 (.int .i64 k) (.int .i64 n) (.string s) 25).drawn hd2 hne1
  have b2 := (b1.alloc _).drawn hd2 hne
  have hD2 := (hD1.alloc _).trans hd2
  clear hd2 hD1 b1
  cases x
  · obtain ⟨l2, p0, p1, p2, fr⟩ := b2
    obtain ⟨l2', m0, m1, m2, fr'⟩ := m2
    go_wp2
    refine bodyPost_ret (v := .agg #[.int .i64 k, .int .i64 n, .string s]) (by simp [results, Try.results103, go_sem, p0, p1, p2]) rfl ⟨_, _, _, rfl, by omega, ?_⟩
    repeat (first | exact hD2 | refine Drawn.store ?_ hC _ (by simp; try omega) _)
  · go_wp2_with fail
    refine (below_any a len cap c _ _ hD2.cur (by omega) (by omega)).mono ?_
    rintro e w3 ⟨x, rfl, x0, x1, hd3⟩
    have m3 := m2.drawn hd3 hne1
    have b3 := b2.drawn hd3 hne
    have hD3 := hD2.trans hd3
    clear hd3 hD2 b2 m2
    obtain rfl | rfl | rfl | rfl | rfl : x = 0 ∨ x = 1 ∨ x = 2 ∨ x = 3 ∨ x = 4 := by omega
    · go_wp2_with fail
      refine (below_any a len cap c _ _ hD3.cur (by omega) (by omega)).mono ?_
      rintro e w4 ⟨y, rfl, y0, y1, hd4⟩
      obtain ⟨l2', m0, m1, m2, fr'⟩ := m3.drawn hd4 hne1
      obtain ⟨l2, p0, p1, p2, fr⟩ := b3.drawn hd4 hne
      have hD4 := hD3.trans hd4
      clear hd4 hD3 b3 m3
      go_wp2
      refine bodyPost_ret (v := .agg #[.int .i64 (y - 1), .int .i64 n, .string s]) (by simp [results, Try.results103, go_sem, p0, p1, p2]) rfl ⟨_, _, _, rfl, by omega, ?_⟩
      repeat (first | exact hD4 | refine Drawn.store ?_ hC _ (by simp; try omega) _)
    · go_wp2_with fail
      refine (pickInt_any a len cap c w3.heap.size 3 _ (hD3.cur.alloc _) (by simp) (by have := hD3.cur.lt; omega) (by omega) (by omega) (row_ints _ _ _ _ (by decide))).mono ?_
      rintro e w4 ⟨y, rfl, hd4⟩
      obtain ⟨l2', m0, m1, m2, fr'⟩ := (m3.alloc _).drawn hd4 hne1
      obtain ⟨l2, p0, p1, p2, fr⟩ := (b3.alloc _).drawn hd4 hne
      have hD4 := (hD3.alloc _).trans hd4
      clear hd4 hD3 b3 m3
      go_wp2
      refine bodyPost_ret (v := .agg #[.int .i64 k, .int .i64 y, .string s]) (by simp [results, Try.results103, go_sem, p0, p1, p2]) rfl ⟨_, _, _, rfl, by omega, ?_⟩
      repeat (first | exact hD4 | refine Drawn.store ?_ hC _ (by simp; try omega) _)
    · obtain ⟨l2', m0, m1, m2, fr'⟩ := m3
      obtain ⟨l2, p0, p1, p2, fr⟩ := b3
      go_wp2
      refine bodyPost_ret (v := .agg #[.int .i64 k, .int .i64 n, .string (s ++ ⟨#[34]⟩)]) (by simp [results, Try.results103, go_sem, p0, p1, p2]) rfl ⟨_, _, _, rfl, by rw [ByteArray.size_append]; have z : ∀ b : UInt8, (ByteArray.mk #[b]).size = 1 := fun _ => rfl; rw [z]; omega, ?_⟩
      repeat (first | exact hD3 | refine Drawn.store ?_ hC _ (by simp; try omega) _)
    · obtain ⟨l2', m0, m1, m2, fr'⟩ := m3
      obtain ⟨l2, p0, p1, p2, fr⟩ := b3
      go_wp2
      refine bodyPost_ret (v := .agg #[.int .i64 k, .int .i64 n, .string (s ++ ⟨#[10]⟩)]) (by simp [results, Try.results103, go_sem, p0, p1, p2]) rfl ⟨_, _, _, rfl, by rw [ByteArray.size_append]; have z : ∀ b : UInt8, (ByteArray.mk #[b]).size = 1 := fun _ => rfl; rw [z]; omega, ?_⟩
      repeat (first | exact hD3 | refine Drawn.store ?_ hC _ (by simp; try omega) _)
    · obtain ⟨l2', m0, m1, m2, fr'⟩ := m3
      obtain ⟨l2, p0, p1, p2, fr⟩ := b3
      go_wp2
      refine bodyPost_ret (v := .agg #[.int .i64 k, .int .i64 n, .string ⟨#[48, 49, 50, 51, 52, 53, 54, 55, 56, 57, 48, 49, 50, 51, 52, 53, 54, 55, 56, 57, 48, 49, 50, 51, 52, 53, 54, 55, 56, 57, 48, 49, 50, 51, 52, 53, 54, 55, 56, 57, 48]⟩]) (by simp [results, Try.results103, go_sem, p0, p1, p2]) rfl ⟨_, _, _, rfl, by decide, ?_⟩
      repeat (first | exact hD3 | refine Drawn.store ?_ hC _ (by simp; try omega) _)
end Go.Proofs.Ytllpcbdecibloaa
namespace Go.Proofs.Ytllpcbdecibloaa
open Go.RowKit Pl Dr

theorem Cur.new (w : World) (a : Option Addr) (len cap : Nat) (h : Int) (t : TypeId) (hB : Bytes w.heap.size w a len cap) :
    Cur w.heap.size a len cap (w.alloc (.cells #[.slice a len cap, .int .i64 0, .int .i64 h] t)) :=
  ⟨by simp, hB.keep (Ex.of (bl_alloc (Below.refl _ _) _)), by simp, ⟨0, Nat.zero_le _, by simp⟩, ⟨h, by simp⟩, by simp [go_sem], by simp [go_sem]⟩

theorem new_nil (a : Option Addr) (cap : Nat) (w : World) (hB : Bytes w.heap.size w a 0 cap) :
    Calls Try.prog 45 #[.slice a 0 cap] w fun e w' => e = .returned (.pointer (some ⟨w.heap.size, 0, none⟩)) ∧ Cur w.heap.size a 0 cap w' ∧ Below w.heap.size w w' := by
  go_enter Try.func45, Try.ntmps45
  go_wp2
  go_loop [3, 4] (fun h i => i = .int .i64 0 ∧ ∃ n : Int, h = .int .i64 n) (fun _ _ => 0)
  case atStart => exact ⟨rfl, _, rfl⟩
  case round =>
    obtain ⟨rfl, n, rfl⟩ := hrel
    go_wp2
    go_ret
    exact ⟨rfl, Cur.new w a 0 cap n _ hB, bl_alloc (Below.refl _ _) _⟩

theorem new_row (b off len cap : Nat) (w : World) (hB : Bytes w.heap.size w (some ⟨b, off, none⟩) len cap) (hl : len ≤ 1048577)
    (hc : ∀ i, i < len → ∃ n : Int, w.cell? ⟨b, off + i, none⟩ = some (.int .u8 n) ∧ 0 ≤ n ∧ n ≤ 255) :
    Calls Try.prog 45 #[.slice (some ⟨b, off, none⟩) len cap] w fun e w' => e = .returned (.pointer (some ⟨w.heap.size, 0, none⟩)) ∧ Cur w.heap.size (some ⟨b, off, none⟩) len cap w' ∧ Below w.heap.size w w' := by
  go_enter Try.func45, Try.ntmps45
  go_wp2
  go_loop [3, 4] (fun h i => (∃ k : Nat, k ≤ len ∧ i = .int .i64 k) ∧ ∃ n : Int, h = .int .i64 n) (fun _ i => len - (intOf i).toNat)
  case atStart => exact ⟨⟨0, Nat.zero_le _, rfl⟩, _, rfl⟩
  case round =>
    obtain ⟨⟨k, hk, rfl⟩, n, rfl⟩ := hrel
    by_cases hlt : k < len
    · obtain ⟨x, hx, x0, x1⟩ := hc k hlt
      by_cases h4 : (k : Int) < 4000
      · go_wp2
        go_round
        case rel => exact ⟨⟨k + 1, by omega, by go_num⟩, _, rfl⟩
        case measure => simp [intOf]; omega
      · go_wp2
        go_ret
        exact ⟨rfl, Cur.new w _ len cap n _ hB, bl_alloc (Below.refl _ _) _⟩
    · go_wp2
      go_ret
      exact ⟨rfl, Cur.new w _ len cap n _ hB, bl_alloc (Below.refl _ _) _⟩

theorem new_any (a : Option Addr) (len cap : Nat) (w : World) (hB : Bytes w.heap.size w a len cap) :
    Calls Try.prog 45 #[.slice a len cap] w fun e w' => e = .returned (.pointer (some ⟨w.heap.size, 0, none⟩)) ∧ Cur w.heap.size a len cap w' ∧ Below w.heap.size w w' := by
  obtain ⟨hl, _, rfl | ⟨b, off, rfl, hb, hn, hc⟩⟩ := id hB
  · exact new_nil a cap w hB
  · exact new_row b off len cap w hB hl hc
end Go.Proofs.Ytllpcbdecibloaa
namespace Go.Proofs.Ytllpcbdecibloaa
open Go.RowKit Pl

theorem l1Plain_any (s : ByteArray) (w : World) (hs : s.size ≤ maxLen) :
    Calls Try.prog 52 #[.string s] w fun e w' => e = .returned (.bool (plainB s)) ∧ w' = w := by
  unfold maxLen at hs
  go_enter Try.func52, Try.ntmps52
  go_wp2
  · go_ret
    exact ⟨ret_bool (plain_long s (by assumption)).symm, rfl⟩
  go_loop [3] (fun i => ∃ k : Nat, k ≤ s.size ∧ i = .int .i64 k ∧ plainL (s.data.toList.take k) = true) (fun i => s.size - (intOf i).toNat)
  case atStart => exact ⟨0, Nat.zero_le _, rfl, rfl⟩
  case round =>
    obtain ⟨k, hk, rfl, hp⟩ := hrel
    by_cases hlt : k < s.size
    · go_wp2
      all_goals first
        | (go_ret; exact ⟨ret_bool (plain_bad s k hlt (good_no _ (by (try simp only [beq_iff_eq] at *); omega))).symm, rfl⟩)
        | (go_round
           case rel => exact ⟨k + 1, by omega, by go_num, plain_step s k hlt hp (good_yes _ (by omega) (by omega) (by (try simp only [beq_eq_false_iff_ne] at *); omega))⟩
           case measure => simp [intOf]; omega)
    · go_wp2
      go_ret
      exact ⟨ret_bool (plain_all s k (by omega) (by omega) hp).symm, rfl⟩

theorem right_text (s : ByteArray) (w : World) (hs : s.size ≤ maxLen) :
    Calls Try.prog 209 #[.string s] w fun e w' => e = .returned (.bool (plainB s)) ∧ w' = w := by
  unfold maxLen at hs
  go_enter Try.func209, Try.ntmps209
  go_wp2
  · go_ret
    exact ⟨ret_bool (plain_long s (by assumption)).symm, rfl⟩
  go_loop [3] (fun i => ∃ k : Nat, k ≤ s.size ∧ i = .int .i64 k ∧ plainL (s.data.toList.take k) = true) (fun i => s.size - (intOf i).toNat)
  case atStart => exact ⟨0, Nat.zero_le _, rfl, rfl⟩
  case round =>
    obtain ⟨k, hk, rfl, hp⟩ := hrel
    by_cases hlt : k < s.size
    · go_wp2
      all_goals first
        | (go_ret; exact ⟨ret_bool (plain_bad s k hlt (good_no _ (by (try simp only [beq_iff_eq] at *); omega))).symm, rfl⟩)
        | (go_round
           case rel => exact ⟨k + 1, by omega, by go_num, plain_step s k hlt hp (good_yes _ (by omega) (by omega) (by (try simp only [beq_eq_false_iff_ne] at *); omega))⟩
           case measure => simp [intOf]; omega)
    · go_wp2
      go_ret
      exact ⟨ret_bool (plain_all s k (by omega) (by omega) hp).symm, rfl⟩

theorem right_num (n : Int) (w : World) :
    Calls Try.prog 206 #[.int .i64 n] w fun e w' => e = .returned (.bool (okNum n)) ∧ w' = w := by
  go_enter Try.func206, Try.ntmps206
  go_wp2
  all_goals go_ret
  all_goals (refine ⟨ret_bool ?_, rfl⟩; simp [okNum]; try omega)

theorem l1In_any (n a b : Int) (w : World) :
    Calls Try.prog 51 #[.int .i64 n, .int .i64 a, .int .i64 b] w fun e w' => e = .returned (.bool (decide (a ≤ n) && decide (n ≤ b))) ∧ w' = w := by
  go_enter Try.func51, Try.ntmps51
  go_wp2
  all_goals go_ret
  all_goals (refine ⟨ret_bool ?_, rfl⟩; simp; try omega)

theorem msg_num (n : Int) (w : World) :
    Calls Try.prog 205 #[.int .i64 n] w fun e w' => e = .returned (.agg #[.int .i64 1, .int .i64 n, .string ⟨#[]⟩]) ∧ w' = w.alloc (.cells #[.int .i64 1, .int .i64 n, .string ⟨#[]⟩] 25) := by
  go_enter Try.func205, Try.ntmps205
  go_wp2
  refine bodyPost_ret (v := .agg #[.int .i64 1, .int .i64 n, .string ⟨#[]⟩]) (by simp [results, Try.results205, go_sem]) rfl ⟨rfl, ?_⟩
  rfl

theorem msg_text (s : ByteArray) (w : World) :
    Calls Try.prog 208 #[.string s] w fun e w' => e = .returned (.agg #[.int .i64 2, .int .i64 0, .string s]) ∧ w' = w.alloc (.cells #[.int .i64 2, .int .i64 0, .string s] 25) := by
  go_enter Try.func208, Try.ntmps208
  go_wp2
  refine bodyPost_ret (v := .agg #[.int .i64 2, .int .i64 0, .string s]) (by simp [results, Try.results208, go_sem]) rfl ⟨rfl, ?_⟩
  rfl

theorem specMsgOk_any (k n : Int) (s : ByteArray) (w : World) (hs : s.size ≤ maxLen) :
    Calls Try.prog 15 #[.agg #[.int .i64 k, .int .i64 n, .string s]] w fun e w' => e = .returned (.bool (okB k n s)) ∧ Below w.heap.size w w' := by
  go_enter Try.func15, Try.ntmps15
  go_wp2_with (first | (go_at_call 51; refine (l1In_any _ _ _ _).mono ?_; rintro e w' ⟨rfl, rfl⟩) | (go_at_call 52; refine (l1Plain_any _ _ hs).mono ?_; rintro e w' ⟨rfl, rfl⟩))
  · go_ret
    exact ⟨ret_bool (ok_num (by assumption) (by assumption)).symm, bl_alloc (Below.refl _ _) _⟩
  · go_ret
    exact ⟨ret_bool (ok_numNo (by assumption) (by assumption)).symm, bl_alloc (Below.refl _ _) _⟩
  · have hn : n = 0 := by assumption
    subst hn
    go_ret
    exact ⟨ret_bool (ok_text (by assumption) (by assumption)).symm, bl_alloc (Below.refl _ _) _⟩
  · go_ret
    exact ⟨ret_bool (ok_textNo (by assumption) (by assumption) (by assumption)).symm, bl_alloc (Below.refl _ _) _⟩
  · go_ret
    exact ⟨ret_bool (ok_none (by assumption) (by assumption)).symm, bl_alloc (Below.refl _ _) _⟩

end Go.Proofs.Ytllpcbdecibloaa
namespace Go.Proofs.Ytllpcbdecibloaa
open Go.RowKit Pl

theorem meth_msg_num (n : Int) (w : World) : (method 346 153 (.int .i64 n) "loop.example/g00098/impl.msg").run Try.prog w = .ok (205, .int .i64 n) w := by kernel_rfl
theorem meth_right_num (n : Int) (w : World) : (method 346 153 (.int .i64 n) "loop.example/g00098/impl.right").run Try.prog w = .ok (206, .int .i64 n) w := by kernel_rfl
theorem meth_msg_text (s : ByteArray) (w : World) : (method 346 154 (.string s) "loop.example/g00098/impl.msg").run Try.prog w = .ok (208, .string s) w := by kernel_rfl
theorem meth_right_text (s : ByteArray) (w : World) : (method 346 154 (.string s) "loop.example/g00098/impl.right").run Try.prog w = .ok (209, .string s) w := by kernel_rfl

def yes (t : TypeId) (v : Value) : Ending := .returned (.tuple #[.iface t v, .bool true])
def no : Ending := .returned (.tuple #[.nilIface, .bool false])

theorem body_num_yes (n : Int) (s : ByteArray) (w : World) (hs : s.toList = []) (hn : okNum n = true) :
    Calls Try.prog 49 #[.agg #[.int .i64 1, .int .i64 n, .string s]] w fun e w' => e = yes 153 (.int .i64 n) ∧ Below w.heap.size w w' := by
  have m1 := meth_msg_num n
  have m2 := meth_right_num n
  go_enter Try.func49, Try.ntmps49
  go_wp2_with fail
  first | (go_region_with (first | (go_at_call 205; refine (msg_num _ _).mono ?_; rintro e w' ⟨rfl, rfl⟩) | (go_at_call 206; refine (right_num _ _).mono ?_; rintro e w' ⟨rfl, rfl⟩))) | fail
  all_goals
    go_wp2
    go_ret2
    exact ⟨rfl, by repeat (first | exact Below.refl _ _ | apply Below.drew | apply bl_alloc)⟩

theorem body_num_no (n : Int) (s : ByteArray) (w : World) (hs : s.toList = []) (hn : okNum n = false) :
    Calls Try.prog 49 #[.agg #[.int .i64 1, .int .i64 n, .string s]] w fun e w' => e = no ∧ Below w.heap.size w w' := by
  have m1 := meth_msg_num n
  have m2 := meth_right_num n
  go_enter Try.func49, Try.ntmps49
  go_wp2_with fail
  first | (go_region_with (first | (go_at_call 205; refine (msg_num _ _).mono ?_; rintro e w' ⟨rfl, rfl⟩) | (go_at_call 206; refine (right_num _ _).mono ?_; rintro e w' ⟨rfl, rfl⟩))) | fail
  all_goals
    go_wp2
    go_ret2
    exact ⟨rfl, by repeat (first | exact Below.refl _ _ | apply Below.drew | apply bl_alloc)⟩

theorem body_num_not (n : Int) (s : ByteArray) (w : World) (hs : ¬ s.toList = []) :
    Calls Try.prog 49 #[.agg #[.int .i64 1, .int .i64 n, .string s]] w fun e w' => e = no ∧ Below w.heap.size w w' := by
  have m1 := meth_msg_num n
  have m2 := meth_right_num n
  go_enter Try.func49, Try.ntmps49
  go_wp2_with fail
  first | (go_region_with (first | (go_at_call 205; refine (msg_num _ _).mono ?_; rintro e w' ⟨rfl, rfl⟩) | (go_at_call 206; refine (right_num _ _).mono ?_; rintro e w' ⟨rfl, rfl⟩))) | fail
  all_goals
    go_wp2
    go_ret2
    exact ⟨rfl, by repeat (first | exact Below.refl _ _ | apply Below.drew | apply bl_alloc)⟩
end Go.Proofs.Ytllpcbdecibloaa
namespace Go.Proofs.Ytllpcbdecibloaa
open Go.RowKit Pl

theorem body_text_yes (s : ByteArray) (w : World) (hm : s.size ≤ maxLen) (hn : plainB s = true) :
    Calls Try.prog 49 #[.agg #[.int .i64 2, .int .i64 0, .string s]] w fun e w' => e = yes 154 (.string s) ∧ Below w.heap.size w w' := by
  have m1 := meth_msg_text s
  have m2 := meth_right_text s
  go_enter Try.func49, Try.ntmps49
  go_wp2_with fail
  first | (go_region_with (first | (go_at_call 208; refine (msg_text _ _).mono ?_; rintro e w' ⟨rfl, rfl⟩) | (go_at_call 209; refine (right_text _ _ hm).mono ?_; rintro e w' ⟨rfl, rfl⟩))) | fail
  all_goals
    go_wp2
    go_ret2
    exact ⟨rfl, by repeat (first | exact Below.refl _ _ | apply Below.drew | apply bl_alloc)⟩

theorem body_text_no (s : ByteArray) (w : World) (hm : s.size ≤ maxLen) (hn : plainB s = false) :
    Calls Try.prog 49 #[.agg #[.int .i64 2, .int .i64 0, .string s]] w fun e w' => e = no ∧ Below w.heap.size w w' := by
  have m1 := meth_msg_text s
  have m2 := meth_right_text s
  go_enter Try.func49, Try.ntmps49
  go_wp2_with fail
  first | (go_region_with (first | (go_at_call 208; refine (msg_text _ _).mono ?_; rintro e w' ⟨rfl, rfl⟩) | (go_at_call 209; refine (right_text _ _ hm).mono ?_; rintro e w' ⟨rfl, rfl⟩))) | fail
  all_goals
    go_wp2
    go_ret2
    exact ⟨rfl, by repeat (first | exact Below.refl _ _ | apply Below.drew | apply bl_alloc)⟩

theorem body_text_not (n : Int) (s : ByteArray) (w : World) (hn : ¬ n = 0) :
    Calls Try.prog 49 #[.agg #[.int .i64 2, .int .i64 n, .string s]] w fun e w' => e = no ∧ Below w.heap.size w w' := by
  have m1 := meth_msg_text s
  have m2 := meth_right_text s
  have hb : ((0 : Int) == n) = false := by simp; omega
  go_enter Try.func49, Try.ntmps49
  go_wp2_with fail
  first | (go_region_with (first | (go_at_call 208; refine (msg_text _ _).mono ?_; rintro e w' ⟨rfl, rfl⟩))) | fail
  all_goals
    go_wp2
    go_ret2
    exact ⟨rfl, by repeat (first | exact Below.refl _ _ | apply Below.drew | apply bl_alloc)⟩

theorem body_none (k n : Int) (s : ByteArray) (w : World) (h1 : (k == 1) = false) (h2 : (k == 2) = false) :
    Calls Try.prog 49 #[.agg #[.int .i64 k, .int .i64 n, .string s]] w fun e w' => e = no ∧ Below w.heap.size w w' := by
  go_enter Try.func49, Try.ntmps49
  go_wp2
  go_ret2
  exact ⟨rfl, bl_alloc (Below.refl _ _) _⟩
end Go.Proofs.Ytllpcbdecibloaa
namespace Go.Proofs.Ytllpcbdecibloaa
open Go.RowKit Pl

def tyOf (k : Int) : TypeId := if k = 1 then 153 else 154
def valOf (k n : Int) (s : ByteArray) : Value := if k = 1 then .int .i64 n else .string s

theorem body_any (k n : Int) (s : ByteArray) (w : World) (hm : s.size ≤ maxLen) :
    Calls Try.prog 49 #[.agg #[.int .i64 k, .int .i64 n, .string s]] w fun e w' =>
      (okB k n s = true ∧ e = yes (tyOf k) (valOf k n s) ∨ okB k n s = false ∧ e = no) ∧ Below w.heap.size w w' := by
  by_cases h1 : k = 1
  · subst h1
    by_cases hs : s.toList = []
    · cases ho : okNum n
      · exact (body_num_no n s w hs ho).mono fun e w' ⟨he, hb⟩ => ⟨.inr ⟨by simp [okB, hs, ho], he⟩, hb⟩
      · exact (body_num_yes n s w hs ho).mono fun e w' ⟨he, hb⟩ => ⟨.inl ⟨by simp [okB, hs, ho], he⟩, hb⟩
    · exact (body_num_not n s w hs).mono fun e w' ⟨he, hb⟩ => ⟨.inr ⟨by simp [okB, hs], he⟩, hb⟩
  · by_cases h2 : k = 2
    · subst h2
      by_cases hn : n = 0
      · subst hn
        cases ho : plainB s
        · exact (body_text_no s w hm ho).mono fun e w' ⟨he, hb⟩ => ⟨.inr ⟨by simp [okB, ho], he⟩, hb⟩
        · exact (body_text_yes s w hm ho).mono fun e w' ⟨he, hb⟩ => ⟨.inl ⟨by simp [okB, ho], he⟩, hb⟩
      · exact (body_text_not n s w hn).mono fun e w' ⟨he, hb⟩ => ⟨.inr ⟨by simp [okB, hn], he⟩, hb⟩
    · exact (body_none k n s w (by simp [h1]) (by simp [h2])).mono fun e w' ⟨he, hb⟩ => ⟨.inr ⟨by simp [okB, h1, h2], he⟩, hb⟩

theorem implMsgOk_any (k n : Int) (s : ByteArray) (w : World) (hm : s.size ≤ maxLen) :
    Calls Try.prog 14 #[.agg #[.int .i64 k, .int .i64 n, .string s]] w fun e w' => e = .returned (.bool (okB k n s)) ∧ Below w.heap.size w w' := by
  go_enter Try.func14, Try.ntmps14
  go_wp2_with fail
  refine (body_any k n s _ hm).mono ?_
  rintro e w' ⟨⟨ho, rfl⟩ | ⟨ho, rfl⟩, hb⟩
  · unfold yes
    have hb' := bl_trans (bl_alloc (Below.refl _ _) _) hb
    go_wp2
    go_ret
    exact ⟨ret_bool ho.symm, hb'⟩
  · unfold no
    have hb' := bl_trans (bl_alloc (Below.refl _ _) _) hb
    go_wp2
    go_ret
    exact ⟨ret_bool ho.symm, hb'⟩

theorem szMsg_no (k n l : Int) (s : ByteArray) (w : World) (hm : s.size ≤ maxLen) (_h0 : 0 ≤ l) (_h1 : l ≤ 1048576) (hl : l < s.size) :
    Calls Try.prog 115 #[.agg #[.int .i64 k, .int .i64 n, .string s], .int .i64 l] w fun e w' => e = .returned (.int .i64 (-1)) ∧ Below w.heap.size w w' := by
  unfold maxLen at hm
  go_enter Try.func115, Try.ntmps115
  go_wp2
  all_goals go_ret
  exact ⟨rfl, bl_alloc (Below.refl _ _) _⟩
theorem szMsg_yes (k n l : Int) (s : ByteArray) (w : World) (hm : s.size ≤ maxLen) (_h0 : 0 ≤ l) (_h1 : l ≤ 1048576) (hl : (s.size : Int) ≤ l) :
    Calls Try.prog 115 #[.agg #[.int .i64 k, .int .i64 n, .string s], .int .i64 l] w fun e w' => e = .returned (.int .i64 (l - s.size)) ∧ Below w.heap.size w w' := by
  unfold maxLen at hm
  go_enter Try.func115, Try.ntmps115
  go_wp2
  all_goals go_ret
  exact ⟨rfl, bl_alloc (Below.refl _ _) _⟩
theorem szMsg_any (k n l : Int) (s : ByteArray) (w : World) (hm : s.size ≤ maxLen) (h0 : 0 ≤ l) (h1 : l ≤ 1048576) :
    Calls Try.prog 115 #[.agg #[.int .i64 k, .int .i64 n, .string s], .int .i64 l] w fun e w' =>
      ((l < s.size ∧ e = .returned (.int .i64 (-1))) ∨ ((s.size : Int) ≤ l ∧ e = .returned (.int .i64 (l - s.size)))) ∧ Below w.heap.size w w' := by
  by_cases hl : l < s.size
  · exact (szMsg_no k n l s w hm h0 h1 hl).mono fun e w' ⟨he, hb⟩ => ⟨.inl ⟨hl, he⟩, hb⟩
  · exact (szMsg_yes k n l s w hm h0 h1 (by omega)).mono fun e w' ⟨he, hb⟩ => ⟨.inr ⟨by omega, he⟩, hb⟩

theorem toMsg_any (k n : Int) (s : ByteArray) (w : World) :
    Calls Try.prog 118 #[.agg #[.int .i64 k, .int .i64 n, .string s]] w fun e w' => e = .returned (.agg #[.int .i64 k, .int .i64 n, .string s]) ∧ Below w.heap.size w w' := by
  go_enter Try.func118, Try.ntmps118
  go_wp2
  refine bodyPost_ret (v := .agg #[.int .i64 k, .int .i64 n, .string s]) (by simp [results, Try.results118, go_sem]) rfl ⟨rfl, ?_⟩
  repeat (first | exact Below.refl _ _ | apply Below.drew | apply bl_alloc)
end Go.Proofs.Ytllpcbdecibloaa
namespace Go.Proofs.Ytllpcbdecibloaa.Il
open Go.RowKit Pl

/-- The slice at a, of n elements, reads as xs in w. -/
structure IntsAt (w : World) (a : Option Addr) (n : Nat) (xs : List Int) : Prop where
  len : xs.length = n
  row : n = 0 ∨ ∃ b off, a = some ⟨b, off, none⟩ ∧ b < w.heap.size ∧ ∀ i, i < n → w.cell? ⟨b, off + i, none⟩ = some (.int .i64 (xs.getD i 0))
theorem IntsAt.keep {w w' : World} {a : Option Addr} {n : Nat} {xs : List Int} (h : IntsAt w a n xs) (hb : Below w.heap.size w w') : IntsAt w' a n xs := by
  refine ⟨h.len, ?_⟩
  rcases h.row with k | ⟨b, off, rfl, hlt, hc⟩
  · exact .inl k
  · exact .inr ⟨b, off, rfl, Nat.lt_of_lt_of_le hlt hb.size, fun i hi => by rw [hb.cell (p := ⟨b, off + i, none⟩) hlt]; exact hc i hi⟩
theorem IntsAt.nil (w : World) (a : Option Addr) : IntsAt w a 0 [] := ⟨rfl, .inl rfl⟩
/-- The elements from i on. -/
theorem IntsAt.drop {w : World} {b off n : Nat} {xs : List Int} (h : IntsAt w (some ⟨b, off, none⟩) n xs) (i : Nat) (hi : i ≤ n) : IntsAt w (some ⟨b, off + i, none⟩) (n - i) (xs.drop i) := by
  refine ⟨by rw [List.length_drop, h.len], ?_⟩
  rcases h.row with k | ⟨b', off', e, hlt, hc⟩
  · exact .inl (by omega)
  · cases e
    refine .inr ⟨b, off + i, rfl, hlt, fun j hj => ?_⟩
    rw [Nat.add_assoc, hc (i + j) (by omega)]
    simp [List.getD]
theorem IntsAt.take {w : World} {a : Option Addr} {n : Nat} {xs : List Int} (h : IntsAt w a n xs) (i : Nat) (hi : i ≤ n) : IntsAt w a i (xs.take i) := by
  refine ⟨by rw [List.length_take, h.len]; omega, ?_⟩
  rcases h.row with k | ⟨b, off, rfl, hlt, hc⟩
  · exact .inl (by omega)
  · refine .inr ⟨b, off, rfl, hlt, fun j hj => ?_⟩
    rw [hc j (by omega)]
    simp [List.getD, List.getElem?_take_of_lt hj]

/-- Its cells lie in blocks from B on, and may be written. -/
structure OwnAt (B : Nat) (w : World) (a : Option Addr) (n : Nat) (xs : List Int) : Prop where
  ints : IntsAt w a n xs
  own : n = 0 ∨ ∃ b off, a = some ⟨b, off, none⟩ ∧ B ≤ b ∧ ∀ i, i < n → w.frozen? ⟨b, off + i, none⟩ = false
theorem OwnAt.keep {B : Nat} {w w' : World} {a : Option Addr} {n : Nat} {xs : List Int} (h : OwnAt B w a n xs) (hb : Below w.heap.size w w') : OwnAt B w' a n xs := by
  refine ⟨h.ints.keep hb, ?_⟩
  rcases h.own with k | ⟨b, off, rfl, hB, hf⟩
  · exact .inl k
  · rcases h.ints.row with k | ⟨b', off', e, hlt, _⟩
    · exact .inl k
    · cases e
      exact .inr ⟨b, off, rfl, hB, fun i hi => by rw [hb.frozen (p := ⟨b, off + i, none⟩) hlt]; exact hf i hi⟩
theorem OwnAt.mono {B B' : Nat} {w : World} {a : Option Addr} {n : Nat} {xs : List Int} (h : OwnAt B w a n xs) (hB : B' ≤ B) : OwnAt B' w a n xs := by
  refine ⟨h.ints, ?_⟩
  rcases h.own with k | ⟨b, off, rfl, hb, hf⟩
  · exact .inl k
  · exact .inr ⟨b, off, rfl, Nat.le_trans hB hb, hf⟩

/-- What append's laws own is such a slice. -/
theorem own_of {B : Nat} {w : World} {v : Value} {n : Nat} {ys : List Value} (h : w.ownsRow B 3 1 v n ys) (xs : List Int) (hx : ys = xs.map (Value.int .i64)) : ∃ a cap, v = .slice a n cap ∧ OwnAt B w a n xs := by
  subst hx
  obtain ⟨hl, ⟨rfl, rfl⟩ | ⟨g, cap, cur, rfl, hB, hg, hc, hm, hs, ht⟩⟩ := h
  · have : xs = [] := List.length_eq_zero_iff.1 (by simpa using hl)
    subst this
    exact ⟨_, _, rfl, ⟨⟨rfl, .inl rfl⟩, .inl rfl⟩⟩
  · have hlen : xs.length = n := by simpa using hl
    have hlt : g < w.heap.size := by
      rcases Nat.lt_or_ge g w.heap.size with k | k
      · exact k
      · rw [Array.getElem?_eq_none k] at hg; cases hg
    refine ⟨_, _, rfl, ⟨⟨hlen, .inr ⟨g, 0, rfl, hlt, fun i hi => ?_⟩⟩, .inr ⟨g, 0, rfl, hB, fun i hi => ?_⟩⟩⟩
    · rw [Nat.zero_add, cell_of_row w g i cur 3 (0, 0) hg]
      have e : (xs.map (Value.int .i64))[i]? = (cur.toList.take (n * 1))[i]? := by rw [ht]
      rw [List.getElem?_take_of_lt (by omega)] at e
      rw [← Array.getElem?_toList, ← e]
      simp [List.getD, List.getElem?_eq_getElem (show i < xs.length by omega)]
    · rw [Nat.zero_add]
      simp [World.frozen?, hg]
theorem OwnAt.other {B : Nat} {w w' : World} {a : Option Addr} {n b : Nat} {xs : List Int} (h : OwnAt B w a n xs) (hg : w.grownBy w' (some b)) (hne : n = 0 ∨ ∀ b' off', a = some ⟨b', off', none⟩ → b ≠ b') : OwnAt B w' a n xs := by
  obtain ⟨⟨hl, hr⟩, ho⟩ := h
  rcases hne with h0 | hne
  · exact ⟨⟨hl, .inl h0⟩, .inl h0⟩
  · rcases hr with h0 | ⟨b1, off, rfl, hlt, hc⟩
    · exact ⟨⟨hl, .inl h0⟩, .inl h0⟩
    · have key : w'.heap[b1]? = w.heap[b1]? := hg.block b1 hlt (by intro e; cases e; exact hne _ _ rfl rfl)
      rcases ho with h0 | ⟨b', off', e, hB, hf⟩
      · exact ⟨⟨hl, .inl h0⟩, .inl h0⟩
      · cases e
        refine ⟨⟨hl, .inr ⟨b1, off, rfl, Nat.lt_of_lt_of_le hlt hg.size, fun i hi => ?_⟩⟩, .inr ⟨b1, off, rfl, hB, fun i hi => ?_⟩⟩
        · rw [← hc i hi]; exact World.cell?_of_block key
        · rw [← hf i hi]; exact World.frozen?_of_block key
/-- A store into an elder block. -/
theorem OwnAt.far {B : Nat} {w : World} {a : Option Addr} {n : Nat} {xs : List Int} (h : OwnAt B w a n xs) (b o : Nat) (hb : b < B) (x : Value) : OwnAt B (w.setCell ⟨b, o, none⟩ x) a n xs := by
  refine h.other (b := b) ⟨rfl, rfl, rfl, by simp, fun k _ hk => Below.heap_setCell _ _ _ _ (by rintro rfl; exact hk rfl)⟩ ?_
  rcases h.own with h0 | ⟨b', off', rfl, hB, _⟩
  · exact .inl h0
  · exact .inr fun b1 o1 e => by cases e; omega
theorem own_cap {B : Nat} {w : World} {a : Option Addr} {n cap : Nat} {ys : List Value} (h : w.ownsRow B 3 1 (.slice a n cap) n ys) : n ≤ cap := by
  obtain ⟨_, ⟨e, _⟩ | ⟨g, cap', cur, e, _, _, hc, _⟩⟩ := h
  · cases e; exact Nat.le_refl _
  · cases e; exact hc
/-- Every number of the list fits. -/
def wfL (xs : List Int) : Prop := ∀ x ∈ xs, (Lit.int .i64 x).wf = true
theorem wf_at {xs : List Int} (h : wfL xs) {k : Nat} (hk : k < xs.length) : (Lit.int .i64 (xs.getD k 0)).wf = true := by
  have e : xs.getD k 0 = xs[k] := by simp [List.getD, List.getElem?_eq_getElem hk]
  rw [e]; exact h _ (List.getElem_mem _)
theorem wf_take {xs : List Int} (h : wfL xs) (k : Nat) : wfL (xs.take k) := fun x hx => h x (List.mem_of_mem_take hx)
end Go.Proofs.Ytllpcbdecibloaa.Il
