/-
  What the draws leave alone: a cursor in block c, the bytes that it reads, and all other blocks.
-/
import Derived.Test.YtedaleonmcllkaaPlain
import Derived.WalkKit
import Derived.Laws.BitsLemmas
import Derived.Laws.Bits64
import Derived.Maps.Range
import Derived.Maps.AppendAt
import Derived.Deep.AppendLies
import Derived.Deep.Draws
namespace Go.Proofs.Ytedaleonmcllkaa.Dr
open Go.RowKit Pl

theorem and255 (x : Int) : 0 ≤ bits .and .i64 x 255 ∧ bits .and .i64 x 255 ≤ 255 := by
  unfold bits
  simp only
  have h : (BitVec.ofInt IntKind.i64.bits x &&& BitVec.ofInt IntKind.i64.bits 255).toNat ≤ 255 := by
    rw [BitVec.toNat_and]
    have e : (BitVec.ofInt IntKind.i64.bits 255).toNat = 255 := by decide
    rw [e]
    exact Nat.and_le_right
  generalize (BitVec.ofInt IntKind.i64.bits x &&& BitVec.ofInt IntKind.i64.bits 255).toNat = m at h
  rw [IntKind.wrap_i64]
  omega

/-- Of what w held nothing has turned but block c. -/
abbrev Ex (c : Nat) (w w' : World) : Prop := w.grownBy w' (some c)
theorem Ex.refl (c : Nat) (w : World) : Ex c w w := ⟨rfl, rfl, rfl, Nat.le_refl _, fun _ _ _ => rfl⟩
theorem Ex.trans {c : Nat} {a b d : World} (h : Ex c a b) (k : Ex c b d) : Ex c a d :=
  ⟨k.os.trans h.os, k.tape.trans h.tape, k.output.trans h.output, Nat.le_trans h.size k.size, fun i hi hn => (k.block i (Nat.lt_of_lt_of_le hi h.size) hn).trans (h.block i hi hn)⟩
theorem Ex.of {c : Nat} {w w' : World} (h : Below w.heap.size w w') : Ex c w w' := ⟨h.os, h.tape, h.output, h.size, fun i hi _ => h.block i hi⟩
theorem Ex.below {c B : Nat} {w w' : World} (h : Ex c w w') (hB : B ≤ c) (hw : B ≤ w.heap.size) : Below B w w' :=
  ⟨h.os, h.tape, h.output, h.size, fun i hi => h.block i (by omega) (by simp; omega)⟩
theorem Ex.alloc {c : Nat} {a w : World} (h : Ex c a w) (o : Obj) : Ex c a (w.alloc o) := h.trans (Ex.of (bl_alloc (Below.refl _ _) o))
theorem Ex.drew {c : Nat} {a w : World} (h : Ex c a w) : Ex c a w.drew := ⟨h.os, h.tape, h.output, h.size, h.block⟩
theorem Ex.drewN {c : Nat} {a w : World} (h : Ex c a w) (n : Nat) : Ex c a (w.drewN n) := ⟨h.os, h.tape, h.output, h.size, h.block⟩
theorem Ex.setCell {c : Nat} {a w : World} (h : Ex c a w) (p : Addr) (hp : p.block = c) (v : Value) : Ex c a (w.setCell p v) := by
  refine h.trans ⟨rfl, rfl, rfl, by simp, fun i _ hn => Below.heap_setCell w p v i ?_⟩
  rintro rfl; exact hn (by rw [hp])
theorem Ex.cell {c : Nat} {w w' : World} (h : Ex c w w') {b o : Nat} (hb : b < w.heap.size) (hn : b ≠ c) : w'.cell? ⟨b, o, none⟩ = w.cell? ⟨b, o, none⟩ :=
  h.cell_far ⟨b, o, none⟩ hb (by simp [hn])
theorem Ex.frozen {c : Nat} {w w' : World} (h : Ex c w w') {b o : Nat} (hb : b < w.heap.size) (hn : b ≠ c) : w'.frozen? ⟨b, o, none⟩ = w.frozen? ⟨b, o, none⟩ :=
  h.frozen_far ⟨b, o, none⟩ hb (by simp [hn])

/-- A slice of bytes that is only read, not in block c: empty, or a row of cells, each a byte. -/
def Bytes (c : Nat) (w : World) (a : Option Addr) (len cap : Nat) : Prop :=
  len ≤ 1048577 ∧ cap ≤ maxLen ∧ (len = 0 ∨ ∃ b off : Nat, a = some ⟨b, off, none⟩ ∧ b < w.heap.size ∧ b ≠ c ∧ ∀ i, i < len → ∃ n : Int, w.cell? ⟨b, off + i, none⟩ = some (.int .u8 n) ∧ 0 ≤ n ∧ n ≤ 255)
theorem Bytes.keep {c : Nat} {w w' : World} {a : Option Addr} {len cap : Nat} (h : Bytes c w a len cap) (hx : Ex c w w') : Bytes c w' a len cap := by
  obtain ⟨hl, hm, h | ⟨b, off, rfl, hb, hn, hc⟩⟩ := h
  · exact ⟨hl, hm, .inl h⟩
  · refine ⟨hl, hm, .inr ⟨b, off, rfl, Nat.lt_of_lt_of_le hb hx.size, hn, fun i hi => ?_⟩⟩
    rw [hx.cell hb hn]; exact hc i hi

/-- A cursor in block c over these bytes. -/
structure Cur (c : Nat) (a : Option Addr) (len cap : Nat) (w : World) : Prop where
  lt : c < w.heap.size
  bytes : Bytes c w a len cap
  at0 : w.cell? ⟨c, 0, none⟩ = some (.slice a len cap)
  at1 : ∃ i : Nat, i ≤ len ∧ w.cell? ⟨c, 1, none⟩ = some (.int .i64 i)
  at2 : ∃ h : Int, w.cell? ⟨c, 2, none⟩ = some (.int .i64 h)
  fr1 : w.frozen? ⟨c, 1, none⟩ = false
  fr2 : w.frozen? ⟨c, 2, none⟩ = false
theorem Cur.keep {c : Nat} {a : Option Addr} {len cap : Nat} {w w' : World} (h : Cur c a len cap w) (hb : Below w.heap.size w w') : Cur c a len cap w' where
  lt := Nat.lt_of_lt_of_le h.lt hb.size
  bytes := h.bytes.keep (Ex.of hb)
  at0 := by rw [hb.cell (p := ⟨c, 0, none⟩) h.lt]; exact h.at0
  at1 := by rw [hb.cell (p := ⟨c, 1, none⟩) h.lt]; exact h.at1
  at2 := by rw [hb.cell (p := ⟨c, 2, none⟩) h.lt]; exact h.at2
  fr1 := by rw [hb.frozen (p := ⟨c, 1, none⟩) h.lt]; exact h.fr1
  fr2 := by rw [hb.frozen (p := ⟨c, 2, none⟩) h.lt]; exact h.fr2
theorem Cur.alloc {c : Nat} {a : Option Addr} {len cap : Nat} {w : World} (h : Cur c a len cap w) (o : Obj) : Cur c a len cap (w.alloc o) := h.keep (bl_alloc (Below.refl _ _) o)
theorem Cur.drew {c : Nat} {a : Option Addr} {len cap : Nat} {w : World} (h : Cur c a len cap w) : Cur c a len cap w.drew := h.keep (Below.refl _ _).drew
theorem Cur.drewN {c : Nat} {a : Option Addr} {len cap : Nat} {w : World} (h : Cur c a len cap w) (n : Nat) : Cur c a len cap (w.drewN n) :=
  h.keep ⟨rfl, rfl, rfl, Nat.le_refl _, fun _ _ => rfl⟩
theorem Cur.wrote2 {c : Nat} {a : Option Addr} {len cap : Nat} {w : World} (h : Cur c a len cap w) (x : Int) : Cur c a len cap (w.setCell ⟨c, 2, none⟩ (.int .i64 x)) := by
  obtain ⟨y, hy⟩ := h.at2
  refine ⟨by simpa using h.lt, h.bytes.keep ((Ex.refl _ _).setCell _ rfl _), ?_, ?_, ⟨x, World.cell?_setCell_same _ _ _ hy⟩, by simpa using h.fr1, by simpa using h.fr2⟩
  · rw [World.cell?_setCell_other _ _ _ _ (by simp)]; exact h.at0
  · rw [World.cell?_setCell_other _ _ _ _ (by simp)]; exact h.at1
theorem Cur.wrote1 {c : Nat} {a : Option Addr} {len cap : Nat} {w : World} (h : Cur c a len cap w) (v : Int) (i : Nat) (hv : v = (i : Int)) (hi : i ≤ len) : Cur c a len cap (w.setCell ⟨c, 1, none⟩ (.int .i64 v)) := by
  subst hv
  obtain ⟨y, _, hy⟩ := h.at1
  refine ⟨by simpa using h.lt, h.bytes.keep ((Ex.refl _ _).setCell _ rfl _), ?_, ⟨i, hi, World.cell?_setCell_same _ _ _ hy⟩, ?_, by simpa using h.fr1, by simpa using h.fr2⟩
  · rw [World.cell?_setCell_other _ _ _ _ (by simp)]; exact h.at0
  · rw [World.cell?_setCell_other _ _ _ _ (by simp)]; exact h.at2
/-- A store into another block. -/
theorem Cur.store {c : Nat} {a : Option Addr} {len cap : Nat} {w : World} (h : Cur c a len cap w) {p : Addr} (hp : p.block ≠ c) (hq : ∀ b off, len ≠ 0 → a = some ⟨b, off, none⟩ → b ≠ p.block) (v : Value) : Cur c a len cap (w.setCell p v) := by
  have hx : ∀ k, k ≠ p.block → (w.setCell p v).heap[k]? = w.heap[k]? := fun k hk => Below.heap_setCell w p v k hk
  have hcell : ∀ o, (w.setCell p v).cell? ⟨c, o, none⟩ = w.cell? ⟨c, o, none⟩ := fun o => World.cell?_of_block (w := w) (hx c (Ne.symm hp))
  have hfr : ∀ o, (w.setCell p v).frozen? ⟨c, o, none⟩ = w.frozen? ⟨c, o, none⟩ := fun o => World.frozen?_of_block (w := w) (hx c (Ne.symm hp))
  refine ⟨by simpa using h.lt, ?_, by rw [hcell]; exact h.at0, by rw [hcell]; exact h.at1, by rw [hcell]; exact h.at2, by rw [hfr]; exact h.fr1, by rw [hfr]; exact h.fr2⟩
  obtain ⟨hl, hm, k | ⟨b, off, rfl, hb, hn, hc⟩⟩ := h.bytes
  · exact ⟨hl, hm, .inl k⟩
  · refine ⟨hl, hm, .inr ⟨b, off, rfl, by simpa using hb, hn, fun i hi => ?_⟩⟩
    have : (w.setCell p v).cell? ⟨b, off + i, none⟩ = w.cell? ⟨b, off + i, none⟩ := World.cell?_of_block (w := w) (hx b (hq _ _ (by omega) rfl))
    rw [this]; exact hc i hi
end Go.Proofs.Ytedaleonmcllkaa.Dr
