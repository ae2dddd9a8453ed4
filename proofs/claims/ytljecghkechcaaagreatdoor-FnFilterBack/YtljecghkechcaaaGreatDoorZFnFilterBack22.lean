/-
  What the draws leave alone: a cursor in block c, the bytes that it reads, and all other blocks.
  Walks of the specification's draws: whatever the bytes, a byte is drawn, and the cursor stays a cursor.
  Walks of the specification's draws: one out of a list; a message that is right.
  Walks of the specification's draws: any message, and two messages.
  Walks of the specification's draws: a new cursor; two messages.
-/
import Derived.Test.YtljecghkechcaaaGreatDoorZFnFilterBack3
import Derived.WalkKit
import Derived.Laws.BitsLemmas
import Derived.Laws.Bits64
import Derived.Maps.Range
import Derived.Maps.AppendAt
import Derived.Deep.AppendLies
import Derived.Deep.Draws
import Derived.Test.YtljecghkechcaaaGreatDoorRows
import Derived.WalkSpells
import Derived.WalkLawsBesides
import Derived.RowKit3
import Derived.Deep.RegionHeld3
import Derived.Deep.RegionWith
import Derived.Deep.QuietTactic
import Derived.BigQuiet
namespace Go.Proofs.YtljecghkechcaaaGreatDoor.Dr
open Go.RowKit Pl

theorem and255 (x : Int) : 0 ≤ bits .and .i64 x 255 ∧ bits .and .i64 x 255 ≤ 255 := by
  unfold bits
  simp only
  have h : (BitVec.ofInt IntKind.i64.bits x &&& BitVec.ofInt IntKind.i64.bits 255).toNat ≤ 255 := by
    rw [BitVec.toNat_and]
    have e : (BitVec.ofInt IntKind.i64.bits 255).toNat = 255 := by decide
    rw [e]
    exact Nat.and_le_right
  generalize (BitVec.ofInt IntKind.i64.bits x &&& BitVec.ofInt IntKind.i64.bits 255).toNat = m at h
  rw [IntKind.wrap_i64]
  omega

/-- Of what w held nothing has turned but block c. -/
abbrev Ex (c : Nat) (w w' : World) : Prop := w.grownBy w' (some c)
theorem Ex.refl (c : Nat) (w : World) : Ex c w w := ⟨rfl, rfl, rfl, Nat.le_refl _, fun _ _ _ => rfl⟩
theorem Ex.trans {c : Nat} {a b d : World} (h : Ex c a b) (k : Ex c b d) : Ex c a d :=
  ⟨k.os.trans h.os, k.tape.trans h.tape, k.output.trans h.output, Nat.le_trans h.size k.size, fun i hi hn => (k.block i (Nat.lt_of_lt_of_le hi h.size) hn).trans (h.block i hi hn)⟩
theorem Ex.of {c : Nat} {w w' : World} (h : Below w.heap.size w w') : Ex c w w' := ⟨h.os, h.tape, h.output, h.size, fun i hi _ => h.block i hi⟩
theorem Ex.below {c B : Nat} {w w' : World} (h : Ex c w w') (hB : B ≤ c) (hw : B ≤ w.heap.size) : Below B w w' :=
  ⟨h.os, h.tape, h.output, h.size, fun i hi => h.block i (by omega) (by simp; omega)⟩
theorem Ex.alloc {c : Nat} {a w : World} (h : Ex c a w) (o : Obj) : Ex c a (w.alloc o) := h.trans (Ex.of (bl_alloc (Below.refl _ _) o))
theorem Ex.drew {c : Nat} {a w : World} (h : Ex c a w) : Ex c a w.drew := ⟨h.os, h.tape, h.output, h.size, h.block⟩
theorem Ex.drewN {c : Nat} {a w : World} (h : Ex c a w) (n : Nat) : Ex c a (w.drewN n) := ⟨h.os, h.tape, h.output, h.size, h.block⟩
theorem Ex.setCell {c : Nat} {a w : World} (h : Ex c a w) (p : Addr) (hp : p.block = c) (v : Value) : Ex c a (w.setCell p v) := by
  refine h.trans ⟨rfl, rfl, rfl, by simp, fun i _ hn => Below.heap_setCell w p v i ?_⟩
  rintro rfl; exact hn (by rw [hp])
theorem Ex.cell {c : Nat} {w w' : World} (h : Ex c w w') {b o : Nat} (hb : b < w.heap.size) (hn : b ≠ c) : w'.cell? ⟨b, o, none⟩ = w.cell? ⟨b, o, none⟩ :=
  h.cell_far ⟨b, o, none⟩ hb (by simp [hn])
theorem Ex.frozen {c : Nat} {w w' : World} (h : Ex c w w') {b o : Nat} (hb : b < w.heap.size) (hn : b ≠ c) : w'.frozen? ⟨b, o, none⟩ = w.frozen? ⟨b, o, none⟩ :=
  h.frozen_far ⟨b, o, none⟩ hb (by simp [hn])

/-- A slice of bytes that is only read, not in block c: empty, or a row of cells, each a byte. -/
def Bytes (c : Nat) (w : World) (a : Option Addr) (len cap : Nat) : Prop :=
  len ≤ 1048577 ∧ cap ≤ maxLen ∧ (len = 0 ∨ ∃ b off : Nat, a = some ⟨b, off, none⟩ ∧ b < w.heap.size ∧ b ≠ c ∧ ∀ i, i < len → ∃ n : Int, w.cell? ⟨b, off + i, none⟩ = some (.int .u8 n) ∧ 0 ≤ n ∧ n ≤ 255)
theorem Bytes.keep {c : Nat} {w w' : World} {a : Option Addr} {len cap : Nat} (h : Bytes c w a len cap) (hx : Ex c w w') : Bytes c w' a len cap := by
  obtain ⟨hl, hm, h | ⟨b, off, rfl, hb, hn, hc⟩⟩ := h
  · exact ⟨hl, hm, .inl h⟩
  · refine ⟨hl, hm, .inr ⟨b, off, rfl, Nat.lt_of_lt_of_le hb hx.size, hn, fun i hi => ?_⟩⟩
    rw [hx.cell hb hn]; exact hc i hi

/-- A cursor in block c over these bytes. -/
structure Cur (c : Nat) (a : Option Addr) (len cap : Nat) (w : World) : Prop where
  lt : c < w.heap.size
  bytes : Bytes c w a len cap
  at0 : w.cell? ⟨c, 0, none⟩ = some (.slice a len cap)
  at1 : ∃ i : Nat, i ≤ len ∧ w.cell? ⟨c, 1, none⟩ = some (.int .i64 i)
  at2 : ∃ h : Int, w.cell? ⟨c, 2, none⟩ = some (.int .i64 h)
  fr1 : w.frozen? ⟨c, 1, none⟩ = false
  fr2 : w.frozen? ⟨c, 2, none⟩ = false
theorem Cur.keep {c : Nat} {a : Option Addr} {len cap : Nat} {w w' : World} (h : Cur c a len cap w) (hb : Below w.heap.size w w') : Cur c a len cap w' where
  lt := Nat.lt_of_lt_of_le h.lt hb.size
  bytes := h.bytes.keep (Ex.of hb)
  at0 := by rw [hb.cell (p := ⟨c, 0, none⟩) h.lt]; exact h.at0
  at1 := by rw [hb.cell (p := ⟨c, 1, none⟩) h.lt]; exact h.at1
  at2 := by rw [hb.cell (p := ⟨c, 2, none⟩) h.lt]; exact h.at2
  fr1 := by rw [hb.frozen (p := ⟨c, 1, none⟩) h.lt]; exact h.fr1
  fr2 := by rw [hb.frozen (p := ⟨c, 2, none⟩) h.lt]; exact h.fr2
theorem Cur.alloc {c : Nat} {a : Option Addr} {len cap : Nat} {w : World} (h : Cur c a len cap w) (o : Obj) : Cur c a len cap (w.alloc o) := h.keep (bl_alloc (Below.refl _ _) o)
theorem Cur.drew {c : Nat} {a : Option Addr} {len cap : Nat} {w : World} (h : Cur c a len cap w) : Cur c a len cap w.drew := h.keep (Below.refl _ _).drew
theorem Cur.drewN {c : Nat} {a : Option Addr} {len cap : Nat} {w : World} (h : Cur c a len cap w) (n : Nat) : Cur c a len cap (w.drewN n) :=
  h.keep ⟨rfl, rfl, rfl, Nat.le_refl _, fun _ _ => rfl⟩
theorem Cur.wrote2 {c : Nat} {a : Option Addr} {len cap : Nat} {w : World} (h : Cur c a len cap w) (x : Int) : Cur c a len cap (w.setCell ⟨c, 2, none⟩ (.int .i64 x)) := by
  obtain ⟨y, hy⟩ := h.at2
  refine ⟨by simpa using h.lt, h.bytes.keep ((Ex.refl _ _).setCell _ rfl _), ?_, ?_, ⟨x, World.cell?_setCell_same _ _ _ hy⟩, by simpa using h.fr1, by simpa using h.fr2⟩
  · rw [World.cell?_setCell_other _ _ _ _ (by simp)]; exact h.at0
  · rw [World.cell?_setCell_other _ _ _ _ (by simp)]; exact h.at1
theorem Cur.wrote1 {c : Nat} {a : Option Addr} {len cap : Nat} {w : World} (h : Cur c a len cap w) (v : Int) (i : Nat) (hv : v = (i : Int)) (hi : i ≤ len) : Cur c a len cap (w.setCell ⟨c, 1, none⟩ (.int .i64 v)) := by
  subst hv
  obtain ⟨y, _, hy⟩ := h.at1
  refine ⟨by simpa using h.lt, h.bytes.keep ((Ex.refl _ _).setCell _ rfl _), ?_, ⟨i, hi, World.cell?_setCell_same _ _ _ hy⟩, ?_, by simpa using h.fr1, by simpa using h.fr2⟩
  · rw [World.cell?_setCell_other _ _ _ _ (by simp)]; exact h.at0
  · rw [World.cell?_setCell_other _ _ _ _ (by simp)]; exact h.at2
/-- A store into another block. -/
theorem Cur.store {c : Nat} {a : Option Addr} {len cap : Nat} {w : World} (h : Cur c a len cap w) {p : Addr} (hp : p.block ≠ c) (hq : ∀ b off, len ≠ 0 → a = some ⟨b, off, none⟩ → b ≠ p.block) (v : Value) : Cur c a len cap (w.setCell p v) := by
  have hx : ∀ k, k ≠ p.block → (w.setCell p v).heap[k]? = w.heap[k]? := fun k hk => Below.heap_setCell w p v k hk
  have hcell : ∀ o, (w.setCell p v).cell? ⟨c, o, none⟩ = w.cell? ⟨c, o, none⟩ := fun o => World.cell?_of_block (w := w) (hx c (Ne.symm hp))
  have hfr : ∀ o, (w.setCell p v).frozen? ⟨c, o, none⟩ = w.frozen? ⟨c, o, none⟩ := fun o => World.frozen?_of_block (w := w) (hx c (Ne.symm hp))
  refine ⟨by simpa using h.lt, ?_, by rw [hcell]; exact h.at0, by rw [hcell]; exact h.at1, by rw [hcell]; exact h.at2, by rw [hfr]; exact h.fr1, by rw [hfr]; exact h.fr2⟩
  obtain ⟨hl, hm, k | ⟨b, off, rfl, hb, hn, hc⟩⟩ := h.bytes
  · exact ⟨hl, hm, .inl k⟩
  · refine ⟨hl, hm, .inr ⟨b, off, rfl, by simpa using hb, hn, fun i hi => ?_⟩⟩
    have : (w.setCell p v).cell? ⟨b, off + i, none⟩ = w.cell? ⟨b, off + i, none⟩ := World.cell?_of_block (w := w) (hx b (hq _ _ (by omega) rfl))
    rw [this]; exact hc i hi
end Go.Proofs.YtljecghkechcaaaGreatDoor.Dr
namespace Go.Proofs.YtljecghkechcaaaGreatDoor
open Go.RowKit Pl Dr

/-- What a draw leaves: the cursor, and all but its block. -/
structure Drawn (c : Nat) (a : Option Addr) (len cap : Nat) (w w' : World) : Prop where
  cur : Cur c a len cap w'
  ex : Ex c w w'

theorem byte_end (a : Option Addr) (len cap : Nat) (c : Nat) (i : Nat) (h : Int) (w : World) (hC : Cur c a len cap w) (hi : ¬ i < len)
    (h0 : w.cell? ⟨c, 0, none⟩ = some (.slice a len cap)) (h1 : w.cell? ⟨c, 1, none⟩ = some (.int .i64 i)) (h2 : w.cell? ⟨c, 2, none⟩ = some (.int .i64 h)) (f2 : w.frozen? ⟨c, 2, none⟩ = false) :
    Calls Tryz.prog 39 #[.pointer (some ⟨c, 0, none⟩)] w fun e w' => ∃ x : Int, e = .returned (.int .i64 x) ∧ 0 ≤ x ∧ x ≤ 255 ∧ Drawn c a len cap w w' := by
  go_enter Tryz.func39, Tryz.ntmps39
  go_wp2
  go_quiet (fail)
  go_wp2
  go_quiet (fail)
  go_wp2
  go_ret
  exact ⟨_, rfl, (and255 _).1, (and255 _).2, ((hC.wrote2 _).drewN _).drewN _, (((Ex.refl _ _).setCell _ rfl _).drewN _).drewN _⟩

theorem byte_more (b off : Nat) (len cap : Nat) (c : Nat) (i : Nat) (h n : Int) (w : World) (hC : Cur c (some ⟨b, off, none⟩) len cap w) (hi : i < len) (hl : len ≤ 1048577) (hb : b ≠ c)
    (h0 : w.cell? ⟨c, 0, none⟩ = some (.slice (some ⟨b, off, none⟩) len cap)) (h1 : w.cell? ⟨c, 1, none⟩ = some (.int .i64 i)) (h2 : w.cell? ⟨c, 2, none⟩ = some (.int .i64 h))
    (hn : w.cell? ⟨b, off + i, none⟩ = some (.int .u8 n)) (n0 : 0 ≤ n) (n1 : n ≤ 255) (f1 : w.frozen? ⟨c, 1, none⟩ = false) (f2 : w.frozen? ⟨c, 2, none⟩ = false) :
    Calls Tryz.prog 39 #[.pointer (some ⟨c, 0, none⟩)] w fun e w' => ∃ x : Int, e = .returned (.int .i64 x) ∧ 0 ≤ x ∧ x ≤ 255 ∧ Drawn c (some ⟨b, off, none⟩) len cap w w' := by
  go_enter Tryz.func39, Tryz.ntmps39
  go_wp2
  go_quiet (fail)
  go_wp2
  go_quiet (fail)
  go_wp2
  go_quiet (fail)
  go_wp2
  go_ret
  refine ⟨_, rfl, (and255 _).1, (and255 _).2, ?_, ?_⟩
  · exact ((hC.wrote2 _).drewN _).wrote1 _ (i + 1) (by omega) (by omega)
  · exact (((Ex.refl c w).setCell ⟨c, 2, none⟩ rfl _).drewN _).setCell ⟨c, 1, none⟩ rfl _

/-- A byte is drawn. -/
theorem byte_any (a : Option Addr) (len cap : Nat) (c : Nat) (w : World) (hC : Cur c a len cap w) :
    Calls Tryz.prog 39 #[.pointer (some ⟨c, 0, none⟩)] w fun e w' => ∃ x : Int, e = .returned (.int .i64 x) ∧ 0 ≤ x ∧ x ≤ 255 ∧ Drawn c a len cap w w' := by
  obtain ⟨i, hi, h1⟩ := hC.at1
  obtain ⟨h, h2⟩ := hC.at2
  by_cases hlt : i < len
  · obtain ⟨hl, _, k | ⟨b, off, rfl, _, hbc, hc⟩⟩ := hC.bytes
    · omega
    · obtain ⟨n, hn, n0, n1⟩ := hc i hlt
      exact byte_more b off len cap c i h n w hC hlt hl hbc hC.at0 h1 h2 hn n0 n1 hC.fr1 hC.fr2
  · exact byte_end a len cap c i h w hC hlt hC.at0 h1 h2 hC.fr2

/-- A number below n is drawn. -/
theorem below_any (a : Option Addr) (len cap : Nat) (c : Nat) (n : Int) (w : World) (hC : Cur c a len cap w) (h0 : 0 < n) (h1 : n ≤ 256) :
    Calls Tryz.prog 27 #[.pointer (some ⟨c, 0, none⟩), .int .i64 n] w fun e w' => ∃ x : Int, e = .returned (.int .i64 x) ∧ 0 ≤ x ∧ x < n ∧ Drawn c a len cap w w' := by
  have hn : ¬ n = 0 := by omega
  have hn' : ¬ n ≤ 0 := by omega
  go_enter Tryz.func27, Tryz.ntmps27
  go_wp2_with fail
  refine (byte_any a len cap c _ hC).mono ?_
  rintro e w1 ⟨x, rfl, x0, x1, hd⟩
  go_wp2
  go_ret
  exact ⟨_, rfl, Int.emod_nonneg _ hn, Int.emod_lt_of_pos _ h0, hd⟩

/-- Once in n. -/
theorem once_any (a : Option Addr) (len cap : Nat) (c : Nat) (n : Int) (w : World) (hC : Cur c a len cap w) (h0 : 0 < n) (h1 : n ≤ 256) :
    Calls Tryz.prog 24 #[.pointer (some ⟨c, 0, none⟩), .int .i64 n] w fun e w' => ∃ x : Bool, e = .returned (.bool x) ∧ Drawn c a len cap w w' := by
  go_enter Tryz.func24, Tryz.ntmps24
  go_wp2_with fail
  refine (below_any a len cap c n _ hC h0 h1).mono ?_
  rintro e w1 ⟨x, rfl, x0, x1, hd⟩
  go_wp2
  go_ret
  exact ⟨_, rfl, hd⟩
end Go.Proofs.YtljecghkechcaaaGreatDoor
namespace Go.Proofs.YtljecghkechcaaaGreatDoor
open Go.RowKit Pl Dr

theorem Drawn.start {c : Nat} {a : Option Addr} {len cap : Nat} {w : World} (h : Cur c a len cap w) : Drawn c a len cap w w := ⟨h, Ex.refl _ _⟩
theorem Drawn.trans {c : Nat} {a : Option Addr} {len cap : Nat} {w u v : World} (h : Drawn c a len cap w u) (k : Drawn c a len cap u v) : Drawn c a len cap w v := ⟨k.cur, h.ex.trans k.ex⟩
theorem Drawn.alloc {c : Nat} {a : Option Addr} {len cap : Nat} {w u : World} (h : Drawn c a len cap w u) (o : Obj) : Drawn c a len cap w (u.alloc o) := ⟨h.cur.alloc o, h.ex.alloc o⟩
theorem Drawn.drew {c : Nat} {a : Option Addr} {len cap : Nat} {w u : World} (h : Drawn c a len cap w u) : Drawn c a len cap w u.drew := ⟨h.cur.drew, h.ex.drew⟩
/-- A store into a block that is new since w. -/
theorem Drawn.store {c : Nat} {a : Option Addr} {len cap : Nat} {w u : World} (h : Drawn c a len cap w u) (hC : Cur c a len cap w) (p : Addr) (hp : w.heap.size ≤ p.block) (v : Value) : Drawn c a len cap w (u.setCell p v) := by
  have hne : p.block ≠ c := by have := hC.lt; omega
  refine ⟨h.cur.store hne ?_ v, ?_⟩
  · intro b off h0 e
    obtain ⟨_, _, k | ⟨b', off', k, hb, _⟩⟩ := hC.bytes
    · exact absurd k h0
    · rw [e] at k; cases k; omega
  · refine ⟨h.ex.os, h.ex.tape, h.ex.output, by simpa using h.ex.size, fun i hi hn => ?_⟩
    rw [Below.heap_setCell u p v i (by omega)]
    exact h.ex.block i hi hn
theorem Drawn.at {c : Nat} {a : Option Addr} {len cap : Nat} {w u : World} (h : Drawn c a len cap w u) (b : Nat) (hb : b < w.heap.size) (hn : b ≠ c) :
    (∀ o, u.cell? ⟨b, o, none⟩ = w.cell? ⟨b, o, none⟩) ∧ (∀ o, u.frozen? ⟨b, o, none⟩ = w.frozen? ⟨b, o, none⟩) :=
  ⟨fun _ => h.ex.cell hb hn, fun _ => h.ex.frozen hb hn⟩

def strsB (cs : Array Value) (n : Nat) : Bool := (List.range n).all fun i => match cs[i]? with | some (.string v) => decide (v.size ≤ 40) | _ => false
def intsB (cs : Array Value) (n : Nat) : Bool := (List.range n).all fun i => match cs[i]? with | some (.int .i64 _) => true | _ => false
theorem row_strs (w : World) (cs : Array Value) (t : TypeId) (n : Nat) (h : strsB cs n = true) : ∀ i, i < n → ∃ v : ByteArray, (w.alloc (.cells cs t)).cell? ⟨w.heap.size, i, none⟩ = some (.string v) ∧ v.size ≤ 40 := by
  intro i hi
  rw [World.cell?_alloc_new]
  have := (List.all_eq_true.1 h) i (List.mem_range.2 hi)
  split at this
  · rename_i v hv; exact ⟨v, hv, by simpa using this⟩
  · cases this
theorem row_ints (w : World) (cs : Array Value) (t : TypeId) (n : Nat) (h : intsB cs n = true) : ∀ i, i < n → ∃ v : Int, (w.alloc (.cells cs t)).cell? ⟨w.heap.size, i, none⟩ = some (.int .i64 v) := by
  intro i hi
  rw [World.cell?_alloc_new]
  have := (List.all_eq_true.1 h) i (List.mem_range.2 hi)
  split at this
  · rename_i v hv; exact ⟨v, hv⟩
  · cases this


theorem pick_any (a : Option Addr) (len cap : Nat) (c B n : Nat) (w : World) (hC : Cur c a len cap w) (hB : B < w.heap.size) (hBc : B ≠ c) (h0 : 0 < n) (h1 : n ≤ 256)
    (hcell : ∀ i, i < n → ∃ v : ByteArray, w.cell? ⟨B, i, none⟩ = some (.string v) ∧ v.size ≤ 40) :
    Calls Tryz.prog 25 #[.pointer (some ⟨c, 0, none⟩), .slice (some ⟨B, 0, none⟩) n n] w fun e w' => ∃ x : ByteArray, e = .returned (.string x) ∧ x.size ≤ 40 ∧ Drawn c a len cap w w' := by
  go_enter Tryz.func25, Tryz.ntmps25
  go_wp2_with fail
  refine (below_any a len cap c n _ hC (by omega) (by omega)).mono ?_
  rintro e w1 ⟨x, rfl, x0, x1, hd⟩
  obtain ⟨k, rfl⟩ := Int.eq_ofNat_of_zero_le x0
  obtain ⟨v, hv, hs⟩ := hcell k (by omega)
  have hv1 : w1.cell? ⟨B, k, none⟩ = some (.string v) := by rw [hd.ex.cell hB hBc]; exact hv
  clear hcell
  go_wp2
  go_ret
  exact ⟨_, rfl, hs, hd⟩

theorem Pl.Box3.drawn {N : Nat} {v0 v1 v2 : Value} {c : Nat} {a : Option Addr} {len cap : Nat} {w u : World} (h : Box3 N v0 v1 v2 w) (hd : Drawn c a len cap w u) (hn : N ≠ c) : Box3 N v0 v1 v2 u where
  lt := Nat.lt_of_lt_of_le h.lt hd.ex.size
  c0 := by rw [hd.ex.cell h.lt hn]; exact h.c0
  c1 := by rw [hd.ex.cell h.lt hn]; exact h.c1
  c2 := by rw [hd.ex.cell h.lt hn]; exact h.c2
  fr := fun o => by rw [hd.ex.frozen h.lt hn]; exact h.fr o

end Go.Proofs.YtljecghkechcaaaGreatDoor
namespace Go.Proofs.YtljecghkechcaaaGreatDoor
open Go.RowKit Pl Dr

end Go.Proofs.YtljecghkechcaaaGreatDoor
namespace Go.Proofs.YtljecghkechcaaaGreatDoor
open Go.RowKit Pl Dr

theorem Cur.new (w : World) (a : Option Addr) (len cap : Nat) (h : Int) (t : TypeId) (hB : Bytes w.heap.size w a len cap) :
    Cur w.heap.size a len cap (w.alloc (.cells #[.slice a len cap, .int .i64 0, .int .i64 h] t)) :=
  ⟨by simp, hB.keep (Ex.of (bl_alloc (Below.refl _ _) _)), by simp, ⟨0, Nat.zero_le _, by simp⟩, ⟨h, by simp⟩, by simp [go_sem], by simp [go_sem]⟩

theorem new_nil (a : Option Addr) (cap : Nat) (w : World) (hB : Bytes w.heap.size w a 0 cap) :
    Calls Tryz.prog 12 #[.slice a 0 cap] w fun e w' => e = .returned (.pointer (some ⟨w.heap.size, 0, none⟩)) ∧ Cur w.heap.size a 0 cap w' ∧ Below w.heap.size w w' := by
  go_enter Tryz.func12, Tryz.ntmps12
  go_wp2
  go_loop [3, 4] (fun h i => i = .int .i64 0 ∧ ∃ n : Int, h = .int .i64 n) (fun _ _ => 0)
  case atStart => exact ⟨rfl, _, rfl⟩
  case round =>
    obtain ⟨rfl, n, rfl⟩ := hrel
    go_wp2
    go_ret
    exact ⟨rfl, Cur.new w a 0 cap n _ hB, bl_alloc (Below.refl _ _) _⟩

theorem new_row (b off len cap : Nat) (w : World) (hB : Bytes w.heap.size w (some ⟨b, off, none⟩) len cap) (hl : len ≤ 1048577)
    (hc : ∀ i, i < len → ∃ n : Int, w.cell? ⟨b, off + i, none⟩ = some (.int .u8 n) ∧ 0 ≤ n ∧ n ≤ 255) :
    Calls Tryz.prog 12 #[.slice (some ⟨b, off, none⟩) len cap] w fun e w' => e = .returned (.pointer (some ⟨w.heap.size, 0, none⟩)) ∧ Cur w.heap.size (some ⟨b, off, none⟩) len cap w' ∧ Below w.heap.size w w' := by
  go_enter Tryz.func12, Tryz.ntmps12
  go_wp2
  go_loop [3, 4] (fun h i => (∃ k : Nat, k ≤ len ∧ i = .int .i64 k) ∧ ∃ n : Int, h = .int .i64 n) (fun _ i => len - (intOf i).toNat)
  case atStart => exact ⟨⟨0, Nat.zero_le _, rfl⟩, _, rfl⟩
  case round =>
    obtain ⟨⟨k, hk, rfl⟩, n, rfl⟩ := hrel
    by_cases hlt : k < len
    · obtain ⟨x, hx, x0, x1⟩ := hc k hlt
      by_cases h4 : (k : Int) < 4000
      · go_wp2
        go_round
        case rel => exact ⟨⟨k + 1, by omega, by go_num⟩, _, rfl⟩
        case measure => simp [intOf]; omega
      · go_wp2
        go_ret
        exact ⟨rfl, Cur.new w _ len cap n _ hB, bl_alloc (Below.refl _ _) _⟩
    · go_wp2
      go_ret
      exact ⟨rfl, Cur.new w _ len cap n _ hB, bl_alloc (Below.refl _ _) _⟩

theorem new_any (a : Option Addr) (len cap : Nat) (w : World) (hB : Bytes w.heap.size w a len cap) :
    Calls Tryz.prog 12 #[.slice a len cap] w fun e w' => e = .returned (.pointer (some ⟨w.heap.size, 0, none⟩)) ∧ Cur w.heap.size a len cap w' ∧ Below w.heap.size w w' := by
  obtain ⟨hl, _, rfl | ⟨b, off, rfl, hb, hn, hc⟩⟩ := id hB
  · exact new_nil a cap w hB
  · exact new_row b off len cap w hB hl hc
end Go.Proofs.YtljecghkechcaaaGreatDoor
