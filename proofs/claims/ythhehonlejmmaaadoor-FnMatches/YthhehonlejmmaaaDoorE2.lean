/-
  Walks of the specification's draws: one out of a list; a message that is right.
-/
import Derived.Test.YthhehonlejmmaaaDoorE1
namespace Go.Proofs.YthhehonlejmmaaaDoor
open Go.RowKit Pl Dr

theorem Drawn.start {c : Nat} {a : Option Addr} {len cap : Nat} {w : World} (h : Cur c a len cap w) : Drawn c a len cap w w := ⟨h, Ex.refl _ _⟩
theorem Drawn.trans {c : Nat} {a : Option Addr} {len cap : Nat} {w u v : World} (h : Drawn c a len cap w u) (k : Drawn c a len cap u v) : Drawn c a len cap w v := ⟨k.cur, h.ex.trans k.ex⟩
theorem Drawn.alloc {c : Nat} {a : Option Addr} {len cap : Nat} {w u : World} (h : Drawn c a len cap w u) (o : Obj) : Drawn c a len cap w (u.alloc o) := ⟨h.cur.alloc o, h.ex.alloc o⟩
theorem Drawn.drew {c : Nat} {a : Option Addr} {len cap : Nat} {w u : World} (h : Drawn c a len cap w u) : Drawn c a len cap w u.drew := ⟨h.cur.drew, h.ex.drew⟩
/-- A store into a block that is new since w. -/
theorem Drawn.store {c : Nat} {a : Option Addr} {len cap : Nat} {w u : World} (h : Drawn c a len cap w u) (hC : Cur c a len cap w) (p : Addr) (hp : w.heap.size ≤ p.block) (v : Value) : Drawn c a len cap w (u.setCell p v) := by
  have hne : p.block ≠ c := by have := hC.lt; omega
  refine ⟨h.cur.store hne ?_ v, ?_⟩
  · intro b off h0 e
    obtain ⟨_, _, k | ⟨b', off', k, hb, _⟩⟩ := hC.bytes
    · exact absurd k h0
    · rw [e] at k; cases k; omega
  · refine ⟨h.ex.os, h.ex.tape, h.ex.output, by simpa using h.ex.size, fun i hi hn => ?_⟩
    rw [Below.heap_setCell u p v i (by omega)]
    exact h.ex.block i hi hn
theorem Drawn.at {c : Nat} {a : Option Addr} {len cap : Nat} {w u : World} (h : Drawn c a len cap w u) (b : Nat) (hb : b < w.heap.size) (hn : b ≠ c) :
    (∀ o, u.cell? ⟨b, o, none⟩ = w.cell? ⟨b, o, none⟩) ∧ (∀ o, u.frozen? ⟨b, o, none⟩ = w.frozen? ⟨b, o, none⟩) :=
  ⟨fun _ => h.ex.cell hb hn, fun _ => h.ex.frozen hb hn⟩

def strsB (cs : Array Value) (n : Nat) : Bool := (List.range n).all fun i => match cs[i]? with | some (.string v) => decide (v.size ≤ 40) | _ => false
def intsB (cs : Array Value) (n : Nat) : Bool := (List.range n).all fun i => match cs[i]? with | some (.int .i64 _) => true | _ => false
theorem row_strs (w : World) (cs : Array Value) (t : TypeId) (n : Nat) (h : strsB cs n = true) : ∀ i, i < n → ∃ v : ByteArray, (w.alloc (.cells cs t)).cell? ⟨w.heap.size, i, none⟩ = some (.string v) ∧ v.size ≤ 40 := by
  intro i hi
  rw [World.cell?_alloc_new]
  have := (List.all_eq_true.1 h) i (List.mem_range.2 hi)
  split at this
  · rename_i v hv; exact ⟨v, hv, by simpa using this⟩
  · cases this
theorem row_ints (w : World) (cs : Array Value) (t : TypeId) (n : Nat) (h : intsB cs n = true) : ∀ i, i < n → ∃ v : Int, (w.alloc (.cells cs t)).cell? ⟨w.heap.size, i, none⟩ = some (.int .i64 v) := by
  intro i hi
  rw [World.cell?_alloc_new]
  have := (List.all_eq_true.1 h) i (List.mem_range.2 hi)
  split at this
  · rename_i v hv; exact ⟨v, hv⟩
  · cases this


theorem pick_any (a : Option Addr) (len cap : Nat) (c B n : Nat) (w : World) (hC : Cur c a len cap w) (hB : B < w.heap.size) (hBc : B ≠ c) (h0 : 0 < n) (h1 : n ≤ 256)
    (hcell : ∀ i, i < n → ∃ v : ByteArray, w.cell? ⟨B, i, none⟩ = some (.string v) ∧ v.size ≤ 40) :
    Calls Tryd.prog 16 #[.pointer (some ⟨c, 0, none⟩), .slice (some ⟨B, 0, none⟩) n n] w fun e w' => ∃ x : ByteArray, e = .returned (.string x) ∧ x.size ≤ 40 ∧ Drawn c a len cap w w' := by
  go_enter Tryd.func16, Tryd.ntmps16
  go_wp2_with fail
  refine (below_any a len cap c n _ hC (by omega) (by omega)).mono ?_
  rintro e w1 ⟨x, rfl, x0, x1, hd⟩
  obtain ⟨k, rfl⟩ := Int.eq_ofNat_of_zero_le x0
  obtain ⟨v, hv, hs⟩ := hcell k (by omega)
  have hv1 : w1.cell? ⟨B, k, none⟩ = some (.string v) := by rw [hd.ex.cell hB hBc]; exact hv
  clear hcell
  go_wp2
  go_ret
  exact ⟨_, rfl, hs, hd⟩

theorem Pl.Box3.drawn {N : Nat} {v0 v1 v2 : Value} {c : Nat} {a : Option Addr} {len cap : Nat} {w u : World} (h : Box3 N v0 v1 v2 w) (hd : Drawn c a len cap w u) (hn : N ≠ c) : Box3 N v0 v1 v2 u where
  lt := Nat.lt_of_lt_of_le h.lt hd.ex.size
  c0 := by rw [hd.ex.cell h.lt hn]; exact h.c0
  c1 := by rw [hd.ex.cell h.lt hn]; exact h.c1
  c2 := by rw [hd.ex.cell h.lt hn]; exact h.c2
  fr := fun o => by rw [hd.ex.frozen h.lt hn]; exact h.fr o

end Go.Proofs.YthhehonlejmmaaaDoor
