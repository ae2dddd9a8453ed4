/-
  Walks of the specification's draws: one out of a list; a message that is right.
-/
import Derived.Test.YtedaleonmcllkaaE1
namespace Go.Proofs.Ytedaleonmcllkaa
open Go.RowKit Pl Dr

theorem Drawn.start {c : Nat} {a : Option Addr} {len cap : Nat} {w : World} (h : Cur c a len cap w) : Drawn c a len cap w w := ⟨h, Ex.refl _ _⟩
theorem Drawn.trans {c : Nat} {a : Option Addr} {len cap : Nat} {w u v : World} (h : Drawn c a len cap w u) (k : Drawn c a len cap u v) : Drawn c a len cap w v := ⟨k.cur, h.ex.trans k.ex⟩
theorem Drawn.alloc {c : Nat} {a : Option Addr} {len cap : Nat} {w u : World} (h : Drawn c a len cap w u) (o : Obj) : Drawn c a len cap w (u.alloc o) := ⟨h.cur.alloc o, h.ex.alloc o⟩
theorem Drawn.drew {c : Nat} {a : Option Addr} {len cap : Nat} {w u : World} (h : Drawn c a len cap w u) : Drawn c a len cap w u.drew := ⟨h.cur.drew, h.ex.drew⟩
/-- A store into a block that is new since w. -/
theorem Drawn.store {c : Nat} {a : Option Addr} {len cap : Nat} {w u : World} (h : Drawn c a len cap w u) (hC : Cur c a len cap w) (p : Addr) (hp : w.heap.size ≤ p.block) (v : Value) : Drawn c a len cap w (u.setCell p v) := by
  have hne : p.block ≠ c := by have := hC.lt; omega
  refine ⟨h.cur.store hne ?_ v, ?_⟩
  · intro b off h0 e
    obtain ⟨_, _, k | ⟨b', off', k, hb, _⟩⟩ := hC.bytes
    · exact absurd k h0
    · rw [e] at k; cases k; omega
  · refine ⟨h.ex.os, h.ex.tape, h.ex.output, by simpa using h.ex.size, fun i hi hn => ?_⟩
    rw [Below.heap_setCell u p v i (by omega)]
    exact h.ex.block i hi hn
theorem Drawn.at {c : Nat} {a : Option Addr} {len cap : Nat} {w u : World} (h : Drawn c a len cap w u) (b : Nat) (hb : b < w.heap.size) (hn : b ≠ c) :
    (∀ o, u.cell? ⟨b, o, none⟩ = w.cell? ⟨b, o, none⟩) ∧ (∀ o, u.frozen? ⟨b, o, none⟩ = w.frozen? ⟨b, o, none⟩) :=
  ⟨fun _ => h.ex.cell hb hn, fun _ => h.ex.frozen hb hn⟩

def strsB (cs : Array Value) (n : Nat) : Bool := (List.range n).all fun i => match cs[i]? with | some (.string v) => decide (v.size ≤ 40) | _ => false
def intsB (cs : Array Value) (n : Nat) : Bool := (List.range n).all fun i => match cs[i]? with | some (.int .i64 _) => true | _ => false
theorem row_strs (w : World) (cs : Array Value) (t : TypeId) (n : Nat) (h : strsB cs n = true) : ∀ i, i < n → ∃ v : ByteArray, (w.alloc (.cells cs t)).cell? ⟨w.heap.size, i, none⟩ = some (.string v) ∧ v.size ≤ 40 := by
  intro i hi
  rw [World.cell?_alloc_new]
  have := (List.all_eq_true.1 h) i (List.mem_range.2 hi)
  split at this
  · rename_i v hv; exact ⟨v, hv, by simpa using this⟩
  · cases this
theorem row_ints (w : World) (cs : Array Value) (t : TypeId) (n : Nat) (h : intsB cs n = true) : ∀ i, i < n → ∃ v : Int, (w.alloc (.cells cs t)).cell? ⟨w.heap.size, i, none⟩ = some (.int .i64 v) := by
  intro i hi
  rw [World.cell?_alloc_new]
  have := (List.all_eq_true.1 h) i (List.mem_range.2 hi)
  split at this
  · rename_i v hv; exact ⟨v, hv⟩
  · cases this

theorem pickInt_any (a : Option Addr) (len cap : Nat) (c B n : Nat) (w : World) (hC : Cur c a len cap w) (hB : B < w.heap.size) (hBc : B ≠ c) (h0 : 0 < n) (h1 : n ≤ 256)
    (hcell : ∀ i, i < n → ∃ v : Int, w.cell? ⟨B, i, none⟩ = some (.int .i64 v)) :
    Calls Try.prog 49 #[.pointer (some ⟨c, 0, none⟩), .slice (some ⟨B, 0, none⟩) n n] w fun e w' => ∃ x : Int, e = .returned (.int .i64 x) ∧ Drawn c a len cap w w' := by
  go_enter Try.func49, Try.ntmps49
  go_wp2_with fail
  refine (below_any a len cap c n _ hC (by omega) (by omega)).mono ?_
  rintro e w1 ⟨x, rfl, x0, x1, hd⟩
  obtain ⟨k, rfl⟩ := Int.eq_ofNat_of_zero_le x0
  obtain ⟨v, hv⟩ := hcell k (by omega)
  have hv1 : w1.cell? ⟨B, k, none⟩ = some (.int .i64 v) := by rw [hd.ex.cell hB hBc]; exact hv
  clear hcell
  go_wp2
  go_ret
  exact ⟨_, rfl, hd⟩

theorem pick_any (a : Option Addr) (len cap : Nat) (c B n : Nat) (w : World) (hC : Cur c a len cap w) (hB : B < w.heap.size) (hBc : B ≠ c) (h0 : 0 < n) (h1 : n ≤ 256)
    (hcell : ∀ i, i < n → ∃ v : ByteArray, w.cell? ⟨B, i, none⟩ = some (.string v) ∧ v.size ≤ 40) :
    Calls Try.prog 47 #[.pointer (some ⟨c, 0, none⟩), .slice (some ⟨B, 0, none⟩) n n] w fun e w' => ∃ x : ByteArray, e = .returned (.string x) ∧ x.size ≤ 40 ∧ Drawn c a len cap w w' := by
  go_enter Try.func47, Try.ntmps47
  go_wp2_with fail
  refine (below_any a len cap c n _ hC (by omega) (by omega)).mono ?_
  rintro e w1 ⟨x, rfl, x0, x1, hd⟩
  obtain ⟨k, rfl⟩ := Int.eq_ofNat_of_zero_le x0
  obtain ⟨v, hv, hs⟩ := hcell k (by omega)
  have hv1 : w1.cell? ⟨B, k, none⟩ = some (.string v) := by rw [hd.ex.cell hB hBc]; exact hv
  clear hcell
  go_wp2
  go_ret
  exact ⟨_, rfl, hs, hd⟩

theorem Pl.Box3.drawn {N : Nat} {v0 v1 v2 : Value} {c : Nat} {a : Option Addr} {len cap : Nat} {w u : World} (h : Box3 N v0 v1 v2 w) (hd : Drawn c a len cap w u) (hn : N ≠ c) : Box3 N v0 v1 v2 u where
  lt := Nat.lt_of_lt_of_le h.lt hd.ex.size
  c0 := by rw [hd.ex.cell h.lt hn]; exact h.c0
  c1 := by rw [hd.ex.cell h.lt hn]; exact h.c1
  c2 := by rw [hd.ex.cell h.lt hn]; exact h.c2
  fr := fun o => by rw [hd.ex.frozen h.lt hn]; exact h.fr o

theorem msg_any (a : Option Addr) (len cap : Nat) (c : Nat) (w : World) (hC : Cur c a len cap w) :
    Calls Try.prog 48 #[.pointer (some ⟨c, 0, none⟩)] w fun e w' => ∃ (k n : Int) (s : ByteArray), e = .returned (.agg #[.int .i64 k, .int .i64 n, .string s]) ∧ s.size ≤ 40 ∧ Drawn c a len cap w w' := by
  have hlt := hC.lt
  have hne : w.heap.size ≠ c := by omega
  go_enter Try.func48, Try.ntmps48
  go_wp2_with fail
  refine (once_any a len cap c _ _ (hC.alloc _) (by omega) (by omega)).mono ?_
  rintro e w1 ⟨x, rfl, hd1⟩
  have b1 := (Box3.new w (.int .i64 0) (.int .i64 0) (.string ⟨#[]⟩) 26).drawn hd1 hne
  have hD1 : Drawn c a len cap w w1 := ((Drawn.start hC).alloc _).trans hd1
  clear hd1
  cases x
  · go_wp2_with fail
    refine (below_any a len cap c _ _ hD1.cur (by omega) (by omega)).mono ?_
    rintro e w2 ⟨n, rfl, n0, n1, hd2⟩
    have b2 := b1.drawn hd2 hne
    have hD2 := hD1.trans hd2
    clear hd2 hD1 b1
    go_wp2_with fail
    refine (once_any a len cap c _ _ hD2.cur (by omega) (by omega)).mono ?_
    rintro e w3 ⟨x, rfl, hd3⟩
    have b3 := b2.drawn hd3 hne
    have hD3 := hD2.trans hd3
    clear hd3 hD2 b2
    cases x
    · obtain ⟨l3, p0, p1, p2, fr⟩ := b3
      go_wp2
      refine bodyPost_ret (v := .agg #[.int .i64 1, .int .i64 (n - 10), .string ⟨#[]⟩]) (by simp [results, Try.results48, go_sem, p0, p1, p2]) rfl ⟨_, _, _, rfl, by decide, ?_⟩
      exact ((hD3.store hC _ (Nat.le_refl _) _).store hC _ (Nat.le_refl _) _).store hC _ (Nat.le_refl _) _
    · go_wp2_with fail
      refine (pickInt_any a len cap c w3.heap.size 3 _ (hD3.cur.alloc _) (by simp) (by have := hD3.cur.lt; omega) (by omega) (by omega) (row_ints _ _ _ _ (by decide))).mono ?_
      rintro e w4 ⟨x, rfl, hd4⟩
      obtain ⟨l4, p0, p1, p2, fr⟩ := (b3.alloc _).drawn hd4 hne
      have hD4 := (hD3.alloc _).trans hd4
      clear hd4 hD3
      go_wp2
      refine bodyPost_ret (v := .agg #[.int .i64 1, .int .i64 x, .string ⟨#[]⟩]) (by simp [results, Try.results48, go_sem, p0, p1, p2]) rfl ⟨_, _, _, rfl, by decide, ?_⟩
      exact ((hD4.store hC _ (Nat.le_refl _) _).store hC _ (Nat.le_refl _) _).store hC _ (Nat.le_refl _) _
  · go_wp2_with fail
    refine (pick_any a len cap c w1.heap.size 8 _ (hD1.cur.alloc _) (by simp) (by have := hD1.cur.lt; omega) (by omega) (by omega) (row_strs _ _ _ _ (by decide))).mono ?_
    rintro e w2 ⟨s, rfl, hs, hd2⟩
    obtain ⟨l2, p0, p1, p2, fr⟩ := (b1.alloc _).drawn hd2 hne
    have hD2 := (hD1.alloc _).trans hd2
    clear hd2 hD1
    go_wp2
    refine bodyPost_ret (v := .agg #[.int .i64 2, .int .i64 0, .string s]) (by simp [results, Try.results48, go_sem, p0, p1, p2]) rfl ⟨_, _, _, rfl, hs, ?_⟩
    exact ((hD2.store hC _ (Nat.le_refl _) _).store hC _ (Nat.le_refl _) _).store hC _ (Nat.le_refl _) _
end Go.Proofs.Ytedaleonmcllkaa
