/-
  The specification's draws: a clock's variable while it is drawn.
-/
import Derived.Test.YtfahfbeemgigcaaSC4
import Derived.Test.YtfahfbeemgigcaaW0
import Derived.Test.YtfahfbeemgigcaaE4
import Derived.Deep.CutRange
namespace Go.Proofs.Ytfahfbeemgigcaa
open Go.RowKit Pl Il Th Dr

theorem wrap_small {x : Int} (h : -1000000 ≤ x) (h2 : x ≤ 1000000) : IntKind.i64.wrap x = x := by rw [IntKind.wrap_i64]; omega
theorem drawn_keep {c : Nat} {a : Option Addr} {len cap : Nat} {w u u' : World} (h : Drawn c a len cap w u) (hb : Below u.heap.size u u') : Drawn c a len cap w u' := ⟨h.cur.keep hb, h.ex.trans (Ex.of hb)⟩
theorem Box2.dr {N : Nat} {v0 v1 : Value} {c : Nat} {a : Option Addr} {len cap : Nat} {u u' : World} (h : Box2 N v0 v1 u) (hd : Drawn c a len cap u u') (hn : N ≠ c) : Box2 N v0 v1 u' := h.grown hd.ex hn
theorem OwnT.ex {B c : Nat} {w w' : World} {a : Option Addr} {n : Nat} {ts : List (Int × Int)} (h : OwnT B w a n ts) (hx : Ex c w w') (hc : c < B) : OwnT B w' a n ts := by
  refine h.other hx ?_
  rcases h.own with h0 | ⟨b', off', rfl, hB, _⟩
  · exact .inl h0
  · exact .inr fun b1 o1 e => by cases e; omega
theorem own_ne {B N : Nat} {u : World} {a : Option Addr} {n : Nat} {ts : List (Int × Int)} (h : OwnT B u a n ts) (hN : N < B) : n = 0 ∨ ∀ b off, a = some ⟨b, off, none⟩ → b ≠ N := by
  rcases h.own with h0 | ⟨b', off', rfl, hB, _⟩
  · exact .inl h0
  · exact .inr fun b1 o1 e => by cases e; omega
theorem own_set2 {B N : Nat} {u : World} {a : Option Addr} {n : Nat} {ts : List (Int × Int)} {x y : Value} (h : OwnT B u a n ts) (hN : n = 0 ∨ ∀ b off, a = some ⟨b, off, none⟩ → b ≠ N) : OwnT B ((u.setCell ⟨N, 0, none⟩ x).setCell ⟨N, 1, none⟩ y) a n ts := by
  refine h.other (b := N) (grownS (grownS ⟨rfl, rfl, rfl, Nat.le_refl _, fun _ _ _ => rfl⟩ 0 x) 1 y) ?_
  exact hN.imp id fun h b off e => (h b off e).symm
/-- A clock's variable in block NK; its list lies behind it, below R. -/
structure KV (c : Nat) (a : Option Addr) (len cap : Nat) (w : World) (NK R : Nat) (now : Int) (ra : Option Addr) (n rc : Nat) (ts : List (Int × Int)) (u : World) : Prop where
  dr : Drawn c a len cap w u
  box : Box2 NK (.int .i64 now) (.slice ra n rc) u
  own : OwnT (w.heap.size + 1) u ra n ts
  apn : n = 0 ∨ ∀ b off, ra = some ⟨b, off, none⟩ → b ≠ NK
  hR : n = 0 ∨ ∀ b off, ra = some ⟨b, off, none⟩ → b < R
  hN : w.heap.size < NK
  cur : Cur c a len cap w
  le : R ≤ u.heap.size
  lt : NK < R
  res : Box2 w.heap.size (.int .i64 0) (.slice none 0 0) u
abbrev KVS (c : Nat) (a : Option Addr) (len cap : Nat) (w : World) (NK R : Nat) (now : Int) (ra : Option Addr) (n rc : Nat) (ts : List (Int × Int)) (u : World) : Prop :=
  u.cell? ⟨NK, 0, none⟩ = some (.int .i64 now) ∧ u.cell? ⟨NK, 1, none⟩ = some (.slice ra n rc) ∧ KV c a len cap w NK R now ra n rc ts u
section
variable {c : Nat} {a : Option Addr} {len cap : Nat} {w : World} {NK R : Nat} {now : Int} {ra : Option Addr} {n rc : Nat} {ts : List (Int × Int)} {u u' : World}
theorem KV.s (h : KV c a len cap w NK R now ra n rc ts u) : KVS c a len cap w NK R now ra n rc ts u := ⟨h.box.c0, h.box.c1, h⟩
theorem KV.keep (h : KV c a len cap w NK R now ra n rc ts u) (hb : Below u.heap.size u u') : KV c a len cap w NK R now ra n rc ts u' :=
  ⟨drawn_keep h.dr hb, h.box.keep hb, h.own.keep hb, h.apn, h.hR, h.hN, h.cur, Nat.le_trans h.le hb.size, h.lt, h.res.keep hb⟩
theorem KV.draw (h : KV c a len cap w NK R now ra n rc ts u) (hd : Drawn c a len cap u u') : KV c a len cap w NK R now ra n rc ts u' := by
  have hc := h.cur.lt
  have hN := h.hN
  exact ⟨h.dr.trans hd, h.box.dr hd (by omega), h.own.ex hd.ex (by omega), h.apn, h.hR, h.hN, h.cur, Nat.le_trans h.le hd.ex.size, h.lt, h.res.dr hd (by omega)⟩
theorem KV.store2 (h : KV c a len cap w NK R now ra n rc ts u) {M : Nat} (hM : R ≤ M) (x y : Value) : KV c a len cap w NK R now ra n rc ts ((u.setCell ⟨M, 0, none⟩ x).setCell ⟨M, 1, none⟩ y) := by
  have hN := h.hN
  have hl := h.lt
  have hg : u.grownBy ((u.setCell ⟨M, 0, none⟩ x).setCell ⟨M, 1, none⟩ y) (some M) := grownS (grownS ⟨rfl, rfl, rfl, Nat.le_refl _, fun _ _ _ => rfl⟩ 0 x) 1 y
  refine ⟨(h.dr.store h.cur ⟨M, 0, none⟩ (by simp only; omega) x).store h.cur ⟨M, 1, none⟩ (by simp only; omega) y, (h.box.far M 0 (by omega) x).far M 1 (by omega) y, h.own.other hg ?_, h.apn, h.hR, h.hN, h.cur, by simpa using h.le, h.lt, (h.res.far M 0 (by omega) x).far M 1 (by omega) y⟩
  rcases h.hR with h0 | h0
  · exact .inl h0
  · exact .inr fun b off e => by have := h0 b off e; omega
theorem KVS.curs (h : KVS c a len cap w NK R now ra n rc ts u) : Cur c a len cap u := h.2.2.dr.cur
theorem KVS.tim (h : KVS c a len cap w NK R now ra n rc ts u) : TimAt u ra n ts := h.2.2.own.tim
theorem KVS.keep (h : KVS c a len cap w NK R now ra n rc ts u) (hb : Below u.heap.size u u') : KVS c a len cap w NK R now ra n rc ts u' := (h.2.2.keep hb).s
theorem KVS.drew (h : KVS c a len cap w NK R now ra n rc ts u) : KVS c a len cap w NK R now ra n rc ts u.drew := h.keep (Below.refl _ _).drew
theorem KVS.alloc (h : KVS c a len cap w NK R now ra n rc ts u) (o : Obj) : KVS c a len cap w NK R now ra n rc ts (u.alloc o) := h.keep (bl_alloc (Below.refl _ _) o)
theorem KVS.draw (h : KVS c a len cap w NK R now ra n rc ts u) (hd : Drawn c a len cap u u') : KVS c a len cap w NK R now ra n rc ts u' := (h.2.2.draw hd).s
theorem KVS.store2 (h : KVS c a len cap w NK R now ra n rc ts u) {M : Nat} (hM : R ≤ M) (x y : Value) : KVS c a len cap w NK R now ra n rc ts ((u.setCell ⟨M, 0, none⟩ x).setCell ⟨M, 1, none⟩ y) := (h.2.2.store2 hM x y).s
end
/-- The next clock in a variable of its own, in block M. -/
structure Nxt (c : Nat) (a : Option Addr) (len cap : Nat) (w : World) (NK M : Nat) (now : Int) (v : Value) (now' : Int) (ra : Option Addr) (n rc : Nat) (ts : List (Int × Int)) (u : World) : Prop where
  dr : Drawn c a len cap w u
  cur : Cur c a len cap w
  box : Box2 NK (.int .i64 now) v u
  nxt : Box2 M (.int .i64 now') (.slice ra n rc) u
  own : OwnT (w.heap.size + 1) u ra n ts
  apn : n = 0 ∨ ∀ b off, ra = some ⟨b, off, none⟩ → b ≠ NK
  hN : w.heap.size < NK
  ne : M ≠ NK
  res : Box2 w.heap.size (.int .i64 0) (.slice none 0 0) u
section
variable {c : Nat} {a : Option Addr} {len cap : Nat} {w : World} {NK R : Nat} {now : Int} {ra : Option Addr} {n rc : Nat} {ts : List (Int × Int)} {u : World} {now' : Int} {a7 : Option Addr} {n7 c7 B : Nat} {ts7 : List (Int × Int)}
theorem Nxt.ofAlloc (h : KVS c a len cap w NK R now ra n rc ts u) (ho : OwnT B u a7 n7 ts7) (hB : R ≤ B) : Nxt c a len cap w NK u.heap.size now (.slice ra n rc) now' a7 n7 c7 ts7 (u.alloc (.cells #[.int .i64 now', .slice a7 n7 c7] 26)) := by
  have k := h.2.2.keep (bl_alloc (Below.refl _ _) (.cells #[.int .i64 now', .slice a7 n7 c7] 26))
  have hl := h.2.2.lt
  exact ⟨k.dr, k.cur, k.box, Box2.new u _ _ _, (ho.keep (bl_alloc (Below.refl _ _) _)).mono (by have := k.hN; omega), own_ne ho (by omega), k.hN, by have := h.2.2.box.lt; omega, k.res⟩
theorem Nxt.ofStore {M : Nat} {v0 v1 : Value} (h : KVS c a len cap w NK R now ra n rc ts u) (hM : Box2 M v0 v1 u) (hRM : R ≤ M) (ho : OwnT B u a7 n7 ts7) (hMB : M < B) : Nxt c a len cap w NK M now (.slice ra n rc) now' a7 n7 c7 ts7 ((u.setCell ⟨M, 0, none⟩ (.int .i64 now')).setCell ⟨M, 1, none⟩ (.slice a7 n7 c7)) := by
  have k := h.2.2.store2 hRM (.int .i64 now') (.slice a7 n7 c7)
  have hl := h.2.2.lt
  exact ⟨k.dr, k.cur, k.box, (hM.set0 _).set1 _, ((ho.far M 0 hMB _).far M 1 hMB _).mono (by have := k.hN; omega), own_ne ho (by omega), k.hN, by omega, k.res⟩
end
theorem Nxt.put {c : Nat} {a : Option Addr} {len cap : Nat} {w : World} {NK M : Nat} {now : Int} {v : Value} {now' : Int} {ra : Option Addr} {n rc : Nat} {ts : List (Int × Int)} {u : World} (h : Nxt c a len cap w NK M now v now' ra n rc ts u) :
    KV c a len cap w NK u.heap.size now' ra n rc ts ((u.setCell ⟨NK, 0, none⟩ (.int .i64 now')).setCell ⟨NK, 1, none⟩ (.slice ra n rc)) := by
  have hN := h.hN
  refine ⟨(h.dr.store h.cur ⟨NK, 0, none⟩ (Nat.le_of_lt hN) _).store h.cur ⟨NK, 1, none⟩ (Nat.le_of_lt hN) _, (h.box.set0 _).set1 _, own_set2 h.own h.apn, h.apn, ?_, h.hN, h.cur, by simp, h.box.lt, (h.res.far NK 0 (by omega) _).far NK 1 (by omega) _⟩
  exact h.own.tim.lt
end Go.Proofs.Ytfahfbeemgigcaa
