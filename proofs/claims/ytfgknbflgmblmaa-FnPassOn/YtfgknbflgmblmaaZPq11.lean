/-
  The specification's draws: a notification's variable while it is drawn
-/
import Derived.Test.YtfgknbflgmblmaaZPq8
import Derived.Test.YtfgknbflgmblmaaZPq10
import Derived.Deep.CutRange
namespace Go.Proofs.Ytfgknbflgmblmaa
open Go.RowKit Pl Il Dr
theorem drawn_keepN {c : Nat} {a : Option Addr} {len cap : Nat} {w u u' : World} (h : Drawn c a len cap w u) (hb : Below u.heap.size u u') : Drawn c a len cap w u' := ⟨h.cur.keep hb, h.ex.trans (Ex.of hb)⟩
theorem NBox.dr {N : Nat} {A : Na} {x : Nt} {c : Nat} {a : Option Addr} {len cap : Nat} {u u' : World} (h : NBox N A x u) (hd : Drawn c a len cap u u') (hn : N ≠ c) : NBox N A x u' := h.grown hd.ex hn
/-- Both lists lie elsewhere than in block N; below R. -/
def apartN (A : Na) (N : Nat) : Prop := (Value.slice A.a A.n A.c).ownBlock ≠ some N ∧ (Value.slice A.a' A.n' A.c').ownBlock ≠ some N
def underN (A : Na) (R : Nat) : Prop := (∀ q, (Value.slice A.a A.n A.c).ownBlock = some q → q < R) ∧ (∀ q, (Value.slice A.a' A.n' A.c').ownBlock = some q → q < R)
theorem NRow.otherN {B b : Nat} {w w' : World} {A : Na} {x : Nt} (h : NRow B w A x) (hg : w.grownBy w' (some b)) (hn : apartN A b) : NRow B w' A x :=
  ⟨grow_far h.one hg (fun q e => by cases e; exact hn.1), grow_far h.two hg (fun q e => by cases e; exact hn.2)⟩
theorem NRow.neN {B N : Nat} {w : World} {A : Na} {x : Nt} (h : NRow B w A x) (hN : N < B) : apartN A N :=
  ⟨fun e => by have := (h.one.lt N e).1; omega, fun e => by have := (h.two.lt N e).1; omega⟩
theorem NRow.under {B : Nat} {w : World} {A : Na} {x : Nt} (h : NRow B w A x) : underN A w.heap.size :=
  ⟨fun q e => (h.one.lt q e).2, fun q e => (h.two.lt q e).2⟩
theorem underN.ne {A : Na} {R M : Nat} (h : underN A R) (hM : R ≤ M) : apartN A M :=
  ⟨fun e => by have := h.1 M e; omega, fun e => by have := h.2 M e; omega⟩
theorem grow1 {w w' : World} {b : Nat} (h : w.grownBy w' (some b)) (o : Nat) (x : Value) : w.grownBy (w'.setCell ⟨b, o, none⟩ x) (some b) :=
  ⟨h.os, h.tape, h.output, by simpa using h.size, fun k hk hne => by
    rw [Below.heap_setCell w' ⟨b, o, none⟩ x k (by rintro rfl; exact hne rfl)]
    exact h.block k hk hne⟩
theorem grown6 (u : World) (M : Nat) (A : Na) (y : Nt) : u.grownBy (((((((u).setCell ⟨M, 0, none⟩ (.bool y.pm)).setCell ⟨M, 1, none⟩ (.slice A.a A.n A.c)).setCell ⟨M, 2, none⟩ (.slice A.a' A.n' A.c')).setCell ⟨M, 3, none⟩ (.int .i64 y.on)).setCell ⟨M, 4, none⟩ (.int .i64 y.sp)).setCell ⟨M, 5, none⟩ (.int .i64 y.tk)) (some M) :=
  grow1 (grow1 (grow1 (grow1 (grow1 (grow1 ⟨rfl, rfl, rfl, Nat.le_refl _, fun _ _ _ => rfl⟩ 0 _) 1 _) 2 _) 3 _) 4 _) 5 _
theorem Drawn.store6 {c : Nat} {a : Option Addr} {len cap : Nat} {w u : World} (h : Drawn c a len cap w u) (hC : Cur c a len cap w) (M : Nat) (hM : w.heap.size ≤ M) (A : Na) (y : Nt) : Drawn c a len cap w (((((((u).setCell ⟨M, 0, none⟩ (.bool y.pm)).setCell ⟨M, 1, none⟩ (.slice A.a A.n A.c)).setCell ⟨M, 2, none⟩ (.slice A.a' A.n' A.c')).setCell ⟨M, 3, none⟩ (.int .i64 y.on)).setCell ⟨M, 4, none⟩ (.int .i64 y.sp)).setCell ⟨M, 5, none⟩ (.int .i64 y.tk)) :=
  (((((h.store hC ⟨M, 0, none⟩ hM _).store hC ⟨M, 1, none⟩ hM _).store hC ⟨M, 2, none⟩ hM _).store hC ⟨M, 3, none⟩ hM _).store hC ⟨M, 4, none⟩ hM _).store hC ⟨M, 5, none⟩ hM _
theorem NBox.put6 {N : Nat} {A A' : Na} {x y : Nt} {u : World} (h : NBox N A x u) : NBox N A' y (((((((u).setCell ⟨N, 0, none⟩ (.bool y.pm)).setCell ⟨N, 1, none⟩ (.slice A'.a A'.n A'.c)).setCell ⟨N, 2, none⟩ (.slice A'.a' A'.n' A'.c')).setCell ⟨N, 3, none⟩ (.int .i64 y.on)).setCell ⟨N, 4, none⟩ (.int .i64 y.sp)).setCell ⟨N, 5, none⟩ (.int .i64 y.tk)) := by
  have k := (((((h.set0 (b := y.pm)).set1 (a := A'.a) (n := A'.n) (c := A'.c)).set2 (a := A'.a') (n := A'.n') (c := A'.c')).set3 (v := y.on)).set4 (v := y.sp)).set5 (v := y.tk)
  exact ⟨k.lt, k.c0, k.c1, k.c2, k.c3, k.c4, k.c5, k.fr⟩
/-- A notification's variable in block N; its lists lie behind it, below R. -/
structure NKv (c : Nat) (a : Option Addr) (len cap : Nat) (w : World) (N R : Nat) (A : Na) (x : Nt) (u : World) : Prop where
  dr : Drawn c a len cap w u
  box : NBox N A x u
  own : NRow (w.heap.size + 1) u A x
  apn : apartN A N
  hR : underN A R
  cap' : A.n ≤ A.c
  hN : w.heap.size < N
  cur : Cur c a len cap w
  le : R ≤ u.heap.size
  lt : N < R
  res : NBox w.heap.size Na.zero Nt.zero u
abbrev NKS (c : Nat) (a : Option Addr) (len cap : Nat) (w : World) (N R : Nat) (A : Na) (x : Nt) (u : World) : Prop :=
  u.cell? ⟨N, 0, none⟩ = some (.bool x.pm) ∧ u.cell? ⟨N, 1, none⟩ = some (.slice A.a A.n A.c) ∧ u.cell? ⟨N, 2, none⟩ = some (.slice A.a' A.n' A.c') ∧ u.cell? ⟨N, 3, none⟩ = some (.int .i64 x.on) ∧ u.cell? ⟨N, 4, none⟩ = some (.int .i64 x.sp) ∧ u.cell? ⟨N, 5, none⟩ = some (.int .i64 x.tk) ∧ NKv c a len cap w N R A x u
section
variable {c : Nat} {a : Option Addr} {len cap : Nat} {w : World} {N R : Nat} {A : Na} {x : Nt} {u u' : World}
theorem NKv.s (h : NKv c a len cap w N R A x u) : NKS c a len cap w N R A x u := ⟨h.box.c0, h.box.c1, h.box.c2, h.box.c3, h.box.c4, h.box.c5, h⟩
theorem NKv.keep (h : NKv c a len cap w N R A x u) (hb : Below u.heap.size u u') : NKv c a len cap w N R A x u' :=
  ⟨drawn_keepN h.dr hb, h.box.keep hb, h.own.keep hb, h.apn, h.hR, h.cap', h.hN, h.cur, Nat.le_trans h.le hb.size, h.lt, h.res.keep hb⟩
theorem NKv.draw (h : NKv c a len cap w N R A x u) (hd : Drawn c a len cap u u') : NKv c a len cap w N R A x u' := by
  have hc := h.cur.lt
  have hN := h.hN
  exact ⟨h.dr.trans hd, h.box.dr hd (by omega), h.own.otherN hd.ex (h.own.neN (by omega)), h.apn, h.hR, h.cap', h.hN, h.cur, Nat.le_trans h.le hd.ex.size, h.lt, h.res.dr hd (by omega)⟩
theorem NKv.up (h : NKv c a len cap w N R A x u) : NKv c a len cap w N u.heap.size A x u := ⟨h.dr, h.box, h.own, h.apn, h.own.under, h.cap', h.hN, h.cur, Nat.le_refl _, h.box.lt, h.res⟩
theorem NKv.store6 (h : NKv c a len cap w N R A x u) {M : Nat} (hM : R ≤ M) (A' : Na) (y : Nt) : NKv c a len cap w N R A x (((((((u).setCell ⟨M, 0, none⟩ (.bool y.pm)).setCell ⟨M, 1, none⟩ (.slice A'.a A'.n A'.c)).setCell ⟨M, 2, none⟩ (.slice A'.a' A'.n' A'.c')).setCell ⟨M, 3, none⟩ (.int .i64 y.on)).setCell ⟨M, 4, none⟩ (.int .i64 y.sp)).setCell ⟨M, 5, none⟩ (.int .i64 y.tk)) := by
  have hN := h.hN
  have hl := h.lt
  exact ⟨h.dr.store6 h.cur M (by omega) A' y, h.box.grown (grown6 u M A' y) (by omega), h.own.otherN (grown6 u M A' y) (h.hR.ne hM), h.apn, h.hR, h.cap', h.hN, h.cur, by simpa using h.le, h.lt, h.res.grown (grown6 u M A' y) (by omega)⟩
theorem NKS.kv (h : NKS c a len cap w N R A x u) : NKv c a len cap w N R A x u := h.2.2.2.2.2.2
theorem NKS.curs (h : NKS c a len cap w N R A x u) : Cur c a len cap u := h.kv.dr.cur
theorem NKS.keep (h : NKS c a len cap w N R A x u) (hb : Below u.heap.size u u') : NKS c a len cap w N R A x u' := (h.kv.keep hb).s
theorem NKS.drew (h : NKS c a len cap w N R A x u) : NKS c a len cap w N R A x u.drew := h.keep (Below.refl _ _).drew
theorem NKS.alloc (h : NKS c a len cap w N R A x u) (o : Obj) : NKS c a len cap w N R A x (u.alloc o) := h.keep (bl_alloc (Below.refl _ _) o)
theorem NKS.draw (h : NKS c a len cap w N R A x u) (hd : Drawn c a len cap u u') : NKS c a len cap w N R A x u' := (h.kv.draw hd).s
theorem NKS.store6 (h : NKS c a len cap w N R A x u) {M : Nat} (hM : R ≤ M) (A' : Na) (y : Nt) : NKS c a len cap w N R A x (((((((u).setCell ⟨M, 0, none⟩ (.bool y.pm)).setCell ⟨M, 1, none⟩ (.slice A'.a A'.n A'.c)).setCell ⟨M, 2, none⟩ (.slice A'.a' A'.n' A'.c')).setCell ⟨M, 3, none⟩ (.int .i64 y.on)).setCell ⟨M, 4, none⟩ (.int .i64 y.sp)).setCell ⟨M, 5, none⟩ (.int .i64 y.tk)) := (h.kv.store6 hM A' y).s
end
/-- The next notification in a variable of its own, in block M. -/
structure NxN (c : Nat) (a : Option Addr) (len cap : Nat) (w : World) (N M : Nat) (A : Na) (x : Nt) (A' : Na) (y : Nt) (u : World) : Prop where
  dr : Drawn c a len cap w u
  cur : Cur c a len cap w
  box : NBox N A x u
  nxt : NBox M A' y u
  own : NRow (w.heap.size + 1) u A' y
  apn : apartN A' N
  cap' : A'.n ≤ A'.c
  hN : w.heap.size < N
  ne : M ≠ N
  res : NBox w.heap.size Na.zero Nt.zero u
section
variable {c : Nat} {a : Option Addr} {len cap : Nat} {w : World} {N R : Nat} {A : Na} {x : Nt} {u u' : World} {A' : Na} {y : Nt} {B : Nat}
theorem NxN.ofAlloc (h : NKS c a len cap w N R A x u) (ho : NRow B u A' y) (hc : A'.n ≤ A'.c) (hB : R ≤ B) : NxN c a len cap w N u.heap.size A x A' y (u.alloc (.cells #[.bool y.pm, .slice A'.a A'.n A'.c, .slice A'.a' A'.n' A'.c', .int .i64 y.on, .int .i64 y.sp, .int .i64 y.tk] 27)) := by
  have k := h.kv.keep (bl_alloc (Below.refl _ _) (.cells #[.bool y.pm, .slice A'.a A'.n A'.c, .slice A'.a' A'.n' A'.c', .int .i64 y.on, .int .i64 y.sp, .int .i64 y.tk] 27))
  have hl := h.kv.lt
  exact ⟨k.dr, k.cur, k.box, NBox.new u A' y _, (ho.keep (bl_alloc (Below.refl _ _) _)).mono (by have := k.hN; omega), ho.neN (by omega), hc, k.hN, by have := h.kv.box.lt; omega, k.res⟩
theorem NxN.ofStore {M : Nat} {A0 : Na} {x0 : Nt} (h : NKS c a len cap w N R A x u) (hM : NBox M A0 x0 u) (hRM : R ≤ M) (ho : NRow B u A' y) (hc : A'.n ≤ A'.c) (hMB : M < B) : NxN c a len cap w N M A x A' y (((((((u).setCell ⟨M, 0, none⟩ (.bool y.pm)).setCell ⟨M, 1, none⟩ (.slice A'.a A'.n A'.c)).setCell ⟨M, 2, none⟩ (.slice A'.a' A'.n' A'.c')).setCell ⟨M, 3, none⟩ (.int .i64 y.on)).setCell ⟨M, 4, none⟩ (.int .i64 y.sp)).setCell ⟨M, 5, none⟩ (.int .i64 y.tk)) := by
  have k := h.kv.store6 hRM A' y
  have hl := h.kv.lt
  exact ⟨k.dr, k.cur, k.box, hM.put6, (ho.otherN (grown6 u M A' y) (ho.neN hMB)).mono (by have := k.hN; omega), ho.neN (by omega), hc, k.hN, by omega, k.res⟩
theorem NxN.put {M : Nat} (h : NxN c a len cap w N M A x A' y u) : NKv c a len cap w N u.heap.size A' y (((((((u).setCell ⟨N, 0, none⟩ (.bool y.pm)).setCell ⟨N, 1, none⟩ (.slice A'.a A'.n A'.c)).setCell ⟨N, 2, none⟩ (.slice A'.a' A'.n' A'.c')).setCell ⟨N, 3, none⟩ (.int .i64 y.on)).setCell ⟨N, 4, none⟩ (.int .i64 y.sp)).setCell ⟨N, 5, none⟩ (.int .i64 y.tk)) := by
  have hN := h.hN
  have hs : ((((((((u).setCell ⟨N, 0, none⟩ (.bool y.pm)).setCell ⟨N, 1, none⟩ (.slice A'.a A'.n A'.c)).setCell ⟨N, 2, none⟩ (.slice A'.a' A'.n' A'.c')).setCell ⟨N, 3, none⟩ (.int .i64 y.on)).setCell ⟨N, 4, none⟩ (.int .i64 y.sp)).setCell ⟨N, 5, none⟩ (.int .i64 y.tk)) : World).heap.size = u.heap.size := by simp
  have ho := h.own.otherN (grown6 u N A' y) h.apn
  have hu := ho.under
  rw [hs] at hu
  exact ⟨h.dr.store6 h.cur N (Nat.le_of_lt hN) A' y, h.box.put6, ho, h.apn, hu, h.cap', h.hN, h.cur, by simp, h.box.lt, h.res.grown (grown6 u N A' y) (by omega)⟩
end
end Go.Proofs.Ytfgknbflgmblmaa
