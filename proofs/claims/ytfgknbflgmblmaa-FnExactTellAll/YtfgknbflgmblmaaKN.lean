/-
  What a call on a notification hands back; what a marking of a third list leaves alone.
-/
import Derived.Test.YtfgknbflgmblmaaLN4
namespace Go.Proofs.Ytfgknbflgmblmaa
open Go.RowKit Pl Il

/-- A notification is handed back, and more. -/
def NOutP (w : World) (y : Nt) (r : List Value) (e : Ending) (w' : World) : Prop :=
  ∃ A' : Na, e = .returned (.tuple (#[.agg #[.bool y.pm, .slice A'.a A'.n A'.c, .slice A'.a' A'.n' A'.c', .int .i64 y.on, .int .i64 y.sp, .int .i64 y.tk]] ++ r.toArray)) ∧ NOwn w.heap.size w' A' y ∧ A'.n ≤ A'.c ∧ Below w.heap.size w w'
/-- It is handed back, a list apart from it, and a number. -/
def NOutT (w : World) (y : Nt) (l : List Int) (r : Int) (e : Ending) (w' : World) : Prop :=
  ∃ (A' : Na) (a : Option Addr) (m c : Nat), e = .returned (.tuple #[.agg #[.bool y.pm, .slice A'.a A'.n A'.c, .slice A'.a' A'.n' A'.c', .int .i64 y.on, .int .i64 y.sp, .int .i64 y.tk], .slice a m c, .int .i64 r]) ∧ NOwn w.heap.size w' A' y ∧ A'.n ≤ A'.c ∧ Il.OwnAt w.heap.size w' a m l ∧ Apart3 A'.a A'.n A'.a' A'.n' a m ∧ Below w.heap.size w w'
theorem NOwn.listed {B : Nat} {w w' : World} {A : Na} {x : Nt} {a3 : Option Addr} {n3 : Nat} (h : NOwn B w A x) (hl : Listed a3 n3 w w') (hap : Apart3 A.a A.n A.a' A.n' a3 n3) : NOwn B w' A x := by
  rcases hl with ⟨_, rfl⟩ | ⟨hp, b, off, rfl, hg⟩
  · exact h
  · rcases hap with h0 | hap
    · omega
    · obtain ⟨h1, h2⟩ := hap b off rfl
      exact ⟨h.one.other hg h1, h.two.other hg h2, h.apart⟩
theorem NBox.listed {N : Nat} {A : Na} {x : Nt} {w w' : World} {a3 : Option Addr} {n3 : Nat} (h : NBox N A x w) (hl : Listed a3 n3 w w') (hs : n3 = 0 ∨ ∀ b off, a3 = some ⟨b, off, none⟩ → b < N) : NBox N A x w' := by
  rcases hl with ⟨_, rfl⟩ | ⟨hp, b, off, rfl, hg⟩
  · exact h
  · rcases hs with h0 | hs
    · omega
    · have := hs b off rfl
      exact h.grownO hg (by intro e; cases e; omega)
theorem mark_nn6 (n m l : Nat) : ¬ (1 : Int) + (n : Int) + 2 * (m : Int) + (l : Int) < 0 := by omega
end Go.Proofs.Ytfgknbflgmblmaa
