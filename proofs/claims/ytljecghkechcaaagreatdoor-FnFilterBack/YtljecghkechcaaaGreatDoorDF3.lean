/-
  Walks of the specification's draws: a filter and a message; two filters.
-/
import Derived.Test.YtljecghkechcaaaGreatDoorDF2
namespace Go.Proofs.YtljecghkechcaaaGreatDoor
open Go.RowKit Pl Il Dr

theorem Dr.Bytes.laterF {w w' : World} {a : Option Addr} {len cap : Nat} (h : Bytes w.heap.size w a len cap) (hb : Below w.heap.size w w') (c : Nat) (hc : w.heap.size ≤ c) : Bytes c w' a len cap := by
  obtain ⟨hl, hm, h | ⟨b, off, rfl, hb', hn, hcell⟩⟩ := h
  · exact ⟨hl, hm, .inl h⟩
  · refine ⟨hl, hm, .inr ⟨b, off, rfl, Nat.lt_of_lt_of_le hb' hb.size, by omega, fun i hi => ?_⟩⟩
    rw [hb.cell (p := ⟨b, off + i, none⟩) hb']; exact hcell i hi
/-- A filter and a message are drawn. -/
def DpP (w : World) (e : Ending) (w' : World) : Prop := ∃ (a' : Option Addr) (m c' : Nat) (l : List Tm) (k n : Int) (s : ByteArray), e = .returned (.tuple #[.slice a' m c', .agg #[.int .i64 k, .int .i64 n, .string s]]) ∧ m ≤ 13 ∧ TmAt w' a' m l ∧ s.size ≤ 41 ∧ Below w.heap.size w w'
theorem tm_of_row {B : Nat} {w : World} {t : TypeId} {a' : Option Addr} {m c' : Nat} {l : List Tm} (h : w.ownsRow B t 3 (.slice a' m c') m (qflat l)) (hs : ∀ p, p ∈ l → p.2.2.size ≤ maxLen) : TmAt w a' m l := by
  obtain ⟨a2, c2, e, _, ho⟩ := ownF_of h l rfl hs
  cases e
  exact ho.tm
/-- Two filters are drawn. -/
def DbP (w : World) (e : Ending) (w' : World) : Prop := ∃ (a' : Option Addr) (m c' : Nat) (l : List Tm) (a2 : Option Addr) (m2 c2 : Nat) (l2 : List Tm), e = .returned (.tuple #[.slice a' m c', .slice a2 m2 c2]) ∧ m ≤ 13 ∧ m2 ≤ 13 ∧ TmAt w' a' m l ∧ TmAt w' a2 m2 l2 ∧ Below w.heap.size w w'
end Go.Proofs.YtljecghkechcaaaGreatDoor
