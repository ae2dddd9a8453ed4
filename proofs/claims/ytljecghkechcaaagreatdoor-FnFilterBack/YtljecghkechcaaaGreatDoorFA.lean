/-
  Walks of the laws' own helpers: too great a code, a number of it.
-/
import Derived.Test.YtljecghkechcaaaGreatDoorZFnFilterBack3
import Derived.Test.YtljecghkechcaaaGreatDoorZFnFilterBack22
namespace Go.Proofs.YtljecghkechcaaaGreatDoor
open Go.RowKit Pl Il Dr

theorem bigC_any (a : Option Addr) (n cap : Nat) (w : World) :
    Calls Tryz.prog 4 #[.slice a n cap] w fun e w' => e = .returned (.bool (decide (1048576 < n))) ∧ w' = w := by
  go_enter Tryz.func4, Tryz.ntmps4
  go_wp2
  go_ret
  refine ⟨rbool ?_, rfl⟩
  rw [Bool.eq_iff_iff]; simp; try omega
theorem bytes_below {c : Nat} {w u : World} {a : Option Addr} {len cap : Nat} (h : Bytes c w a len cap) (hb : Below w.heap.size w u) : Bytes c u a len cap := by
  obtain ⟨hl, hm, h | ⟨b, off, rfl, hlt, hn, hc⟩⟩ := h
  · exact ⟨hl, hm, .inl h⟩
  · exact ⟨hl, hm, .inr ⟨b, off, rfl, Nat.lt_of_lt_of_le hlt hb.size, hn, fun i hi => by rw [hb.cell (p := ⟨b, off + i, none⟩) hlt]; exact hc i hi⟩⟩
end Go.Proofs.YtljecghkechcaaaGreatDoor
