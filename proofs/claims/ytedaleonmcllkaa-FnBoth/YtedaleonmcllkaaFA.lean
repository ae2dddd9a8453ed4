/-
  Walks of the laws' own helpers: too great a code, a number of it.
-/
import Derived.Test.YtedaleonmcllkaaH1
import Derived.Test.YtedaleonmcllkaaE0
namespace Go.Proofs.Ytedaleonmcllkaa
open Go.RowKit Pl Il Dr

theorem bigC_any (a : Option Addr) (n cap : Nat) (w : World) :
    Calls Try.prog 9 #[.slice a n cap] w fun e w' => e = .returned (.bool (decide (1048576 < n))) ∧ w' = w := by
  go_enter Try.func9, Try.ntmps9
  go_wp2
  go_ret
  refine ⟨rbool ?_, rfl⟩
  rw [Bool.eq_iff_iff]; simp; try omega
theorem atN_any (c : Nat) (a : Option Addr) (len cap : Nat) (i : Nat) (w : World) (hB : Bytes c w a len cap) (hi : i ≤ 1000) :
    Calls Try.prog 21 #[.slice a len cap, .int .i64 i] w fun e w' => ∃ y : Int, e = .returned (.int .i64 y) ∧ 0 ≤ y ∧ y ≤ 255 ∧ w' = w := by
  obtain ⟨hl, _, rfl | ⟨b, off, rfl, _, _, hc⟩⟩ := hB
  · have h0 : ¬ (i : Int) < 0 := by omega
    go_enter Try.func21, Try.ntmps21
    go_wp2
    go_ret
    exact ⟨_, rfl, by omega, by omega, rfl⟩
  · by_cases h0 : i < len
    · obtain ⟨n, hn, n0, n1⟩ := hc i h0
      have hi0 : (i : Int) < (len : Int) := by omega
      have hi1 : (0 : Int) ≤ (i : Int) := by omega
      clear hc
      go_enter Try.func21, Try.ntmps21
      go_wp2
      go_ret
      exact ⟨_, rfl, by omega, by omega, rfl⟩
    · have hi0 : ¬ (i : Int) < (len : Int) := by omega
      clear hc
      go_enter Try.func21, Try.ntmps21
      go_wp2
      go_ret
      exact ⟨_, rfl, by omega, by omega, rfl⟩
theorem bytes_below {c : Nat} {w u : World} {a : Option Addr} {len cap : Nat} (h : Bytes c w a len cap) (hb : Below w.heap.size w u) : Bytes c u a len cap := by
  obtain ⟨hl, hm, h | ⟨b, off, rfl, hlt, hn, hc⟩⟩ := h
  · exact ⟨hl, hm, .inl h⟩
  · exact ⟨hl, hm, .inr ⟨b, off, rfl, Nat.lt_of_lt_of_le hlt hb.size, hn, fun i hi => by rw [hb.cell (p := ⟨b, off + i, none⟩) hlt]; exact hc i hi⟩⟩
end Go.Proofs.Ytedaleonmcllkaa
