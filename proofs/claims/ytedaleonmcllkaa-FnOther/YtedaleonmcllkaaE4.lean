/-
  Walks of the specification's draws: a new cursor; two messages.
-/
import Derived.Test.YtedaleonmcllkaaE3
namespace Go.Proofs.Ytedaleonmcllkaa
open Go.RowKit Pl Dr

theorem Cur.new (w : World) (a : Option Addr) (len cap : Nat) (h : Int) (t : TypeId) (hB : Bytes w.heap.size w a len cap) :
    Cur w.heap.size a len cap (w.alloc (.cells #[.slice a len cap, .int .i64 0, .int .i64 h] t)) :=
  ⟨by simp, hB.keep (Ex.of (bl_alloc (Below.refl _ _) _)), by simp, ⟨0, Nat.zero_le _, by simp⟩, ⟨h, by simp⟩, by simp [go_sem], by simp [go_sem]⟩

theorem new_nil (a : Option Addr) (cap : Nat) (w : World) (hB : Bytes w.heap.size w a 0 cap) :
    Calls Try.prog 30 #[.slice a 0 cap] w fun e w' => e = .returned (.pointer (some ⟨w.heap.size, 0, none⟩)) ∧ Cur w.heap.size a 0 cap w' ∧ Below w.heap.size w w' := by
  go_enter Try.func30, Try.ntmps30
  go_wp2
  go_loop [3, 4] (fun h i => i = .int .i64 0 ∧ ∃ n : Int, h = .int .i64 n) (fun _ _ => 0)
  case atStart => exact ⟨rfl, _, rfl⟩
  case round =>
    obtain ⟨rfl, n, rfl⟩ := hrel
    go_wp2
    go_ret
    exact ⟨rfl, Cur.new w a 0 cap n _ hB, bl_alloc (Below.refl _ _) _⟩

theorem new_row (b off len cap : Nat) (w : World) (hB : Bytes w.heap.size w (some ⟨b, off, none⟩) len cap) (hl : len ≤ 1048577)
    (hc : ∀ i, i < len → ∃ n : Int, w.cell? ⟨b, off + i, none⟩ = some (.int .u8 n) ∧ 0 ≤ n ∧ n ≤ 255) :
    Calls Try.prog 30 #[.slice (some ⟨b, off, none⟩) len cap] w fun e w' => e = .returned (.pointer (some ⟨w.heap.size, 0, none⟩)) ∧ Cur w.heap.size (some ⟨b, off, none⟩) len cap w' ∧ Below w.heap.size w w' := by
  go_enter Try.func30, Try.ntmps30
  go_wp2
  go_loop [3, 4] (fun h i => (∃ k : Nat, k ≤ len ∧ i = .int .i64 k) ∧ ∃ n : Int, h = .int .i64 n) (fun _ i => len - (intOf i).toNat)
  case atStart => exact ⟨⟨0, Nat.zero_le _, rfl⟩, _, rfl⟩
  case round =>
    obtain ⟨⟨k, hk, rfl⟩, n, rfl⟩ := hrel
    by_cases hlt : k < len
    · obtain ⟨x, hx, x0, x1⟩ := hc k hlt
      by_cases h4 : (k : Int) < 4000
      · go_wp2
        go_round
        case rel => exact ⟨⟨k + 1, by omega, by go_num⟩, _, rfl⟩
        case measure => simp [intOf]; omega
      · go_wp2
        go_ret
        exact ⟨rfl, Cur.new w _ len cap n _ hB, bl_alloc (Below.refl _ _) _⟩
    · go_wp2
      go_ret
      exact ⟨rfl, Cur.new w _ len cap n _ hB, bl_alloc (Below.refl _ _) _⟩

theorem new_any (a : Option Addr) (len cap : Nat) (w : World) (hB : Bytes w.heap.size w a len cap) :
    Calls Try.prog 30 #[.slice a len cap] w fun e w' => e = .returned (.pointer (some ⟨w.heap.size, 0, none⟩)) ∧ Cur w.heap.size a len cap w' ∧ Below w.heap.size w w' := by
  obtain ⟨hl, _, rfl | ⟨b, off, rfl, hb, hn, hc⟩⟩ := id hB
  · exact new_nil a cap w hB
  · exact new_row b off len cap w hB hl hc
end Go.Proofs.Ytedaleonmcllkaa
