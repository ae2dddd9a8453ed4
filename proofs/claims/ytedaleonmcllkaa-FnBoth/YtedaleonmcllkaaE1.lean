/-
  Walks of the specification's draws: whatever the bytes, a byte is drawn, and the cursor stays a cursor.
-/
import Derived.Test.YtedaleonmcllkaaRows
import Derived.Test.YtedaleonmcllkaaE0
import Derived.WalkSpells
import Derived.WalkLawsBesides
import Derived.RowKit3
import Derived.Deep.RegionHeld3
import Derived.Deep.RegionWith
import Derived.Deep.QuietTactic
import Derived.BigQuiet
namespace Go.Proofs.Ytedaleonmcllkaa
open Go.RowKit Pl Dr

/-- What a draw leaves: the cursor, and all but its block. -/
structure Drawn (c : Nat) (a : Option Addr) (len cap : Nat) (w w' : World) : Prop where
  cur : Cur c a len cap w'
  ex : Ex c w w'

theorem byte_end (a : Option Addr) (len cap : Nat) (c : Nat) (i : Nat) (h : Int) (w : World) (hC : Cur c a len cap w) (hi : ¬ i < len)
    (h0 : w.cell? ⟨c, 0, none⟩ = some (.slice a len cap)) (h1 : w.cell? ⟨c, 1, none⟩ = some (.int .i64 i)) (h2 : w.cell? ⟨c, 2, none⟩ = some (.int .i64 h)) (f2 : w.frozen? ⟨c, 2, none⟩ = false) :
    Calls Try.prog 57 #[.pointer (some ⟨c, 0, none⟩)] w fun e w' => ∃ x : Int, e = .returned (.int .i64 x) ∧ 0 ≤ x ∧ x ≤ 255 ∧ Drawn c a len cap w w' := by
  go_enter Try.func57, Try.ntmps57
  go_wp2
  go_quiet (fail)
  go_wp2
  go_quiet (fail)
  go_wp2
  go_ret
  exact ⟨_, rfl, (and255 _).1, (and255 _).2, ((hC.wrote2 _).drewN _).drewN _, (((Ex.refl _ _).setCell _ rfl _).drewN _).drewN _⟩

theorem byte_more (b off : Nat) (len cap : Nat) (c : Nat) (i : Nat) (h n : Int) (w : World) (hC : Cur c (some ⟨b, off, none⟩) len cap w) (hi : i < len) (hl : len ≤ 1048577) (hb : b ≠ c)
    (h0 : w.cell? ⟨c, 0, none⟩ = some (.slice (some ⟨b, off, none⟩) len cap)) (h1 : w.cell? ⟨c, 1, none⟩ = some (.int .i64 i)) (h2 : w.cell? ⟨c, 2, none⟩ = some (.int .i64 h))
    (hn : w.cell? ⟨b, off + i, none⟩ = some (.int .u8 n)) (n0 : 0 ≤ n) (n1 : n ≤ 255) (f1 : w.frozen? ⟨c, 1, none⟩ = false) (f2 : w.frozen? ⟨c, 2, none⟩ = false) :
    Calls Try.prog 57 #[.pointer (some ⟨c, 0, none⟩)] w fun e w' => ∃ x : Int, e = .returned (.int .i64 x) ∧ 0 ≤ x ∧ x ≤ 255 ∧ Drawn c (some ⟨b, off, none⟩) len cap w w' := by
  go_enter Try.func57, Try.ntmps57
  go_wp2
  go_quiet (fail)
  go_wp2
  go_quiet (fail)
  go_wp2
  go_quiet (fail)
  go_wp2
  go_ret
  refine ⟨_, rfl, (and255 _).1, (and255 _).2, ?_, ?_⟩
  · exact ((hC.wrote2 _).drewN _).wrote1 _ (i + 1) (by omega) (by omega)
  · exact (((Ex.refl c w).setCell ⟨c, 2, none⟩ rfl _).drewN _).setCell ⟨c, 1, none⟩ rfl _

/-- A byte is drawn. -/
theorem byte_any (a : Option Addr) (len cap : Nat) (c : Nat) (w : World) (hC : Cur c a len cap w) :
    Calls Try.prog 57 #[.pointer (some ⟨c, 0, none⟩)] w fun e w' => ∃ x : Int, e = .returned (.int .i64 x) ∧ 0 ≤ x ∧ x ≤ 255 ∧ Drawn c a len cap w w' := by
  obtain ⟨i, hi, h1⟩ := hC.at1
  obtain ⟨h, h2⟩ := hC.at2
  by_cases hlt : i < len
  · obtain ⟨hl, _, k | ⟨b, off, rfl, _, hbc, hc⟩⟩ := hC.bytes
    · omega
    · obtain ⟨n, hn, n0, n1⟩ := hc i hlt
      exact byte_more b off len cap c i h n w hC hlt hl hbc hC.at0 h1 h2 hn n0 n1 hC.fr1 hC.fr2
  · exact byte_end a len cap c i h w hC hlt hC.at0 h1 h2 hC.fr2

/-- A number below n is drawn. -/
theorem below_any (a : Option Addr) (len cap : Nat) (c : Nat) (n : Int) (w : World) (hC : Cur c a len cap w) (h0 : 0 < n) (h1 : n ≤ 256) :
    Calls Try.prog 46 #[.pointer (some ⟨c, 0, none⟩), .int .i64 n] w fun e w' => ∃ x : Int, e = .returned (.int .i64 x) ∧ 0 ≤ x ∧ x < n ∧ Drawn c a len cap w w' := by
  have hn : ¬ n = 0 := by omega
  have hn' : ¬ n ≤ 0 := by omega
  go_enter Try.func46, Try.ntmps46
  go_wp2_with fail
  refine (byte_any a len cap c _ hC).mono ?_
  rintro e w1 ⟨x, rfl, x0, x1, hd⟩
  go_wp2
  go_ret
  exact ⟨_, rfl, Int.emod_nonneg _ hn, Int.emod_lt_of_pos _ h0, hd⟩

/-- Once in n. -/
theorem once_any (a : Option Addr) (len cap : Nat) (c : Nat) (n : Int) (w : World) (hC : Cur c a len cap w) (h0 : 0 < n) (h1 : n ≤ 256) :
    Calls Try.prog 45 #[.pointer (some ⟨c, 0, none⟩), .int .i64 n] w fun e w' => ∃ x : Bool, e = .returned (.bool x) ∧ Drawn c a len cap w w' := by
  go_enter Try.func45, Try.ntmps45
  go_wp2_with fail
  refine (below_any a len cap c n _ hC h0 h1).mono ?_
  rintro e w1 ⟨x, rfl, x0, x1, hd⟩
  go_wp2
  go_ret
  exact ⟨_, rfl, hd⟩
end Go.Proofs.Ytedaleonmcllkaa
