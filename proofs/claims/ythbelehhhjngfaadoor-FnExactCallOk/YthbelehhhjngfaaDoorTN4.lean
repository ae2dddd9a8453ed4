/-
  Names and patterns: the program's parts, and which texts are right.
-/
import Derived.Test.YthbelehhhjngfaaDoorTN3
import Derived.Test.YthbelehhhjngfaaDoorShelfS
namespace Go.Proofs.YthbelehhhjngfaaDoor
open Go.RowKit Pl Il Tn Go.Shelf

/-- The library's variable holds some number. -/
def GOkT (w : World) : Prop := ∃ m, w.cell? ⟨0, 0, none⟩ = some (.int .i64 m)
theorem GOkT.lt {w : World} (h : GOkT w) : 0 < w.heap.size := by
  obtain ⟨m, hm⟩ := h
  exact World.block_lt_of_cell? _ _ hm
theorem GOkT.keep {w w' : World} (h : GOkT w) (hb : Below w.heap.size w w') : GOkT w' := by
  have hl := h.lt
  obtain ⟨m, hm⟩ := h
  exact ⟨m, by rw [hb.cell (p := ⟨0, 0, none⟩) hl]; exact hm⟩
theorem split_any (s : ByteArray) (w : World) (hs : s.size ≤ 24) (hg : GOkT w) : Calls Tryd.prog 44 #[.string s, .string ⟨#[46]⟩] w (PartsP w s) := by
  obtain ⟨m, hm⟩ := hg
  refine (Any.strings_Split (P := Tryd.prog) (ρ := Tryd.lays146_ren) Tryd.lays146 infoStr s ⟨#[46]⟩ m w (by omega) hm (by decide)).mono ?_
  rintro e w' ⟨rfl, rfl⟩
  refine ⟨some ⟨w.heap.size, 0, none⟩, Lib.countB s ⟨#[46]⟩ + 1, ?_, ?_, bl_alloc (Below.refl _ _) _⟩
  · rw [parts_len]; rfl
  · exact strs_new w (partsB s)
theorem partsOf_any (s : ByteArray) (w : World) (hs : s.size ≤ 24) (hg : GOkT w) : Calls Tryd.prog 38 #[.string s] w (PartsP w s) := by
  have HS := hidT (split_any s w hs hg)
  go_enter Tryd.func38, Tryd.ntmps38
  go_wp2_with fail
  refine HS.out.mono ?_
  rintro e w' ⟨a, c, rfl, h1, h2⟩
  go_wp2
  go_ret
  exact ⟨a, c, rfl, h1, h2⟩
end Go.Proofs.YthbelehhhjngfaaDoor
