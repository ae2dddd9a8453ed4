/-
  A call among the arguments: what its cells are.
-/
import Derived.Test.YthbelehhhjngfaaDoorL8
import Derived.Test.YthbelehhhjngfaaDoorCK1
namespace Go.Proofs.YthbelehhhjngfaaDoor
open Go.ChangeShapes Go.WideShapes Go.ChangeAt Go.RowKit Go.Joins Go.Deep

theorem cellsCm : Tryd.prog.cellsOf 23 = 3 := by kernel_rfl
theorem cellsCf : Tryd.prog.cellsOf 24 = 1 := by kernel_rfl
theorem terms_cellC {H : Type} {enc : TypeId × Value → H} {W : World} {base fuel : Nat} {sp : Nat → Bool} {held : Bool} {v : Value} {x : DataW H × List MemPlace}
    (hf : DataW.trod enc Tryd.prog W base sp held fuel 24 [v] = some x) : ∃ a n c ts, v = .slice a n c ∧ n ≤ 9223372036854775807 ∧ TmAt W a n ts := by
  rcases open_slice Tryd.underlying24 hf with ⟨hcs, _⟩ | ⟨ad, l, c, m, n, D, Pl, hcs, _, _⟩
  · simp at hcs
    subst hcs
    exact ⟨none, 0, 0, [], rfl, by omega, TmAt.nil _ _⟩
  · simp at hcs
    subst hcs
    obtain ⟨h1, ts, h2⟩ := terms_of (a := some ad) (len := l) (cap := c) (by simpa [Value.cells] using hf)
    exact ⟨some ad, l, c, ts, rfl, h1, h2⟩
set_option maxRecDepth 100000 in
/-- A message's three cells. -/
theorem msg_cellsC {H : Type} {enc : TypeId × Value → H} {W : World} {base m : Nat} {c0 c1 c2 : Value} {y : DataW H × List MemPlace} (h : DataW.trod enc Tryd.prog W base (fun _ => true) true m 23 [c0, c1, c2] = some y) :
    ∃ (k n : Int) (s : ByteArray), c0 = .int .i64 k ∧ c1 = .int .i64 n ∧ c2 = .string s ∧ s.size ≤ maxLen := by
  obtain ⟨zs, m', _, _, _, hlenz, hgg⟩ := DataW.trod_struct Tryd.underlying23 h
  match zs, hlenz with
  | [z0, z1, z2], _ =>
    have r0 : DataW.trod enc Tryd.prog W base (fun _ => true) true m' 3 [c0] = some z0 := by simpa [cellsTi] using hgg 0 _ rfl
    have r1 : DataW.trod enc Tryd.prog W base (fun _ => true) true m' 3 [c1] = some z1 := by simpa [cellsTi] using hgg 1 _ rfl
    have r2 : DataW.trod enc Tryd.prog W base (fun _ => true) true m' 9 [c2] = some z2 := by simpa [cellsTs] using hgg 2 _ rfl
    obtain ⟨k, e0, _, wk⟩ := DataW.trod_int Tryd.underlying3 r0
    obtain ⟨n, e1, _, wn⟩ := DataW.trod_int Tryd.underlying3 r1
    obtain ⟨s, e2, _, hs⟩ := DataW.trod_string Tryd.underlying9 r2
    simp only [List.cons.injEq, and_true] at e0 e1 e2
    exact ⟨k, n, s, e0, e1, e2, hs⟩
set_option maxRecDepth 100000 in
/-- A call among the arguments. -/
theorem call_arg {H : Type} {enc : TypeId × Value → H} {W : World} {base b0 : Nat} {v : Value} {d : DataW H} {p : List MemPlace} {r : Reach} (hv : Value.okWide Tryd.prog W r b0 26 v) (h : DataW.Trod enc Tryd.prog W base (fun _ => true) true 26 v d p) :
    ∃ (x : Cl) (a : Option Addr) (m c : Nat), v = .agg #[.int .i64 x.op, .int .i64 x.a, .int .i64 x.b, .int .i64 x.tk, .string x.nm, .int .i64 x.kd, .int .i64 x.nu, .string x.tx, .slice a m c] ∧ m ≤ 9223372036854775807 ∧ CIn W x a m := by
  obtain ⟨cs, rfl, hsz⟩ := okWide_struct Tryd.underlying26 hv
  have hszn : cs.size = 9 := hsz.trans (by kernel_rfl)
  obtain ⟨cl⟩ := cs
  match cl, hszn with
  | [c0, c1, c2, c3, c4, c5, c6, c7, c8], _ =>
    obtain ⟨fuel, hf⟩ := h
    obtain ⟨xs, n, _, _, hl, hlen, hff⟩ := DataW.trod_struct Tryd.underlying26 hf
    match xs, hlen with
    | [y0, y1, y2, y3, y4, y5, y6], _ =>
      have q0 : DataW.trod enc Tryd.prog W base (fun _ => true) true n 3 [c0] = some y0 := by simpa [Value.cells, cellsTi] using hff 0 _ rfl
      have q1 : DataW.trod enc Tryd.prog W base (fun _ => true) true n 3 [c1] = some y1 := by simpa [Value.cells, cellsTi] using hff 1 _ rfl
      have q2 : DataW.trod enc Tryd.prog W base (fun _ => true) true n 3 [c2] = some y2 := by simpa [Value.cells, cellsTi] using hff 2 _ rfl
      have q3 : DataW.trod enc Tryd.prog W base (fun _ => true) true n 3 [c3] = some y3 := by simpa [Value.cells, cellsTi] using hff 3 _ rfl
      have q4 : DataW.trod enc Tryd.prog W base (fun _ => true) true n 9 [c4] = some y4 := by simpa [Value.cells, cellsTi, cellsTs] using hff 4 _ rfl
      have q5 : DataW.trod enc Tryd.prog W base (fun _ => true) true n 23 [c5, c6, c7] = some y5 := by simpa [Value.cells, cellsTi, cellsTs, cellsCm] using hff 5 _ rfl
      have q6 : DataW.trod enc Tryd.prog W base (fun _ => true) true n 24 [c8] = some y6 := by simpa [Value.cells, cellsTi, cellsTs, cellsCm, cellsCf] using hff 6 _ rfl
      obtain ⟨op, e0, _, _⟩ := DataW.trod_int Tryd.underlying3 q0
      obtain ⟨a, e1, _, _⟩ := DataW.trod_int Tryd.underlying3 q1
      obtain ⟨b, e2, _, _⟩ := DataW.trod_int Tryd.underlying3 q2
      obtain ⟨tk, e3, _, _⟩ := DataW.trod_int Tryd.underlying3 q3
      obtain ⟨nm, e4, _, hnm⟩ := DataW.trod_string Tryd.underlying9 q4
      obtain ⟨kd, nu, tx, rfl, rfl, rfl, htx⟩ := msg_cellsC q5
      obtain ⟨pa, m, c, ts, rfl, hm, hts⟩ := terms_cellC q6
      simp at e0 e1 e2 e3 e4
      subst e0 e1 e2 e3 e4
      exact ⟨⟨op, a, b, tk, nm, kd, nu, tx, ts⟩, pa, m, c, rfl, hm, ⟨hnm, htx, hts⟩⟩
end Go.Proofs.YthbelehhhjngfaaDoor
