/-
  A list of topics among the arguments: what its cells are.
  A merge among the arguments: what its cells are.
  A row that lists variables, whose law reads one more of the library's: the world's shape is kept beside the list.
-/
import Derived.Test.YtffpecdjfcgadaaGreatDoorZTm13
import Derived.Test.YtffpecdjfcgadaaGreatDoorZTm14
import Derived.Test.YtffpecdjfcgadaaGreatDoorZTm37
import Derived.Test.YtffpecdjfcgadaaGreatDoorRows
import Derived.HandedShaped
import Derived.Handed
namespace Go.Proofs.YtffpecdjfcgadaaGreatDoor
open Go.ChangeShapes Go.WideShapes Go.ChangeAt Go.RowKit Go.Joins Go.Deep

theorem cellsT9 : Tryz.prog.cellsOf 45 = 9 := by kernel_rfl
theorem cellsR8 : Tryz.prog.cellsOf 43 = 8 := by kernel_rfl
theorem cellsKb : Tryz.prog.cellsOf 4 = 1 := by kernel_rfl
theorem cellsKs : Tryz.prog.cellsOf 9 = 1 := by kernel_rfl
theorem cellsKl : Tryz.prog.cellsOf 41 = 1 := by kernel_rfl
theorem cellsKm : Tryz.prog.cellsOf 39 = 1 := by kernel_rfl
theorem cellsKu : Tryz.prog.cellsOf 40 = 1 := by kernel_rfl
set_option maxRecDepth 100000 in
/-- A ring, out of the cells that hold it. -/
theorem ring_cells {H : Type} {enc : TypeId × Value → H} {W : World} {base n : Nat} {sp : Nat → Bool} {held : Bool} {c0 c1 c2 c3 c4 c5 c6 c7 : Value} {y : DataW H × List MemPlace} (hf : DataW.trod enc Tryz.prog W base sp held n 43 [c0, c1, c2, c3, c4, c5, c6, c7] = some y) :
    ∃ (M : Rm) (x : Rv), c0 = .int .i64 x.cp ∧ c1 = .int .i64 x.se ∧ c2 = .slice M.ia M.i M.ic ∧ c3 = .int .i64 x.nx ∧ c4 = .slice M.sa M.s M.sc ∧ c5 = .slice M.la M.l M.lc ∧ c6 = .slice M.ga M.g M.gc ∧ c7 = .bool x.cl ∧ RLe M 9223372036854775807 ∧ RIn W M x ∧ RWf x := by
  obtain ⟨xs, n, _, _, _, hlen, hff⟩ := DataW.trod_struct Tryz.underlying43 hf
  match xs, hlen with
  | [y0, y1, y2, y3, y4, y5, y6, y7], _ =>
    have g0 : DataW.trod enc Tryz.prog W base sp held n 3 [c0] = some y0 := by simpa [cellsTi, cellsKb, cellsKl, cellsKm, cellsKu] using hff 0 _ rfl
    have g1 : DataW.trod enc Tryz.prog W base sp held n 3 [c1] = some y1 := by simpa [cellsTi, cellsKb, cellsKl, cellsKm, cellsKu] using hff 1 _ rfl
    have g2 : DataW.trod enc Tryz.prog W base sp held n 39 [c2] = some y2 := by simpa [cellsTi, cellsKb, cellsKl, cellsKm, cellsKu] using hff 2 _ rfl
    have g3 : DataW.trod enc Tryz.prog W base sp held n 3 [c3] = some y3 := by simpa [cellsTi, cellsKb, cellsKl, cellsKm, cellsKu] using hff 3 _ rfl
    have g4 : DataW.trod enc Tryz.prog W base sp held n 40 [c4] = some y4 := by simpa [cellsTi, cellsKb, cellsKl, cellsKm, cellsKu] using hff 4 _ rfl
    have g5 : DataW.trod enc Tryz.prog W base sp held n 41 [c5] = some y5 := by simpa [cellsTi, cellsKb, cellsKl, cellsKm, cellsKu] using hff 5 _ rfl
    have g6 : DataW.trod enc Tryz.prog W base sp held n 41 [c6] = some y6 := by simpa [cellsTi, cellsKb, cellsKl, cellsKm, cellsKu] using hff 6 _ rfl
    have g7 : DataW.trod enc Tryz.prog W base sp held n 4 [c7] = some y7 := by simpa [cellsTi, cellsKb, cellsKl, cellsKm, cellsKu] using hff 7 _ rfl
    obtain ⟨cp, e0, _, w0⟩ := DataW.trod_int Tryz.underlying3 g0
    obtain ⟨se, e1, _, w1⟩ := DataW.trod_int Tryz.underlying3 g1
    obtain ⟨ia, i, ic, ts, rfl, hi, hts⟩ := msgs_cell g2
    obtain ⟨nx, e3, _, w3⟩ := DataW.trod_int Tryz.underlying3 g3
    obtain ⟨sa, s, sc, xs, rfl, hs, hxs, hfn, hxw⟩ := subs_cell g4
    obtain ⟨la, l, lc, ls, rfl, hl, hls, hlw⟩ := ints_cell g5
    obtain ⟨ga, g, gc, gs, rfl, hg, hgs, hgw⟩ := ints_cell g6
    obtain ⟨cl, e7, _⟩ := DataW.trod_bool Tryz.underlying4 g7
    simp at e0 e1 e3 e7
    subst e0 e1 e3 e7
    exact ⟨⟨ia, i, ic, sa, s, sc, xs, la, l, lc, ga, g, gc⟩, ⟨cp, se, ts, nx, svs xs, ls, gs, cl⟩, rfl, rfl, rfl, rfl, rfl, rfl, rfl, rfl, ⟨hi, hs, hfn, hl, hg⟩, ⟨hts, hxs, rfl, hls, hgs⟩, ⟨w0, w1, w3, fun q hq => (by obtain ⟨x, hx, rfl⟩ := List.mem_map.1 hq; exact hxw x hx), hlw, hgw⟩⟩
set_option maxRecDepth 100000 in
/-- A topic, out of the cells that hold it. -/
theorem topic_cells {H : Type} {enc : TypeId × Value → H} {W : World} {base n : Nat} {sp : Nat → Bool} {held : Bool} {c0 c1 c2 c3 c4 c5 c6 c7 c8 : Value} {y : DataW H × List MemPlace} (hf : DataW.trod enc Tryz.prog W base sp held n 45 [c0, c1, c2, c3, c4, c5, c6, c7, c8] = some y) :
    ∃ x : Ta, c0 = .string x.nm ∧ c1 = .int .i64 x.v.cp ∧ c2 = .int .i64 x.v.se ∧ c3 = .slice x.M.ia x.M.i x.M.ic ∧ c4 = .int .i64 x.v.nx ∧ c5 = .slice x.M.sa x.M.s x.M.sc ∧ c6 = .slice x.M.la x.M.l x.M.lc ∧ c7 = .slice x.M.ga x.M.g x.M.gc ∧ c8 = .bool x.v.cl ∧ x.nm.size ≤ maxLen ∧ RLe x.M 9223372036854775807 ∧ RIn W x.M x.v ∧ RWf x.v := by
  obtain ⟨xs, n, _, _, _, hlen, hff⟩ := DataW.trod_struct Tryz.underlying45 hf
  match xs, hlen with
  | [y0, y1], _ =>
    have g0 : DataW.trod enc Tryz.prog W base sp held n 9 [c0] = some y0 := by simpa [cellsKs, cellsR8] using hff 0 _ rfl
    have g1 : DataW.trod enc Tryz.prog W base sp held n 43 [c1, c2, c3, c4, c5, c6, c7, c8] = some y1 := by simpa [cellsKs, cellsR8] using hff 1 _ rfl
    obtain ⟨nm, e0, _, hnm⟩ := DataW.trod_string Tryz.underlying9 g0
    obtain ⟨M, x, rfl, rfl, rfl, rfl, rfl, rfl, rfl, rfl, hm, hi, hw⟩ := ring_cells g1
    simp at e0
    subst e0
    exact ⟨⟨nm, M, x⟩, rfl, rfl, rfl, rfl, rfl, rfl, rfl, rfl, rfl, hnm, hm, hi, hw⟩
set_option maxRecDepth 100000 in
theorem topics_of {H : Type} {enc : TypeId × Value → H} {W : World} {base fuel : Nat} {sp : Nat → Bool} {held : Bool} {a : Option Addr} {len cap : Nat} {x : DataW H × List MemPlace}
    (hf : DataW.trod enc Tryz.prog W base sp held fuel 22 (Value.slice a len cap).cells.toList = some x) : len ≤ 9223372036854775807 ∧ ∃ xs, TopAt W a len xs ∧ TLe xs 9223372036854775807 ∧ ∀ x, x ∈ xs → RWf x.v := by
  rcases open_slice Tryz.underlying22 hf with ⟨hcs, _⟩ | ⟨ad, l, c, m, n, D, Pl, hcs, _, hl, hm, hmm, _, hx⟩
  · simp [Value.cells] at hcs
    obtain ⟨rfl, rfl, rfl⟩ := hcs
    exact ⟨by omega, [], TopAt.nil _ _, fun x hx => (by cases hx), fun x hx => (by cases hx)⟩
  · simp [Value.cells] at hcs
    obtain ⟨rfl, rfl, rfl⟩ := hcs
    have hlm : len ≤ m := by rw [hmm]; split <;> omega
    have hlx : len ≤ 9223372036854775807 := by unfold maxLen at hm; omega
    obtain ⟨f, hfn⟩ := fn_ofT (α := Ta) Ta.zero (fun i (hi : i < len) => by
      obtain ⟨cs, h1, h2⟩ := hx i (by omega)
      rw [cellsT9] at h1
      obtain ⟨_, hlen, hcell⟩ := World.cells?_some h1
      match cs, hlen with
      | [c0, c1, c2, c3, c4, c5, c6, c7, c8], _ =>
        obtain ⟨x, rfl, rfl, rfl, rfl, rfl, rfl, rfl, rfl, rfl, hn, hm2, hi2, hw2⟩ := topic_cells h2
        have e0 := hcell 0 (by omega)
        have e1 := hcell 1 (by omega)
        have e2 := hcell 2 (by omega)
        have e3 := hcell 3 (by omega)
        have e4 := hcell 4 (by omega)
        have e5 := hcell 5 (by omega)
        have e6 := hcell 6 (by omega)
        have e7 := hcell 7 (by omega)
        have e8 := hcell 8 (by omega)
        rw [add_add] at e0 e1 e2 e3 e4 e5 e6 e7 e8
        exact (⟨x, by simpa using e0, by simpa using e1, by simpa using e2, by simpa using e3, by simpa using e4, by simpa using e5, by simpa using e6, by simpa using e7, by simpa using e8, hn, hm2, hi2, hw2⟩ : ∃ x : Ta, W.cell? (ad.add (i * 9)) = some (.string x.nm) ∧ W.cell? (ad.add (i * 9 + 1)) = some (.int .i64 x.v.cp) ∧ W.cell? (ad.add (i * 9 + 2)) = some (.int .i64 x.v.se) ∧ W.cell? (ad.add (i * 9 + 3)) = some (.slice x.M.ia x.M.i x.M.ic) ∧ W.cell? (ad.add (i * 9 + 4)) = some (.int .i64 x.v.nx) ∧ W.cell? (ad.add (i * 9 + 5)) = some (.slice x.M.sa x.M.s x.M.sc) ∧ W.cell? (ad.add (i * 9 + 6)) = some (.slice x.M.la x.M.l x.M.lc) ∧ W.cell? (ad.add (i * 9 + 7)) = some (.slice x.M.ga x.M.g x.M.gc) ∧ W.cell? (ad.add (i * 9 + 8)) = some (.bool x.v.cl) ∧ x.nm.size ≤ maxLen ∧ RLe x.M 9223372036854775807 ∧ RIn W x.M x.v ∧ RWf x.v))
    have mem : ∀ x, x ∈ (List.range len).map f → ∃ i, i < len ∧ f i = x := fun x hx => by
      simp only [List.mem_map, List.mem_range] at hx
      exact hx
    refine ⟨hlx, (List.range len).map f, ⟨by simp, fun x hx => ?_, fun x hx => ?_, ?_⟩, fun x hx => ?_, fun x hx => ?_⟩
    · obtain ⟨i, hi, rfl⟩ := mem x hx
      exact (hfn i hi).2.2.2.2.2.2.2.2.2.1
    · obtain ⟨i, hi, rfl⟩ := mem x hx
      exact (hfn i hi).2.2.2.2.2.2.2.2.2.2.2.1
    · rcases Nat.eq_zero_or_pos len with h | hpos
      · exact .inl h
      · obtain ⟨b, off, spot⟩ := ad
        have hc := (hfn 0 hpos).1
        have hspot : spot = none := by simpa [Addr.add] using World.cell?_spot hc
        subst hspot
        have hb : b < W.heap.size := by
          rw [Addr.add_lit] at hc
          rcases Nat.lt_or_ge b W.heap.size with h | h
          · exact h
          · simp [World.cell?, Array.getElem?_eq_none h] at hc
        refine .inr ⟨b, off, rfl, hb, fun i hi => ?_⟩
        obtain ⟨q0, q1, q2, q3, q4, q5, q6, q7, q8, _⟩ := hfn i hi
        rw [Addr.add_lit] at q0 q1 q2 q3 q4 q5 q6 q7 q8
        have e : tg ((List.range len).map f) i = f i := by simp [tg, List.getD, hi]
        rw [e]
        exact ⟨q0, q1, q2, q3, q4, q5, q6, q7, q8⟩
    · obtain ⟨i, hi, rfl⟩ := mem x hx
      exact (hfn i hi).2.2.2.2.2.2.2.2.2.2.1
    · obtain ⟨i, hi, rfl⟩ := mem x hx
      exact (hfn i hi).2.2.2.2.2.2.2.2.2.2.2.2
end Go.Proofs.YtffpecdjfcgadaaGreatDoor
namespace Go.Proofs.YtffpecdjfcgadaaGreatDoor
open Go.ChangeShapes Go.WideShapes Go.ChangeAt Go.RowKit Go.Joins Go.Deep

theorem cellsL4 : Tryz.prog.cellsOf 74 = 4 := by kernel_rfl
theorem cellsLs : Tryz.prog.cellsOf 23 = 1 := by kernel_rfl
theorem cellsLi : Tryz.prog.cellsOf 3 = 1 := by kernel_rfl
theorem cellsLb : Tryz.prog.cellsOf 4 = 1 := by kernel_rfl
set_option maxRecDepth 100000 in
/-- A leg, out of the cells that hold it. -/
theorem leg_cells {H : Type} {enc : TypeId × Value → H} {W : World} {base n : Nat} {sp : Nat → Bool} {held : Bool} {c0 c1 c2 c3 : Value} {y : DataW H × List MemPlace} (hf : DataW.trod enc Tryz.prog W base sp held n 74 [c0, c1, c2, c3] = some y) :
    ∃ x : Lg, c0 = .int .i64 x.tp ∧ c1 = .int .i64 x.id ∧ c2 = .int .i64 x.lo ∧ c3 = .bool x.ov ∧ LgWf x := by
  obtain ⟨xs, n, _, _, _, hlen, hff⟩ := DataW.trod_struct Tryz.underlying74 hf
  match xs, hlen with
  | [y0, y1, y2, y3], _ =>
    have g0 : DataW.trod enc Tryz.prog W base sp held n 3 [c0] = some y0 := by simpa [cellsLi, cellsLb] using hff 0 _ rfl
    have g1 : DataW.trod enc Tryz.prog W base sp held n 3 [c1] = some y1 := by simpa [cellsLi, cellsLb] using hff 1 _ rfl
    have g2 : DataW.trod enc Tryz.prog W base sp held n 3 [c2] = some y2 := by simpa [cellsLi, cellsLb] using hff 2 _ rfl
    have g3 : DataW.trod enc Tryz.prog W base sp held n 4 [c3] = some y3 := by simpa [cellsLi, cellsLb] using hff 3 _ rfl
    obtain ⟨tp, e0, _, w0⟩ := DataW.trod_int Tryz.underlying3 g0
    obtain ⟨id, e1, _, w1⟩ := DataW.trod_int Tryz.underlying3 g1
    obtain ⟨lo, e2, _, _⟩ := DataW.trod_int Tryz.underlying3 g2
    obtain ⟨ov, e3, _⟩ := DataW.trod_bool Tryz.underlying4 g3
    simp at e0 e1 e2 e3
    subst e0 e1 e2 e3
    exact ⟨⟨tp, id, lo, ov⟩, rfl, rfl, rfl, rfl, ⟨w0, w1⟩⟩
set_option maxRecDepth 100000 in
theorem legs_cell {H : Type} {enc : TypeId × Value → H} {W : World} {base fuel : Nat} {sp : Nat → Bool} {held : Bool} {v : Value} {x : DataW H × List MemPlace}
    (hf : DataW.trod enc Tryz.prog W base sp held fuel 23 [v] = some x) : ∃ a len cap ls, v = .slice a len cap ∧ len ≤ 9223372036854775807 ∧ LegAt W a len ls ∧ ∀ x, x ∈ ls → LgWf x := by
  rcases open_slice Tryz.underlying23 hf with ⟨hcs, _⟩ | ⟨ad, l, c, m, n, D, Pl, hcs, _, hl, hm, hmm, _, hx⟩
  · simp at hcs
    subst hcs
    exact ⟨none, 0, 0, [], rfl, by omega, ⟨rfl, .inl rfl⟩, fun x hx => (by cases hx)⟩
  · simp at hcs
    subst hcs
    have hlm : l ≤ m := by rw [hmm]; split <;> omega
    have hlx : l ≤ 9223372036854775807 := by unfold maxLen at hm; omega
    obtain ⟨f, hfn⟩ := fn_ofT (α := Lg) Lg0 (fun i (hi : i < l) => by
      obtain ⟨cs, h1, h2⟩ := hx i (by omega)
      rw [cellsL4] at h1
      obtain ⟨_, hlen, hcell⟩ := World.cells?_some h1
      match cs, hlen with
      | [c0, c1, c2, c3], _ =>
        obtain ⟨x, rfl, rfl, rfl, rfl, hw⟩ := leg_cells h2
        have e0 := hcell 0 (by omega)
        have e1 := hcell 1 (by omega)
        have e2 := hcell 2 (by omega)
        have e3 := hcell 3 (by omega)
        rw [add_add] at e0 e1 e2 e3
        exact (⟨x, by simpa using e0, by simpa using e1, by simpa using e2, by simpa using e3, hw⟩ : ∃ x : Lg, W.cell? (ad.add (i * 4)) = some (.int .i64 x.tp) ∧ W.cell? (ad.add (i * 4 + 1)) = some (.int .i64 x.id) ∧ W.cell? (ad.add (i * 4 + 2)) = some (.int .i64 x.lo) ∧ W.cell? (ad.add (i * 4 + 3)) = some (.bool x.ov) ∧ LgWf x))
    refine ⟨some ad, l, c, (List.range l).map f, rfl, hlx, ⟨by simp, ?_⟩, fun x hx => ?_⟩
    · rcases Nat.eq_zero_or_pos l with h | hpos
      · exact .inl h
      · obtain ⟨b, off, spot⟩ := ad
        have hc := (hfn 0 hpos).1
        have hspot : spot = none := by simpa [Addr.add] using World.cell?_spot hc
        subst hspot
        have hb : b < W.heap.size := by
          rw [Addr.add_lit] at hc
          rcases Nat.lt_or_ge b W.heap.size with h | h
          · exact h
          · simp [World.cell?, Array.getElem?_eq_none h] at hc
        refine .inr ⟨b, off, rfl, hb, fun i hi => ?_⟩
        obtain ⟨q0, q1, q2, q3, _⟩ := hfn i hi
        rw [Addr.add_lit] at q0 q1 q2 q3
        have e : lgg ((List.range l).map f) i = f i := by simp [lgg, List.getD, hi]
        rw [e]
        exact ⟨q0, q1, q2, q3⟩
    · simp only [List.mem_map, List.mem_range] at hx
      obtain ⟨i, hi, rfl⟩ := hx
      exact (hfn i hi).2.2.2.2
set_option maxRecDepth 100000 in
/-- A merge among the arguments. -/
theorem merge_arg {H : Type} {enc : TypeId × Value → H} {W : World} {base b0 : Nat} {v : Value} {d : DataW H} {p : List MemPlace} {r : Reach} {sp : Nat → Bool} {held : Bool} (hv : Value.okWide Tryz.prog W r b0 25 v) (h : DataW.Trod enc Tryz.prog W base sp held 25 v d p) :
    ∃ (a : Option Addr) (n c : Nat) (ls : List Lg) (io mv : Int), v = .agg #[.slice a n c, .int .i64 io, .int .i64 mv] ∧ n ≤ 9223372036854775807 ∧ LegAt W a n ls ∧ (∀ x, x ∈ ls → LgWf x) ∧ (Lit.int .i64 io).wf = true := by
  obtain ⟨cs, rfl, hsz⟩ := okWide_struct Tryz.underlying25 hv
  have hszn : cs.size = 3 := hsz.trans (by kernel_rfl)
  obtain ⟨cl⟩ := cs
  match cl, hszn with
  | [c0, c1, c2], _ =>
    obtain ⟨fuel, hf⟩ := h
    obtain ⟨xs, n, _, _, hl, hlen, hff⟩ := DataW.trod_struct Tryz.underlying25 hf
    match xs, hlen with
    | [y0, y1, y2], _ =>
      have q0 : DataW.trod enc Tryz.prog W base sp held n 23 [c0] = some y0 := by simpa [Value.cells, cellsLs, cellsLi] using hff 0 _ rfl
      have q1 : DataW.trod enc Tryz.prog W base sp held n 3 [c1] = some y1 := by simpa [Value.cells, cellsLs, cellsLi] using hff 1 _ rfl
      have q2 : DataW.trod enc Tryz.prog W base sp held n 3 [c2] = some y2 := by simpa [Value.cells, cellsLs, cellsLi] using hff 2 _ rfl
      obtain ⟨a, ln, lc, ls, rfl, hn, hL, hw⟩ := legs_cell q0
      obtain ⟨io, e1, _, wi⟩ := DataW.trod_int Tryz.underlying3 q1
      obtain ⟨mv, e2, _, _⟩ := DataW.trod_int Tryz.underlying3 q2
      simp at e1 e2
      subst e1 e2
      exact ⟨a, ln, lc, ls, io, mv, rfl, hn, hL, hw, wi⟩
end Go.Proofs.YtffpecdjfcgadaaGreatDoor
namespace Go.Proofs.YtffpecdjfcgadaaGreatDoor
variable {H : Type} {enc : TypeId × Value → H}

theorem returnsInHanded_and_shaped {a : Assume} {C : Checked} {os : Os} {f : FuncId} {fn : Func} {s : ChangeSpec} {conds : List PathCond} {apart fresh handsOn again : Bool} {X : World → Array Value → Prop}
    (hX : ∀ (w w' : World) (args : Array Value), w.heap = w'.heap → X w args → X w' args)
    (own : ownKnob C.prog.godebug = none) (started : os.Started) (noInit : C.prog.inits.idxOf? f = none) (hfn : C.prog.funcs[f]? = some fn)
    (witness : ∃ (w : World) (tape : Tape) (i : Input), w.os = os ∧ (w.forCall tape i).Shaped C.prog ∧ i.vars = [] ∧ Input.okWide C.prog (w.forCall tape i) .any w.heap.size f i ∧
      ((s.pre enc C.prog fn conds apart (w.forCall tape i).memory i.args ∧ X (w.forCall tape i).memory i.args) ∧ sizedMet enc C.prog fn (OpenSpec.ofChange s) apart (w.forCall tape i).memory i.args) ∧ a.holds C.prog (lone (Frame.enter C.prog f i.args .normal) [] (w.forCall tape i)))
    (contract : ∀ (W : World) (base : Nat) (args : Array Value) (ds gs : List (DataW H)) (before : List MemPlace),
      (∀ (j : Nat) t v, fn.params[j]? = some t → args[j]? = some v → Value.okWide C.prog W .any base t v) →
      DataW.Whole enc C.prog fn.params.toList s.vars apart W args.toList ds gs before →
      conds.all (PathCond.test C.prog ⟨fn.params.toList, ds, s.plain.varTypes C.prog, gs⟩) = true →
      (DataW.weightsEach C.prog (fn.params.toList ++ s.plain.varTypes C.prog) (ds ++ gs)).all (· ≤ reachBytes) = true → X W args → W.ShapedOpen C.prog →
      a.holds C.prog (lone (Frame.enter C.prog f args .normal) [] W) →
      Calls C.prog f args W fun e W' => ∃ v, e = .returned v ∧ s.post enc C.prog fn apart fresh handsOn again W args v W') :
    ReturnsInHanded a C os f .any (fun w args => (s.pre enc C.prog fn conds apart w args ∧ X w args) ∧ sizedMet enc C.prog fn (OpenSpec.ofChange s) apart w args) (s.post enc C.prog fn apart fresh handsOn again) := by
  refine returnsInHanded_of_calls own started noInit witness ?_
  intro w tape i _ hsh _ hok hpre hholds
  obtain ⟨_, _, _, fn', hfn', _, _, _, _, hval⟩ := hok
  have e : fn' = fn := Option.some.inj (hfn'.symm.trans hfn)
  subst e
  obtain ⟨⟨⟨ds, gs, before, hw, hc⟩, hx⟩, hz⟩ := hpre
  have hw' := DataW.Whole.of_heap (w' := w.forCall tape i) (by rfl) hw
  refine (contract (w.forCall tape i) w.heap.size i.args ds gs before hval hw' hc (hz.weights hw) (hX _ _ _ (by rfl) hx) hsh hholds).mono fun e W' ⟨v, he, hp⟩ => ?_
  subst he
  exact ChangeSpec.post_blind hp
end Go.Proofs.YtffpecdjfcgadaaGreatDoor
