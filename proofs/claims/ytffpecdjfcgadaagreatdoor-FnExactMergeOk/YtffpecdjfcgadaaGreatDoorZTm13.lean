/-
  What a ring among the arguments gives the walks.
-/
import Derived.Test.YtffpecdjfcgadaaGreatDoorZTm12
import Derived.Test.YtffpecdjfcgadaaGreatDoorZTm10
namespace Go.Proofs.YtffpecdjfcgadaaGreatDoor
open Go.ChangeShapes Go.WideShapes Go.ChangeAt Go.RowKit Go.Joins Go.Deep Il

/-- A subscriber's numbers are numbers of the language. -/
structure SbWf (s : Sb) : Prop where
  id : (Lit.int .i64 s.id).wf = true
  st : (Lit.int .i64 s.st).wf = true
  cu : (Lit.int .i64 s.cu).wf = true
  gt : (Lit.int .i64 s.gt).wf = true
  lo : (Lit.int .i64 s.lo).wf = true
  pa : (Lit.int .i64 s.pa).wf = true
theorem ints_cell {H : Type} {enc : TypeId × Value → H} {W : World} {base fuel : Nat} {sp : Nat → Bool} {held : Bool} {v : Value} {x : DataW H × List MemPlace}
    (hf : DataW.trod enc Tryz.prog W base sp held fuel 41 [v] = some x) : ∃ a len cap xs, v = .slice a len cap ∧ len ≤ 9223372036854775807 ∧ IntsAt W a len xs ∧ wfL xs := by
  rcases open_ints Tryz.underlying41 Tryz.underlying3 (by kernel_rfl) hf with ⟨hcs, _⟩ | ⟨x, l, c, zs, hcs, _, hl, hm, hz, _, hcell, hwz⟩
  · simp at hcs
    subst hcs
    exact ⟨none, 0, 0, [], rfl, by omega, ⟨rfl, .inl rfl⟩, fun x hx => by cases hx⟩
  · simp at hcs
    subst hcs
    have hz' : l ≤ zs.length := by
      split at hz <;> omega
    have hlm : l ≤ 9223372036854775807 := by unfold maxLen at hm; omega
    refine ⟨some x, l, c, zs.take l, rfl, hlm, ⟨by rw [List.length_take]; omega, ?_⟩, fun y hy => hwz y (List.mem_of_mem_take hy)⟩
    rcases Nat.eq_zero_or_pos l with h | hpos
    · exact .inl h
    · obtain ⟨b, off, spot⟩ := x
      have hc := hcell 0 (by omega)
      have hspot : spot = none := by simpa [Addr.add] using World.cell?_spot hc
      subst hspot
      have hb : b < W.heap.size := by
        rw [Addr.add_lit] at hc
        rcases Nat.lt_or_ge b W.heap.size with h | h
        · exact h
        · simp [World.cell?, Array.getElem?_eq_none h] at hc
      refine .inr ⟨b, off, rfl, hb, fun i hi => ?_⟩
      have hci := hcell i (by omega)
      rw [Addr.add_lit] at hci
      rw [hci]
      simp [List.getD, List.getElem?_take_of_lt hi]
theorem cellsM3 : Tryz.prog.cellsOf 118 = 3 := by kernel_rfl
/-- A message, out of the cells that hold it. -/
theorem msg_cellsR {H : Type} {enc : TypeId × Value → H} {W : World} {base n : Nat} {sp : Nat → Bool} {held : Bool} {c0 c1 c2 : Value} {y : DataW H × List MemPlace} (hf : DataW.trod enc Tryz.prog W base sp held n 118 [c0, c1, c2] = some y) :
    ∃ (k m : Int) (s : ByteArray), c0 = .int .i64 k ∧ c1 = .int .i64 m ∧ c2 = .string s ∧ s.size ≤ maxLen := by
  obtain ⟨xs, n, _, _, hl, hlen, hff⟩ := DataW.trod_struct Tryz.underlying118 hf
  match xs, hlen with
  | [y0, y1, y2], _ =>
    have q0 : DataW.trod enc Tryz.prog W base sp held n 3 [c0] = some y0 := by simpa [cellsTi] using hff 0 _ rfl
    have q1 : DataW.trod enc Tryz.prog W base sp held n 3 [c1] = some y1 := by simpa [cellsTi] using hff 1 _ rfl
    have q2 : DataW.trod enc Tryz.prog W base sp held n 9 [c2] = some y2 := by simpa [cellsTs] using hff 2 _ rfl
    obtain ⟨k, e0, _, _⟩ := DataW.trod_int Tryz.underlying3 q0
    obtain ⟨m, e1, _, _⟩ := DataW.trod_int Tryz.underlying3 q1
    obtain ⟨s, e2, _, hs⟩ := DataW.trod_string Tryz.underlying9 q2
    simp at e0 e1 e2
    exact ⟨k, m, s, e0, e1, e2, hs⟩
theorem msgs_of {H : Type} {enc : TypeId × Value → H} {W : World} {base fuel : Nat} {sp : Nat → Bool} {held : Bool} {a : Option Addr} {len cap : Nat} {x : DataW H × List MemPlace}
    (hf : DataW.trod enc Tryz.prog W base sp held fuel 39 (Value.slice a len cap).cells.toList = some x) : len ≤ 9223372036854775807 ∧ ∃ ts, TmAt W a len ts := by
  rcases open_slice Tryz.underlying39 hf with ⟨hcs, _⟩ | ⟨ad, l, c, m, n, D, Pl, hcs, _, hl, hm, hmm, _, hx⟩
  · simp [Value.cells] at hcs
    obtain ⟨rfl, rfl, rfl⟩ := hcs
    exact ⟨by omega, [], TmAt.nil _ _⟩
  · simp [Value.cells] at hcs
    obtain ⟨rfl, rfl, rfl⟩ := hcs
    have hlm : len ≤ m := by rw [hmm]; split <;> omega
    have hlx : len ≤ 9223372036854775807 := by unfold maxLen at hm; omega
    obtain ⟨f, hfn⟩ := fn_ofT (α := Tm) (0, 0, noT) (fun i (hi : i < len) => by
      obtain ⟨cs, h1, h2⟩ := hx i (by omega)
      rw [cellsM3] at h1
      obtain ⟨_, hlen, hcell⟩ := World.cells?_some h1
      match cs, hlen with
      | [c0, c1, c2], _ =>
        obtain ⟨k, q, s, rfl, rfl, rfl, hs⟩ := msg_cellsR h2
        have e0 := hcell 0 (by omega)
        have e1 := hcell 1 (by omega)
        have e2 := hcell 2 (by omega)
        rw [add_add] at e0 e1 e2
        exact (⟨(k, q, s), by simpa using e0, by simpa using e1, by simpa using e2, hs⟩ : ∃ p : Tm, W.cell? (ad.add (i * 3)) = some (.int .i64 p.1) ∧ W.cell? (ad.add (i * 3 + 1)) = some (.int .i64 p.2.1) ∧ W.cell? (ad.add (i * 3 + 2)) = some (.string p.2.2) ∧ p.2.2.size ≤ maxLen))
    refine ⟨hlx, (List.range len).map f, ⟨by simp, fun p hp => ?_, ?_⟩⟩
    · simp only [List.mem_map, List.mem_range] at hp
      obtain ⟨i, hi, rfl⟩ := hp
      exact (hfn i hi).2.2.2
    rcases Nat.eq_zero_or_pos len with h | hpos
    · exact .inl h
    · obtain ⟨b, off, spot⟩ := ad
      have hc := (hfn 0 hpos).1
      have hspot : spot = none := by simpa [Addr.add] using World.cell?_spot hc
      subst hspot
      have hb : b < W.heap.size := by
        rw [Addr.add_lit] at hc
        rcases Nat.lt_or_ge b W.heap.size with h | h
        · exact h
        · simp [World.cell?, Array.getElem?_eq_none h] at hc
      refine .inr ⟨b, off, rfl, hb, fun i hi => ?_⟩
      obtain ⟨q0, q1, q2, _⟩ := hfn i hi
      rw [Addr.add_lit] at q0 q1 q2
      have e : qg ((List.range len).map f) i = f i := by simp [qg, List.getD, hi]
      rw [e, Nat.add_assoc, Nat.add_assoc]
      exact ⟨q0, q1, q2⟩

/-- A slice of terms in one cell. -/
theorem terms_cell {H : Type} {enc : TypeId × Value → H} {W : World} {base fuel : Nat} {sp : Nat → Bool} {held : Bool} {v : Value} {x : DataW H × List MemPlace}
    (hf : DataW.trod enc Tryz.prog W base sp held fuel 120 [v] = some x) : ∃ a n c ts, v = .slice a n c ∧ n ≤ 9223372036854775807 ∧ TmAt W a n ts := by
  rcases open_slice Tryz.underlying120 hf with ⟨hcs, _⟩ | ⟨ad, l, c, m, n, D, Pl, hcs, _, _⟩
  · simp at hcs
    subst hcs
    exact ⟨none, 0, 0, [], rfl, by omega, TmAt.nil _ _⟩
  · simp at hcs
    subst hcs
    obtain ⟨h1, ts, h2⟩ := terms_of (a := some ad) (len := l) (cap := c) (by simpa [Value.cells] using hf)
    exact ⟨some ad, l, c, ts, rfl, h1, h2⟩
theorem msgs_cell {H : Type} {enc : TypeId × Value → H} {W : World} {base fuel : Nat} {sp : Nat → Bool} {held : Bool} {v : Value} {x : DataW H × List MemPlace}
    (hf : DataW.trod enc Tryz.prog W base sp held fuel 39 [v] = some x) : ∃ a n c ts, v = .slice a n c ∧ n ≤ 9223372036854775807 ∧ TmAt W a n ts := by
  rcases open_slice Tryz.underlying39 hf with ⟨hcs, _⟩ | ⟨ad, l, c, m, n, D, Pl, hcs, _, _⟩
  · simp at hcs
    subst hcs
    exact ⟨none, 0, 0, [], rfl, by omega, TmAt.nil _ _⟩
  · simp at hcs
    subst hcs
    obtain ⟨h1, ts, h2⟩ := msgs_of (a := some ad) (len := l) (cap := c) (by simpa [Value.cells] using hf)
    exact ⟨some ad, l, c, ts, rfl, h1, h2⟩
theorem cellsS7 : Tryz.prog.cellsOf 122 = 7 := by kernel_rfl
theorem cellsSt : Tryz.prog.cellsOf 120 = 1 := by kernel_rfl
/-- A subscriber, out of the cells that hold it. -/
theorem sub_cells {H : Type} {enc : TypeId × Value → H} {W : World} {base n : Nat} {sp : Nat → Bool} {held : Bool} {c0 c1 c2 c3 c4 c5 c6 : Value} {y : DataW H × List MemPlace} (hf : DataW.trod enc Tryz.prog W base sp held n 122 [c0, c1, c2, c3, c4, c5, c6] = some y) :
    ∃ x : Sa, c0 = .int .i64 x.s.id ∧ c1 = .int .i64 x.s.st ∧ c2 = .int .i64 x.s.cu ∧ c3 = .int .i64 x.s.gt ∧ c4 = .int .i64 x.s.lo ∧ c5 = .int .i64 x.s.pa ∧ c6 = .slice x.a x.n x.c ∧ x.n ≤ 9223372036854775807 ∧ TmAt W x.a x.n x.s.fl ∧ SbWf x.s := by
  obtain ⟨xs, n, _, _, hl, hlen, hff⟩ := DataW.trod_struct Tryz.underlying122 hf
  match xs, hlen with
  | [y0, y1, y2, y3, y4, y5, y6], _ =>
    have q0 : DataW.trod enc Tryz.prog W base sp held n 3 [c0] = some y0 := by simpa [cellsTi, cellsSt] using hff 0 _ rfl
    have q1 : DataW.trod enc Tryz.prog W base sp held n 3 [c1] = some y1 := by simpa [cellsTi, cellsSt] using hff 1 _ rfl
    have q2 : DataW.trod enc Tryz.prog W base sp held n 3 [c2] = some y2 := by simpa [cellsTi, cellsSt] using hff 2 _ rfl
    have q3 : DataW.trod enc Tryz.prog W base sp held n 3 [c3] = some y3 := by simpa [cellsTi, cellsSt] using hff 3 _ rfl
    have q4 : DataW.trod enc Tryz.prog W base sp held n 3 [c4] = some y4 := by simpa [cellsTi, cellsSt] using hff 4 _ rfl
    have q5 : DataW.trod enc Tryz.prog W base sp held n 3 [c5] = some y5 := by simpa [cellsTi, cellsSt] using hff 5 _ rfl
    have q6 : DataW.trod enc Tryz.prog W base sp held n 120 [c6] = some y6 := by simpa [cellsTi, cellsSt] using hff 6 _ rfl
    obtain ⟨k0, e0, _, w0⟩ := DataW.trod_int Tryz.underlying3 q0
    obtain ⟨k1, e1, _, w1⟩ := DataW.trod_int Tryz.underlying3 q1
    obtain ⟨k2, e2, _, w2⟩ := DataW.trod_int Tryz.underlying3 q2
    obtain ⟨k3, e3, _, w3⟩ := DataW.trod_int Tryz.underlying3 q3
    obtain ⟨k4, e4, _, w4⟩ := DataW.trod_int Tryz.underlying3 q4
    obtain ⟨k5, e5, _, w5⟩ := DataW.trod_int Tryz.underlying3 q5
    obtain ⟨a, m, c, ts, e6, hm, ht⟩ := terms_cell q6
    simp at e0 e1 e2 e3 e4 e5
    exact ⟨⟨⟨k0, k1, k2, k3, k4, k5, ts⟩, a, m, c⟩, e0, e1, e2, e3, e4, e5, e6, hm, ht, ⟨w0, w1, w2, w3, w4, w5⟩⟩
theorem subs_cell {H : Type} {enc : TypeId × Value → H} {W : World} {base fuel : Nat} {sp : Nat → Bool} {held : Bool} {v : Value} {x : DataW H × List MemPlace}
    (hf : DataW.trod enc Tryz.prog W base sp held fuel 40 [v] = some x) : ∃ a n c xs, v = .slice a n c ∧ n ≤ 9223372036854775807 ∧ SubAt W a n xs ∧ (∀ x, x ∈ xs → x.n ≤ 9223372036854775807) ∧ ∀ x, x ∈ xs → SbWf x.s := by
  rcases open_slice Tryz.underlying40 hf with ⟨hcs, _⟩ | ⟨ad, len, cap, m, n, D, Pl, hcs, _, hl, hm, hmm, _, hx⟩
  · simp at hcs
    subst hcs
    exact ⟨none, 0, 0, [], rfl, by omega, SubAt.nil _ _, fun x hx => (by cases hx), fun x hx => (by cases hx)⟩
  · simp at hcs
    subst hcs
    have hlm : len ≤ m := by rw [hmm]; split <;> omega
    have hlx : len ≤ 9223372036854775807 := by unfold maxLen at hm; omega
    obtain ⟨f, hfn⟩ := fn_ofT (α := Sa) Sa.zero (fun i (hi : i < len) => by
      obtain ⟨cs, h1, h2⟩ := hx i (by omega)
      rw [cellsS7] at h1
      obtain ⟨_, hlen, hcell⟩ := World.cells?_some h1
      match cs, hlen with
      | [c0, c1, c2, c3, c4, c5, c6], _ =>
        obtain ⟨x, rfl, rfl, rfl, rfl, rfl, rfl, rfl, hn, ht, hw⟩ := sub_cells h2
        have e0 := hcell 0 (by omega)
        have e1 := hcell 1 (by omega)
        have e2 := hcell 2 (by omega)
        have e3 := hcell 3 (by omega)
        have e4 := hcell 4 (by omega)
        have e5 := hcell 5 (by omega)
        have e6 := hcell 6 (by omega)
        rw [add_add] at e0 e1 e2 e3 e4 e5 e6
        exact (⟨x, by simpa using e0, by simpa using e1, by simpa using e2, by simpa using e3, by simpa using e4, by simpa using e5, by simpa using e6, hn, ht, hw⟩ : ∃ x : Sa, W.cell? (ad.add (i * 7)) = some (.int .i64 x.s.id) ∧ W.cell? (ad.add (i * 7 + 1)) = some (.int .i64 x.s.st) ∧ W.cell? (ad.add (i * 7 + 2)) = some (.int .i64 x.s.cu) ∧ W.cell? (ad.add (i * 7 + 3)) = some (.int .i64 x.s.gt) ∧ W.cell? (ad.add (i * 7 + 4)) = some (.int .i64 x.s.lo) ∧ W.cell? (ad.add (i * 7 + 5)) = some (.int .i64 x.s.pa) ∧ W.cell? (ad.add (i * 7 + 6)) = some (.slice x.a x.n x.c) ∧ x.n ≤ 9223372036854775807 ∧ TmAt W x.a x.n x.s.fl ∧ SbWf x.s))
    have mem : ∀ x, x ∈ (List.range len).map f → ∃ i, i < len ∧ f i = x := fun x hx => by
      simp only [List.mem_map, List.mem_range] at hx
      exact hx
    refine ⟨some ad, len, cap, (List.range len).map f, rfl, hlx, ⟨by simp, fun x hx => ?_, ?_⟩, fun x hx => ?_, fun x hx => ?_⟩
    · obtain ⟨i, hi, rfl⟩ := mem x hx
      exact (hfn i hi).2.2.2.2.2.2.2.2.1
    · rcases Nat.eq_zero_or_pos len with h | hpos
      · exact .inl h
      · obtain ⟨b, off, spot⟩ := ad
        have hc := (hfn 0 hpos).1
        have hspot : spot = none := by simpa [Addr.add] using World.cell?_spot hc
        subst hspot
        have hb : b < W.heap.size := by
          rw [Addr.add_lit] at hc
          rcases Nat.lt_or_ge b W.heap.size with h | h
          · exact h
          · simp [World.cell?, Array.getElem?_eq_none h] at hc
        refine .inr ⟨b, off, rfl, hb, fun i hi => ?_⟩
        obtain ⟨q0, q1, q2, q3, q4, q5, q6, _⟩ := hfn i hi
        rw [Addr.add_lit] at q0 q1 q2 q3 q4 q5 q6
        have e : sg ((List.range len).map f) i = f i := by simp [sg, List.getD, hi]
        rw [e]
        exact ⟨q0, q1, q2, q3, q4, q5, q6⟩
    · obtain ⟨i, hi, rfl⟩ := mem x hx
      exact (hfn i hi).2.2.2.2.2.2.2.1
    · obtain ⟨i, hi, rfl⟩ := mem x hx
      exact (hfn i hi).2.2.2.2.2.2.2.2.2
section
variable {H : Type} {enc : TypeId × Value → H} {P : Program} {w : World} {base : Nat} {spare : Nat → Bool} {held : Bool}
/-- A struct of eight one-cell fields, by value, opened. -/
theorem open_agg8 {r : Reach} {b0 : Nat} {t : TypeId} {f0 f1 f2 f3 f4 f5 f6 f7 : Field} {v : Value} {d : DataW H} {p : List MemPlace} (hs : P.underlying t = some (.struct #[f0, f1, f2, f3, f4, f5, f6, f7])) (hone : oneCellFields P #[f0, f1, f2, f3, f4, f5, f6, f7] = true) (hC : P.cellsOf t = 8)
    (hv : Value.okWide P w r b0 t v) (h : DataW.Trod enc P w base spare held t v d p) :
    ∃ (v0 v1 v2 v3 v4 v5 v6 v7 : Value) (y0 y1 y2 y3 y4 y5 y6 y7 : DataW H × List MemPlace) (n : Nat), v = .agg #[v0, v1, v2, v3, v4, v5, v6, v7] ∧
      DataW.trod enc P w base spare held n f0.type [v0] = some y0 ∧ DataW.trod enc P w base spare held n f1.type [v1] = some y1 ∧ DataW.trod enc P w base spare held n f2.type [v2] = some y2 ∧ DataW.trod enc P w base spare held n f3.type [v3] = some y3 ∧ DataW.trod enc P w base spare held n f4.type [v4] = some y4 ∧ DataW.trod enc P w base spare held n f5.type [v5] = some y5 ∧ DataW.trod enc P w base spare held n f6.type [v6] = some y6 ∧ DataW.trod enc P w base spare held n f7.type [v7] = some y7 := by
  obtain ⟨cs, rfl, hsz⟩ := okWide_struct hs hv
  have hsz8 := hsz.trans hC
  obtain ⟨cl⟩ := cs
  match cl, hsz8 with
  | [c0, c1, c2, c3, c4, c5, c6, c7], _ =>
    obtain ⟨fuel, hf⟩ := h
    obtain ⟨xs, n, _, _, hl, hlen, hff⟩ := DataW.trod_struct hs hf
    match xs, hlen with
    | [y0, y1, y2, y3, y4, y5, y6, y7], _ =>
      obtain ⟨o0, k0⟩ := hone_of hone 0 f0 rfl
      obtain ⟨o1, k1⟩ := hone_of hone 1 f1 rfl
      obtain ⟨o2, k2⟩ := hone_of hone 2 f2 rfl
      obtain ⟨o3, k3⟩ := hone_of hone 3 f3 rfl
      obtain ⟨o4, k4⟩ := hone_of hone 4 f4 rfl
      obtain ⟨o5, k5⟩ := hone_of hone 5 f5 rfl
      obtain ⟨o6, k6⟩ := hone_of hone 6 f6 rfl
      obtain ⟨o7, k7⟩ := hone_of hone 7 f7 rfl
      exact ⟨c0, c1, c2, c3, c4, c5, c6, c7, y0, y1, y2, y3, y4, y5, y6, y7, n, rfl, by simpa [Value.cells, o0, k0] using hff 0 f0 rfl, by simpa [Value.cells, o1, k1] using hff 1 f1 rfl, by simpa [Value.cells, o2, k2] using hff 2 f2 rfl, by simpa [Value.cells, o3, k3] using hff 3 f3 rfl, by simpa [Value.cells, o4, k4] using hff 4 f4 rfl, by simpa [Value.cells, o5, k5] using hff 5 f5 rfl, by simpa [Value.cells, o6, k6] using hff 6 f6 rfl, by simpa [Value.cells, o7, k7] using hff 7 f7 rfl⟩
end
/-- A ring's numbers are numbers of the language. -/
structure RWf (v : Rv) : Prop where
  cp : (Lit.int .i64 v.cp).wf = true
  se : (Lit.int .i64 v.se).wf = true
  nx : (Lit.int .i64 v.nx).wf = true
  sb : ∀ s, s ∈ v.sb → SbWf s
  ln : wfL v.ln
  gs : wfL v.gs
set_option maxRecDepth 100000 in
/-- A ring among the arguments. -/
theorem ring_arg {H : Type} {enc : TypeId × Value → H} {W : World} {base b0 : Nat} {v : Value} {d : DataW H} {p : List MemPlace} {r : Reach} {sp : Nat → Bool} {held : Bool} (hv : Value.okWide Tryz.prog W r b0 43 v) (h : DataW.Trod enc Tryz.prog W base sp held 43 v d p) :
    ∃ (M : Rm) (x : Rv), v = .agg #[.int .i64 x.cp, .int .i64 x.se, .slice M.ia M.i M.ic, .int .i64 x.nx, .slice M.sa M.s M.sc, .slice M.la M.l M.lc, .slice M.ga M.g M.gc, .bool x.cl] ∧ RLe M 9223372036854775807 ∧ RIn W M x ∧ RWf x := by
  obtain ⟨c0, c1, c2, c3, c4, c5, c6, c7, y0, y1, y2, y3, y4, y5, y6, y7, n, rfl, g0, g1, g2, g3, g4, g5, g6, g7⟩ := open_agg8 Tryz.underlying43 (by kernel_rfl) (by kernel_rfl) hv h
  obtain ⟨cp, e0, _, w0⟩ := DataW.trod_int Tryz.underlying3 g0
  obtain ⟨se, e1, _, w1⟩ := DataW.trod_int Tryz.underlying3 g1
  obtain ⟨ia, i, ic, ts, rfl, hi, hts⟩ := msgs_cell g2
  obtain ⟨nx, e3, _, w3⟩ := DataW.trod_int Tryz.underlying3 g3
  obtain ⟨sa, s, sc, xs, rfl, hs, hxs, hfn, hxw⟩ := subs_cell g4
  obtain ⟨la, l, lc, ls, rfl, hl, hls, hlw⟩ := ints_cell g5
  obtain ⟨ga, g, gc, gs, rfl, hg, hgs, hgw⟩ := ints_cell g6
  obtain ⟨cl, e7, _⟩ := DataW.trod_bool Tryz.underlying4 g7
  simp at e0 e1 e3 e7
  subst e0 e1 e3 e7
  exact ⟨⟨ia, i, ic, sa, s, sc, xs, la, l, lc, ga, g, gc⟩, ⟨cp, se, ts, nx, svs xs, ls, gs, cl⟩, rfl, ⟨hi, hs, hfn, hl, hg⟩, ⟨hts, hxs, rfl, hls, hgs⟩, ⟨w0, w1, w3, fun q hq => (by obtain ⟨x, hx, rfl⟩ := List.mem_map.1 hq; exact hxw x hx), hlw, hgw⟩⟩
end Go.Proofs.YtffpecdjfcgadaaGreatDoor
