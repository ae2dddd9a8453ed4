/-
  Walks of the laws' own helpers on rings: marked, and held.
  Rings under a marking of another one.
  What a slice of terms among the arguments gives the walks.
-/
import Derived.Test.YtojajaibeifhoaaGreatDoorZTo12
import Derived.Test.YtojajaibeifhoaaGreatDoorRows
import Derived.Test.YtojajaibeifhoaaGreatDoorZTo3
import Derived.ProofKit
import Derived.OpenShut
import Derived.ChangeOld
import Derived.Deep.SlicePairs
import Derived.Lib.SmallJoins
namespace Go.Proofs.YtojajaibeifhoaaGreatDoor
open Go.RowKit Pl Il

/-- A ring's lists, with marks in them. -/
def mkM (k : Nat) (M : Rm) : Rm := { M with xs := mkSs (k + 3 * M.i) M.xs }
def mkV (k : Nat) (M : Rm) (v : Rv) : Rv := ⟨v.cp, v.se, marksF k M.i, v.nx, svs (mkSs (k + 3 * M.i) M.xs), marks ((k + 3 * M.i + cntS M.xs : Nat) : Int) M.l, marks ((k + 3 * M.i + cntS M.xs + M.l : Nat) : Int) M.g, v.cl⟩
def cntR (M : Rm) : Nat := 3 * M.i + cntS M.xs + M.l + M.g
theorem cap_mk (k : Nat) {M : Rm} (h : RCap M) : RCap (mkM k M) := ⟨h.1, h.2.1, h.2.2.1, h.2.2.2.1, fun x hx => by
  obtain ⟨i, hi, rfl⟩ := List.getElem_of_mem hx
  have hi' : i < M.xs.length := by have := hi; simp only [mkM, mkSs_len] at this; exact this
  have e : (mkM k M).xs[i] = mkSa (k + 3 * M.i + cntS (M.xs.take i)) (sg M.xs i) := by
    have := mkSs_get (k := k + 3 * M.i) hi'
    rw [sg_eq (by rw [mkSs_len]; exact hi')] at this
    exact this
  rw [e]
  show (sg M.xs i).n ≤ (sg M.xs i).c
  exact h.2.2.2.2 _ (sg_mem hi')⟩
theorem mkSs_maps (k : Nat) (xs : List Sa) : (mkSs k xs).map (fun x => (x.a, x.n)) = xs.map fun x => (x.a, x.n) := by
  refine List.ext_getElem (by simp [mkSs_len]) fun i h1 h2 => ?_
  have hi : i < xs.length := by simpa using h2
  rw [List.getElem_map, List.getElem_map, ← sg_eq (by rw [mkSs_len]; exact hi), ← sg_eq hi, mkSs_get hi]
  rfl
theorem allR_mk (k : Nat) (M : Rm) : allR (mkM k M) = allR M := by
  unfold allR mkM
  simp only [mkSs_maps]
/-- Each list of a ring is apart from the others. -/
structure RFar (M : Rm) : Prop where
  is : Far M.ia M.i M.sa M.s
  il : Far M.ia M.i M.la M.l
  ig : Far M.ia M.i M.ga M.g
  ix : ∀ x, x ∈ M.xs → Far M.ia M.i x.a x.n
  sl : Far M.sa M.s M.la M.l
  sg : Far M.sa M.s M.ga M.g
  sx : ∀ x, x ∈ M.xs → Far M.sa M.s x.a x.n
  lg : Far M.la M.l M.ga M.g
  lx : ∀ x, x ∈ M.xs → Far M.la M.l x.a x.n
  gx : ∀ x, x ∈ M.xs → Far M.ga M.g x.a x.n
theorem rfar {M : Rm} (h : (allR M).Pairwise fun p q => Far p.1 p.2 q.1 q.2) : RFar M := by
  unfold allR at h
  simp only [List.pairwise_cons, List.mem_cons, List.mem_map] at h
  obtain ⟨hi, hs, hl, hg, _⟩ := h
  exact ⟨hi _ (.inl rfl), hi _ (.inr (.inl rfl)), hi _ (.inr (.inr (.inl rfl))), fun x hx => hi _ (.inr (.inr (.inr ⟨x, hx, rfl⟩))), hs _ (.inl rfl), hs _ (.inr (.inl rfl)), fun x hx => hs _ (.inr (.inr ⟨x, hx, rfl⟩)), hl _ (.inl rfl), fun x hx => hl _ (.inr ⟨x, hx, rfl⟩), fun x hx => hg _ ⟨x, hx, rfl⟩⟩
theorem mem_singleF {a a' : Option Addr} {n n' : Nat} (h : Far a n a' n') : ∀ p, p ∈ [(a, n)] → Far p.1 p.2 a' n' := fun p hp => by rw [List.mem_singleton.1 hp]; exact h
theorem mem_subsF {a a' : Option Addr} {n n' : Nat} {xs : List Sa} (h : Far a n a' n') (hx : ∀ x, x ∈ xs → Far x.a x.n a' n') : ∀ p, p ∈ ((a, n) :: xs.map fun x => (x.a, x.n)) → Far p.1 p.2 a' n' := fun p hp => by
  rcases List.mem_cons.1 hp with rfl | hp
  · exact h
  · obtain ⟨x, hm, rfl⟩ := List.mem_map.1 hp
    exact hx x hm
theorem mkSs_far {k : Nat} {xs : List Sa} {a : Option Addr} {n : Nat} (h : ∀ x, x ∈ xs → Far a n x.a x.n) : ∀ y, y ∈ mkSs k xs → Far a n y.a y.n := fun y hy => by
  obtain ⟨i, hi, rfl⟩ := List.getElem_of_mem hy
  rw [mkSs_len] at hi
  rw [← sg_eq (by rw [mkSs_len]; exact hi), mkSs_get hi]
  exact (show Far a n (sg xs i).a (sg xs i).n from h _ (sg_mem hi))
theorem BoxL.turn {N : Nat} {vs : List Value} {ls : List (Option Addr × Nat)} {w w' : World} (h : BoxL N vs w) (ht : TurnL ls w w') (hn : ∀ p, p ∈ ls → Und p.1 p.2 N) : BoxL N vs w' :=
  h.of_block (ht.block N h.lt fun p hp h0 off e => by
    rcases hn p hp with q | q
    · omega
    · have := q _ _ e; omega) (Nat.lt_of_lt_of_le h.lt ht.size)
theorem RIn.und {w : World} {M : Rm} {v : Rv} (h : RIn w M v) : ∀ p, p ∈ allR M → Und p.1 p.2 w.heap.size := fun p hp => by
  unfold allR at hp
  simp only [List.mem_cons, List.mem_map] at hp
  rcases hp with rfl | rfl | rfl | rfl | ⟨x, hx, rfl⟩
  · exact h.it.lt
  · exact h.sb.lt
  · exact und_ints h.ln
  · exact und_ints h.gs
  · exact (h.sb.fil x hx).lt
end Go.Proofs.YtojajaibeifhoaaGreatDoor
namespace Go.Proofs.YtojajaibeifhoaaGreatDoor
open Go.RowKit Pl Il

theorem RIn.turn {ls : List (Option Addr × Nat)} {w w' : World} {M : Rm} {v : Rv} (h : RIn w M v) (ht : TurnL ls w w') (hf : ∀ p, p ∈ ls → ∀ q, q ∈ allR M → Far p.1 p.2 q.1 q.2) : RIn w' M v :=
  ⟨h.it.turn ht fun p hp => hf p hp (M.ia, M.i) (by simp [allR]), h.sb.turn ht (fun p hp => hf p hp (M.sa, M.s) (by simp [allR])) (fun x hx p hp => hf p hp (x.a, x.n) (by
    unfold allR
    exact List.mem_cons_of_mem _ (List.mem_cons_of_mem _ (List.mem_cons_of_mem _ (List.mem_cons_of_mem _ (List.mem_map.2 ⟨x, hx, rfl⟩)))))), h.sv, IntsAt.turn h.ln ht fun p hp => hf p hp (M.la, M.l) (by simp [allR]), IntsAt.turn h.gs ht fun p hp => hf p hp (M.ga, M.g) (by simp [allR])⟩
theorem ROwn.turn {ls : List (Option Addr × Nat)} {B : Nat} {w w' : World} {M : Rm} {v : Rv} (h : ROwn B w M v) (ht : TurnL ls w w') (hf : ∀ p, p ∈ ls → ∀ q, q ∈ allR M → Far p.1 p.2 q.1 q.2) : ROwn B w' M v :=
  ⟨h.it.turn ht fun p hp => hf p hp (M.ia, M.i) (by simp [allR]), h.sb.turn ht (fun p hp => hf p hp (M.sa, M.s) (by simp [allR])) (fun x hx p hp => hf p hp (x.a, x.n) (by
    unfold allR
    exact List.mem_cons_of_mem _ (List.mem_cons_of_mem _ (List.mem_cons_of_mem _ (List.mem_cons_of_mem _ (List.mem_map.2 ⟨x, hx, rfl⟩)))))), h.sv, Il.OwnAt.turn h.ln ht fun p hp => hf p hp (M.la, M.l) (by simp [allR]), Il.OwnAt.turn h.gs ht (fun p hp => hf p hp (M.ga, M.g) (by simp [allR])), h.apt, h.cap⟩
theorem BoxL.turnA {N K : Nat} {vs : List Value} {ls : List (Option Addr × Nat)} {w w' : World} (h : BoxL N vs w) (ht : TurnL ls w w') (hk : N < K) (hn : ∀ p, p ∈ ls → Abv p.1 p.2 K) : BoxL N vs w' :=
  h.of_block (ht.block N h.lt fun p hp h0 off e => by
    rcases hn p hp with q | q
    · omega
    · have := q _ _ e; omega) (Nat.lt_of_lt_of_le h.lt ht.size)
theorem abv_ints {B : Nat} {w : World} {a : Option Addr} {n : Nat} {xs : List Int} (h : Il.OwnAt B w a n xs) : Abv a n B := by
  rcases h.own with k | ⟨b', off', e, hB, _⟩
  · exact .inl k
  · exact .inr fun b1 o1 e1 => by rw [e] at e1; cases e1; exact hB
theorem OwnS.abv {B : Nat} {w : World} {a : Option Addr} {n : Nat} {xs : List Sa} (h : OwnS B w a n xs) : Abv a n B := by
  rcases h.own with k | ⟨b', off', e, hB, _⟩
  · exact .inl k
  · exact .inr fun b1 o1 e1 => by rw [e] at e1; cases e1; exact hB
theorem ROwn.abv {B : Nat} {w : World} {M : Rm} {v : Rv} (h : ROwn B w M v) : ∀ p, p ∈ allR M → Abv p.1 p.2 B := fun p hp => by
  unfold allR at hp
  simp only [List.mem_cons, List.mem_map] at hp
  rcases hp with rfl | rfl | rfl | rfl | ⟨x, hx, rfl⟩
  · exact h.it.abv
  · exact h.sb.abv
  · exact abv_ints h.ln
  · exact abv_ints h.gs
  · exact (h.sb.fow x hx).abv
end Go.Proofs.YtojajaibeifhoaaGreatDoor
namespace Go.Proofs.YtojajaibeifhoaaGreatDoor
open Go.ChangeShapes Go.WideShapes Go.ChangeAt Go.RowKit Go.Joins Go.Deep Il

theorem cellsT3 : Tryz.prog.cellsOf 228 = 3 := by kernel_rfl
theorem cellsTi : Tryz.prog.cellsOf 3 = 1 := by kernel_rfl
theorem cellsTs : Tryz.prog.cellsOf 9 = 1 := by kernel_rfl
/-- A term, out of the cells that hold it. -/
theorem term_cells {H : Type} {enc : TypeId × Value → H} {W : World} {base n : Nat} {sp : Nat → Bool} {held : Bool} {c0 c1 c2 : Value} {y : DataW H × List MemPlace} (hf : DataW.trod enc Tryz.prog W base sp held n 228 [c0, c1, c2] = some y) :
    ∃ (k m : Int) (s : ByteArray), c0 = .int .i64 k ∧ c1 = .int .i64 m ∧ c2 = .string s ∧ s.size ≤ maxLen := by
  obtain ⟨xs, n, _, _, hl, hlen, hff⟩ := DataW.trod_struct Tryz.underlying228 hf
  match xs, hlen with
  | [y0, y1, y2], _ =>
    have q0 : DataW.trod enc Tryz.prog W base sp held n 3 [c0] = some y0 := by simpa [cellsTi] using hff 0 _ rfl
    have q1 : DataW.trod enc Tryz.prog W base sp held n 3 [c1] = some y1 := by simpa [cellsTi] using hff 1 _ rfl
    have q2 : DataW.trod enc Tryz.prog W base sp held n 9 [c2] = some y2 := by simpa [cellsTs] using hff 2 _ rfl
    obtain ⟨k, e0, _, _⟩ := DataW.trod_int Tryz.underlying3 q0
    obtain ⟨m, e1, _, _⟩ := DataW.trod_int Tryz.underlying3 q1
    obtain ⟨s, e2, _, hs⟩ := DataW.trod_string Tryz.underlying9 q2
    simp at e0 e1 e2
    exact ⟨k, m, s, e0, e1, e2, hs⟩
theorem fn_ofT {α : Type} {m : Nat} {R : Nat → α → Prop} (d : α) (h : ∀ i, i < m → ∃ x, R i x) : ∃ f : Nat → α, ∀ i, i < m → R i (f i) := by
  classical
  refine ⟨fun i => if hi : i < m then Classical.choose (h i hi) else d, fun i hi => ?_⟩
  simp only [hi, dif_pos]
  exact Classical.choose_spec (h i hi)
theorem terms_of {H : Type} {enc : TypeId × Value → H} {W : World} {base fuel : Nat} {sp : Nat → Bool} {held : Bool} {a : Option Addr} {len cap : Nat} {x : DataW H × List MemPlace}
    (hf : DataW.trod enc Tryz.prog W base sp held fuel 203 (Value.slice a len cap).cells.toList = some x) : len ≤ 9223372036854775807 ∧ ∃ ts, TmAt W a len ts := by
  rcases open_slice Tryz.underlying203 hf with ⟨hcs, _⟩ | ⟨ad, l, c, m, n, D, Pl, hcs, _, hl, hm, hmm, _, hx⟩
  · simp [Value.cells] at hcs
    obtain ⟨rfl, rfl, rfl⟩ := hcs
    exact ⟨by omega, [], TmAt.nil _ _⟩
  · simp [Value.cells] at hcs
    obtain ⟨rfl, rfl, rfl⟩ := hcs
    have hlm : len ≤ m := by rw [hmm]; split <;> omega
    have hlx : len ≤ 9223372036854775807 := by unfold maxLen at hm; omega
    obtain ⟨f, hfn⟩ := fn_ofT (α := Tm) (0, 0, noT) (fun i (hi : i < len) => by
      obtain ⟨cs, h1, h2⟩ := hx i (by omega)
      rw [cellsT3] at h1
      obtain ⟨_, hlen, hcell⟩ := World.cells?_some h1
      match cs, hlen with
      | [c0, c1, c2], _ =>
        obtain ⟨k, q, s, rfl, rfl, rfl, hs⟩ := term_cells h2
        have e0 := hcell 0 (by omega)
        have e1 := hcell 1 (by omega)
        have e2 := hcell 2 (by omega)
        rw [add_add] at e0 e1 e2
        exact (⟨(k, q, s), by simpa using e0, by simpa using e1, by simpa using e2, hs⟩ : ∃ p : Tm, W.cell? (ad.add (i * 3)) = some (.int .i64 p.1) ∧ W.cell? (ad.add (i * 3 + 1)) = some (.int .i64 p.2.1) ∧ W.cell? (ad.add (i * 3 + 2)) = some (.string p.2.2) ∧ p.2.2.size ≤ maxLen))
    refine ⟨hlx, (List.range len).map f, ⟨by simp, fun p hp => ?_, ?_⟩⟩
    · simp only [List.mem_map, List.mem_range] at hp
      obtain ⟨i, hi, rfl⟩ := hp
      exact (hfn i hi).2.2.2
    rcases Nat.eq_zero_or_pos len with h | hpos
    · exact .inl h
    · obtain ⟨b, off, spot⟩ := ad
      have hc := (hfn 0 hpos).1
      have hspot : spot = none := by simpa [Addr.add] using World.cell?_spot hc
      subst hspot
      have hb : b < W.heap.size := by
        rw [Addr.add_lit] at hc
        rcases Nat.lt_or_ge b W.heap.size with h | h
        · exact h
        · simp [World.cell?, Array.getElem?_eq_none h] at hc
      refine .inr ⟨b, off, rfl, hb, fun i hi => ?_⟩
      obtain ⟨q0, q1, q2, _⟩ := hfn i hi
      rw [Addr.add_lit] at q0 q1 q2
      have e : qg ((List.range len).map f) i = f i := by simp [qg, List.getD, hi]
      rw [e, Nat.add_assoc, Nat.add_assoc]
      exact ⟨q0, q1, q2⟩
end Go.Proofs.YtojajaibeifhoaaGreatDoor
