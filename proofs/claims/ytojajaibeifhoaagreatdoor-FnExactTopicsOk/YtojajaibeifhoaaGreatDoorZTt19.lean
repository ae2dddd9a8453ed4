/-
  The program's RingOk.
  Slices of topics in memory: nine cells each, a name and a ring's eight; what they read as.
-/
import Derived.Test.YtojajaibeifhoaaGreatDoorZTt18
import Derived.Test.YtojajaibeifhoaaGreatDoorZTt17
import Derived.Test.YtojajaibeifhoaaGreatDoorZTt10
import Derived.Test.YtojajaibeifhoaaGreatDoorZTt13
namespace Go.Proofs.YtojajaibeifhoaaGreatDoor
open Go.RowKit Pl Il

set_option maxRecDepth 100000 in
set_option maxHeartbeats 8000000 in
theorem implRingOk_any : ImplRingOk (okR restR) := by
  intro M v w hI hm _ hw
  rw [← okI_eq]
  obtain ⟨W0, hW0⟩ : ∃ W, W = w.alloc (.cells #[.int .i64 v.cp, .int .i64 v.se, .slice M.ia M.i M.ic, .int .i64 v.nx, .slice M.sa M.s M.sc, .slice M.la M.l M.lc, .slice M.ga M.g M.gc, .bool v.cl] 38) := ⟨_, rfl⟩
  have hX : RHold w M v W0 := by
    have b0 : Below w.heap.size w W0 := by rw [hW0]; exact bl_alloc (Below.refl _ _) _
    exact ⟨by rw [hW0]; exact BoxL.new w (rC M v) _, hI.keep b0, b0⟩
  have hm2 := hm.mono (k' := 2097152) (by omega)
  obtain ⟨q, hq⟩ : ∃ q, okI v = q := ⟨_, rfl⟩
  rw [hq]
  have HQ := hidOf (show (headI v && (subsI v && (itemsI v && waitI v))) = q by rw [← hq]; rfl)
  have p0 := hX.box.cs 0 (by simp)
  have p1 := hX.box.cs 1 (by simp)
  have p3 := hX.box.cs 3 (by simp)
  simp at p0 p1 p3
  have HX := hidOf hX
  have HM := hidOf hm
  have HM2 := hidOf hm2
  have HW := hidOf hw
  clear hI hm hX hq hw hm2
  go_enter Tryz.func52, Tryz.ntmps52
  go_upto_region 1 with fail
  rw [← hW0]
  clear hW0
  by_cases h0 : v.cp < 1
  · have HV := hidOf (show q = false by rw [← HQ.out, show headI v = false from decide_eq_false (by omega)]; rfl)
    go_wp2
    go_ret
    rw [HV.out]
    exact ⟨rfl, HX.out.below⟩
  by_cases h1 : 16 < v.cp
  · have HV := hidOf (show q = false by rw [← HQ.out, show headI v = false from decide_eq_false (by omega)]; rfl)
    go_wp2
    go_ret
    rw [HV.out]
    exact ⟨rfl, HX.out.below⟩
  by_cases h2 : v.se < 0
  · have HV := hidOf (show q = false by rw [← HQ.out, show headI v = false from decide_eq_false (by omega)]; rfl)
    go_wp2
    go_ret
    rw [HV.out]
    exact ⟨rfl, HX.out.below⟩
  by_cases h3 : 1000000000 < v.se
  · have HV := hidOf (show q = false by rw [← HQ.out, show headI v = false from decide_eq_false (by omega)]; rfl)
    go_wp2
    go_ret
    rw [HV.out]
    exact ⟨rfl, HX.out.below⟩
  have hC : 1 ≤ v.cp ∧ v.cp ≤ 16 := by omega
  have hS : 0 ≤ v.se ∧ v.se ≤ 1000000000 := by omega
  have HCC := hidOf hC
  have HSS := hidOf hS
  clear hC hS
  cases hn : cnt v.nx
  · have HV := hidOf (show q = false by
      rw [← HQ.out, show headI v = false from decide_eq_false (by simp only [cnt, Bool.and_eq_false_iff, decide_eq_false_iff_not] at hn; omega)]
      rfl)
    go_wp2_with (go_at_call 94; refine (isCount_any _ _).mono ?_; rintro e w' ⟨rfl, rfl⟩; rw [hn])
    go_ret
    rw [HV.out]
    exact ⟨rfl, HX.out.below⟩
  have HNx := hidOf (show 0 ≤ v.nx ∧ v.nx ≤ 1000000000 by simpa [cnt] using hn)
  have HQ2 := hidOf (show (subsI v && (itemsI v && waitI v)) = q by
    have h1 := HCC.out
    have h2 := HSS.out
    have h3 := HNx.out
    rw [← HQ.out, show headI v = true from decide_eq_true (by omega)]
    rfl)
  have H1 := hidOf (fun (u : World) (hu : RHold w M v u) => subsOk_any M v u hu.rin HM2.out HSS.out HNx.out)
  have H2 := hidOf (fun (u : World) (hu : RHold w M v u) => itemsOk_any M v u hu.rin HM2.out HSS.out HCC.out)
  have H3 := hidOf (fun (u : World) (hu : RHold w M v u) => ringWaitersOk_any M v u hu.rin HM.out HW.out)
  go_upto_region 3 with (go_at_call 94; refine (isCount_any _ _).mono ?_; rintro e w' ⟨rfl, rfl⟩; rw [hn])
  have hX := HX.out
  have c2 := hX.box.cs 2 (by simp)
  have c4 := hX.box.cs 4 (by simp)
  have c5 := hX.box.cs 5 (by simp)
  have c6 := hX.box.cs 6 (by simp)
  have c7 := hX.box.cs 7 (by simp)
  simp at c2 c4 c5 c6 c7
  clear hX hn HQ HNx HSS HCC h0 h1 h2 h3
  go_wp2_with fail
  refine (H1.out _ HX.out).mono ?_
  rintro e w5 ⟨rfl, hb5⟩
  have hX := HX.out.keep hb5
  clear hb5 HX p0 p1 p3 c2 c4 c5 c6 c7
  obtain ⟨s, hs⟩ : ∃ s, subsI v = s := ⟨_, rfl⟩
  rw [hs]
  rw [hs] at HQ2
  clear hs
  cases s
  · have HX := hidOf hX
    clear hX
    go_wp2
    go_ret
    rw [← HQ2.out]
    exact ⟨rfl, HX.out.below⟩
  have p0 := hX.box.cs 0 (by simp)
  have p1 := hX.box.cs 1 (by simp)
  have p2 := hX.box.cs 2 (by simp)
  have p3 := hX.box.cs 3 (by simp)
  have p4 := hX.box.cs 4 (by simp)
  have p5 := hX.box.cs 5 (by simp)
  have p6 := hX.box.cs 6 (by simp)
  have p7 := hX.box.cs 7 (by simp)
  simp at p0 p1 p2 p3 p4 p5 p6 p7
  have HX := hidOf hX
  clear hX
  go_wp2_with fail
  refine (H2.out _ HX.out).mono ?_
  rintro e w6 ⟨rfl, hb6⟩
  have hX := HX.out.keep hb6
  clear hb6 HX p0 p1 p2 p3 p4 p5 p6 p7
  obtain ⟨s, hs⟩ : ∃ s, itemsI v = s := ⟨_, rfl⟩
  rw [hs]
  rw [hs] at HQ2
  clear hs
  cases s
  · have HX := hidOf hX
    clear hX
    go_wp2
    go_ret
    rw [← HQ2.out]
    exact ⟨rfl, HX.out.below⟩
  have p0 := hX.box.cs 0 (by simp)
  have p1 := hX.box.cs 1 (by simp)
  have p2 := hX.box.cs 2 (by simp)
  have p3 := hX.box.cs 3 (by simp)
  have p4 := hX.box.cs 4 (by simp)
  have p5 := hX.box.cs 5 (by simp)
  have p6 := hX.box.cs 6 (by simp)
  have p7 := hX.box.cs 7 (by simp)
  simp at p0 p1 p2 p3 p4 p5 p6 p7
  have HX := hidOf hX
  clear hX
  go_wp2_with fail
  refine (H3.out _ HX.out).mono ?_
  rintro e w7 ⟨rfl, hb7⟩
  have HX7 := hidOf (HX.out.keep hb7)
  clear hb7 HX p0 p1 p2 p3 p4 p5 p6 p7
  go_wp2
  go_ret
  rw [← HQ2.out]
  exact ⟨rfl, HX7.out.below⟩
end Go.Proofs.YtojajaibeifhoaaGreatDoor
namespace Go.Proofs.YtojajaibeifhoaaGreatDoor
open Go.RowKit Pl Il

/-- A topic in memory: its name, its ring, and where the ring's lists lie. -/
structure Ta where
  nm : ByteArray
  M : Rm
  v : Rv
def Rm0 : Rm := ⟨none, 0, 0, none, 0, 0, [], none, 0, 0, none, 0, 0⟩
def Rv0 : Rv := ⟨0, 0, [], 0, [], [], [], false⟩
def Ta.zero : Ta := ⟨⟨#[]⟩, Rm0, Rv0⟩
def tg (xs : List Ta) (i : Nat) : Ta := xs.getD i Ta.zero
abbrev tC (x : Ta) : List Value := [.string x.nm, .int .i64 x.v.cp, .int .i64 x.v.se, .slice x.M.ia x.M.i x.M.ic, .int .i64 x.v.nx, .slice x.M.sa x.M.s x.M.sc, .slice x.M.la x.M.l x.M.lc, .slice x.M.ga x.M.g x.M.gc, .bool x.v.cl]
theorem tg_eq {l : List Ta} {i : Nat} (h : i < l.length) : tg l i = l[i] := by unfold tg; rw [List.getD_eq_getElem?_getD, List.getElem?_eq_getElem h]; rfl
theorem tg_mem {l : List Ta} {k : Nat} (h : k < l.length) : tg l k ∈ l := by rw [tg_eq h]; exact List.getElem_mem h
theorem tg_append_left {l m : List Ta} {i : Nat} (h : i < l.length) : tg (l ++ m) i = tg l i := by
  rw [tg_eq (by simp; omega), tg_eq h, List.getElem_append_left h]
theorem tg_snoc (l : List Ta) (x : Ta) : tg (l ++ [x]) l.length = x := by rw [tg_eq (by simp)]; simp
/-- The nine cells of one. -/
structure TCell (w : World) (b o : Nat) (x : Ta) : Prop where
  c0 : w.cell? ⟨b, o, none⟩ = some (.string x.nm)
  c1 : w.cell? ⟨b, o + 1, none⟩ = some (.int .i64 x.v.cp)
  c2 : w.cell? ⟨b, o + 2, none⟩ = some (.int .i64 x.v.se)
  c3 : w.cell? ⟨b, o + 3, none⟩ = some (.slice x.M.ia x.M.i x.M.ic)
  c4 : w.cell? ⟨b, o + 4, none⟩ = some (.int .i64 x.v.nx)
  c5 : w.cell? ⟨b, o + 5, none⟩ = some (.slice x.M.sa x.M.s x.M.sc)
  c6 : w.cell? ⟨b, o + 6, none⟩ = some (.slice x.M.la x.M.l x.M.lc)
  c7 : w.cell? ⟨b, o + 7, none⟩ = some (.slice x.M.ga x.M.g x.M.gc)
  c8 : w.cell? ⟨b, o + 8, none⟩ = some (.bool x.v.cl)
theorem TCell.same {w u : World} {b o : Nat} {x : Ta} (h : TCell w b o x) (he : ∀ i, i < 9 → u.cell? ⟨b, o + i, none⟩ = w.cell? ⟨b, o + i, none⟩) : TCell u b o x :=
  ⟨(he 0 (by omega)).trans h.c0, (he 1 (by omega)).trans h.c1, (he 2 (by omega)).trans h.c2, (he 3 (by omega)).trans h.c3, (he 4 (by omega)).trans h.c4, (he 5 (by omega)).trans h.c5, (he 6 (by omega)).trans h.c6, (he 7 (by omega)).trans h.c7, (he 8 (by omega)).trans h.c8⟩
theorem TCell.below {w u : World} {b o B : Nat} {x : Ta} (h : TCell w b o x) (hb : Below B w u) (hB : b < B) : TCell u b o x := h.same fun i _ => hb.cell (p := ⟨b, o + i, none⟩) hB
theorem TCell.ofSet {w : World} {b o : Nat} (x : Ta) (h : ∀ i, i < 9 → ∃ v, w.cell? ⟨b, o + i, none⟩ = some v) : TCell (setL w b o (tC x)) b o x := by
  have k := setL_same (g := b) (vs := tC x) (w := w) (o := o) (fun i hi => h i (by simpa using hi))
  exact ⟨k 0 (by simp), k 1 (by simp), k 2 (by simp), k 3 (by simp), k 4 (by simp), k 5 (by simp), k 6 (by simp), k 7 (by simp), k 8 (by simp)⟩
/-- The slice at a, of n topics, reads as xs in w. -/
structure TopAt (w : World) (a : Option Addr) (n : Nat) (xs : List Ta) : Prop where
  len : xs.length = n
  nms : ∀ x, x ∈ xs → x.nm.size ≤ maxLen
  rin : ∀ x, x ∈ xs → RIn w x.M x.v
  row : n = 0 ∨ ∃ b off, a = some ⟨b, off, none⟩ ∧ b < w.heap.size ∧ ∀ i, i < n → TCell w b (off + i * 9) (tg xs i)
theorem TopAt.keep {w w' : World} {a : Option Addr} {n : Nat} {xs : List Ta} (h : TopAt w a n xs) (hb : Below w.heap.size w w') : TopAt w' a n xs := by
  refine ⟨h.len, h.nms, fun x hx => (h.rin x hx).keep hb, ?_⟩
  rcases h.row with k | ⟨b, off, rfl, hlt, hc⟩
  · exact .inl k
  · exact .inr ⟨b, off, rfl, Nat.lt_of_lt_of_le hlt hb.size, fun i hi => (hc i hi).below hb hlt⟩
theorem TopAt.nil (w : World) (a : Option Addr) : TopAt w a 0 [] := ⟨rfl, fun p hp => (by cases hp), fun p hp => (by cases hp), .inl rfl⟩
/-- What they are, told apart from where they lie. -/
def tvs (xs : List Ta) : List (ByteArray × Rv) := xs.map fun x => (x.nm, x.v)
/-- All their rings' lists are at most k long. -/
def TLe (xs : List Ta) (k : Nat) : Prop := ∀ x, x ∈ xs → RLe x.M k
def TCap (xs : List Ta) : Prop := ∀ x, x ∈ xs → RCap x.M
theorem ROwn.setL {B : Nat} {M : Rm} {v : Rv} (g : Nat) (hg : g < B) : ∀ {vs : List Value} {w : World} {o : Nat}, ROwn B w M v → ROwn B (setL w g o vs) M v
  | [], _, _, h => h
  | x :: vs, w, o, h => by
    show ROwn B (Go.Proofs.YtojajaibeifhoaaGreatDoor.setL (w.setCell ⟨g, o, none⟩ x) g (o + 1) vs) M v
    exact ROwn.setL g hg (h.far g o hg x)
/-- A new row in block g: its first places hold ys. -/
structure FillT (w : World) (g n : Nat) (ys : List Ta) (wr : World) : Prop where
  below : Below w.heap.size w wr
  eq : g = w.heap.size
  lt : g < wr.heap.size
  le : ys.length ≤ n
  cells : ∀ j, j < n → ∀ i, i < 9 → ∃ v, wr.cell? ⟨g, j * 9 + i, none⟩ = some v
  done : ∀ j, j < ys.length → TCell wr g (j * 9) (tg ys j)
  fr : ∀ j, wr.frozen? ⟨g, j, none⟩ = false
  nms : ∀ x, x ∈ ys → x.nm.size ≤ maxLen
  own : ∀ x, x ∈ ys → ROwn (w.heap.size + 1) wr x.M x.v
theorem FillT.keep {w : World} {g n : Nat} {ys : List Ta} {wr u : World} (h : FillT w g n ys wr) (hb : Below wr.heap.size wr u) : FillT w g n ys u where
  below := bl_trans h.below hb
  eq := h.eq
  lt := Nat.lt_of_lt_of_le h.lt hb.size
  le := h.le
  cells := fun j hj i hi => by obtain ⟨v, hv⟩ := h.cells j hj i hi; exact ⟨v, by rw [hb.cell (p := ⟨g, j * 9 + i, none⟩) h.lt]; exact hv⟩
  done := fun j hj => (h.done j hj).below hb h.lt
  fr := fun j => by rw [hb.frozen (p := ⟨g, j, none⟩) h.lt]; exact h.fr j
  nms := h.nms
  own := fun x hx => (h.own x hx).keep hb
/-- One more is laid down. -/
theorem FillT.step {w : World} {g n : Nat} {ys : List Ta} {wr : World} (h : FillT w g n ys wr) (hk : ys.length < n) (x : Ta) (hx : ROwn (w.heap.size + 1) wr x.M x.v) (hn : x.nm.size ≤ maxLen) :
    FillT w g n (ys ++ [x]) (setL wr g (ys.length * 9) (tC x)) where
  below := setL_below (by rw [h.eq]; exact Nat.le_refl _) h.below
  eq := h.eq
  lt := by rw [setL_size]; exact h.lt
  le := by simp; omega
  cells := fun j hj i hi => by
    by_cases e : j = ys.length
    · subst e
      have k := setL_same (g := g) (vs := tC x) (w := wr) (o := ys.length * 9) (fun i hi => h.cells _ hj i (by simpa using hi)) i (by simpa using hi)
      exact ⟨_, k⟩
    · obtain ⟨v, hv⟩ := h.cells j hj i hi
      exact ⟨v, by rw [setL_other (by simp only [tC, List.length_cons, List.length_nil]; omega)]; exact hv⟩
  done := fun j hj => by
    simp only [List.length_append, List.length_singleton] at hj
    by_cases e : j = ys.length
    · subst e
      rw [tg_snoc]
      exact TCell.ofSet x (fun i hi => h.cells _ hk i hi)
    · rw [tg_append_left (by omega)]
      exact (h.done j (by omega)).same fun i hi => setL_other (by simp only [tC, List.length_cons, List.length_nil]; omega)
  fr := fun j => by rw [setL_fr]; exact h.fr j
  nms := fun y hy => by
    rcases List.mem_append.1 hy with hy | hy
    · exact h.nms y hy
    · obtain rfl : y = x := by simpa using hy
      exact hn
  own := fun y hy => by
    have hg : g < w.heap.size + 1 := by rw [h.eq]; omega
    rcases List.mem_append.1 hy with hy | hy
    · exact (h.own y hy).setL g hg
    · obtain rfl : y = x := by simpa using hy
      exact hx.setL g hg
theorem FillT.top {w : World} {g n : Nat} {ys : List Ta} {wr : World} (h : FillT w g n ys wr) (hl : ys.length = n) : TopAt wr (some ⟨g, 0, none⟩) n ys :=
  ⟨hl, h.nms, fun x hx => (h.own x hx).rin, .inr ⟨g, 0, rfl, h.lt, fun i hi => by rw [Nat.zero_add]; exact h.done i (by omega)⟩⟩
theorem FillT.start (w : World) (n : Nat) (t : TypeId) (z : Array Value) : FillT w w.heap.size n [] (w.alloc (.cells (madeCells z (n * 9)) t)) where
  below := bl_alloc (Below.refl _ _) _
  eq := rfl
  lt := by simp
  le := Nat.zero_le _
  cells := fun j hj i hi => by
    rw [World.cell?_alloc_new]
    have hlt : j * 9 + i < (madeCells z (n * 9)).size := by rw [size_madeCells]; omega
    exact ⟨(madeCells z (n * 9))[j * 9 + i], by rw [Array.getElem?_eq_getElem hlt]⟩
  done := fun j hj => (by simp at hj)
  fr := fun j => by simp [go_sem]
  nms := fun x hx => (by cases hx)
  own := fun x hx => (by cases hx)
end Go.Proofs.YtojajaibeifhoaaGreatDoor
