/-
  The program's ring out of its body.
  One number of a subscriber is another one: in a ring's rows, and in a body.
  The specification's Unwait.
  A ring as rows: more told, nobody waiting, closed. What a ring, a list and a code handed back are.
  The specification's l9Trim: what is ahead of the oldest goes.
  What a filter lets pass: plain mathematics.
  Walks of the program's terms: which are right, how many an Op takes.
  The program's stack of tests in memory; taking one off it, laying one down.
-/
import Derived.Test.YtffpecdjfcgadaaGreatDoorZTm30
import Derived.Test.YtffpecdjfcgadaaGreatDoorZTm17
import Derived.Laws.OwnMore
import Derived.Test.YtffpecdjfcgadaaGreatDoorZTm20
import Derived.Test.YtffpecdjfcgadaaGreatDoorZTm27
import Derived.Deep.CutRange
import Derived.Test.YtffpecdjfcgadaaGreatDoorZTm28
import Derived.Deep.RegionHeld3
import Derived.Test.YtffpecdjfcgadaaGreatDoorZTm10
import Derived.Deep.Upon
import Derived.Deep.AppendLies
import Derived.Laws.EntriesVeiled
import Derived.WalkSmall
namespace Go.Proofs.YtffpecdjfcgadaaGreatDoor
open Go.RowKit Go.Maps Pl Il

abbrev RbS (b : Nat) (A : Na) (v : Rv) (sa : Option Addr) (s sc : Nat) (u : World) : Prop := u.cell? ⟨b, 0, none⟩ = some (.slice A.a A.n A.c) ∧ u.cell? ⟨b, 1, none⟩ = some (.slice A.a' A.n' A.c') ∧ u.cell? ⟨b, 2, none⟩ = some (.int .i64 v.cp) ∧ u.cell? ⟨b, 55, none⟩ = some (.int .i64 v.se) ∧ u.cell? ⟨b, 56, none⟩ = some (.int .i64 v.nx) ∧ u.cell? ⟨b, 57, none⟩ = some (.slice sa s sc) ∧ u.cell? ⟨b, 58, none⟩ = some (.bool v.cl)
theorem RbS.keep {b : Nat} {A : Na} {v : Rv} {sa : Option Addr} {s sc : Nat} {u u' : World} (h : RbS b A v sa s sc u) (hb : Below u.heap.size u u') : RbS b A v sa s sc u' := by
  obtain ⟨h0, h1, h2, h3, h4, h5, h6⟩ := h
  exact ⟨cellK h0 hb, cellK h1 hb, cellK h2 hb, cellK h3 hb, cellK h4 hb, cellK h5 hb, cellK h6 hb⟩
theorem RbS.drew {b : Nat} {A : Na} {v : Rv} {sa : Option Addr} {s sc : Nat} {u : World} (h : RbS b A v sa s sc u) : RbS b A v sa s sc u.drew := RbS.keep h (Below.refl _ _).drew
theorem RBody.keep {B b : Nat} {A : Na} {P : Nat → Tm} {f : Nat} {v : Rv} {sa : Option Addr} {s sc : Nat} {ys : List Sa} {w w' : World} (h : RBody B b A P f v sa s sc ys w) (hb : Below w.heap.size w w') : RBody B b A P f v sa s sc ys w' :=
  ⟨h.wst.keep hb, h.rnd.keep hb, cellK h.c2 hb, cellK h.fst hb, cellK h.nxt hb, cellK h.c56 hb, cellK h.c57 hb, cellK h.c58 hb, h.srow.keep hb, h.sv, h.its, h.sh, h.se, h.few, h.nb, h.ap⟩
theorem RBody.s {B b : Nat} {A : Na} {P : Nat → Tm} {f : Nat} {v : Rv} {sa : Option Addr} {s sc : Nat} {ys : List Sa} {w : World} (h : RBody B b A P f v sa s sc ys w) : RbS b A v sa s sc w := ⟨h.wst.c0, h.wst.c1, h.c2, by rw [h.se]; exact h.nxt, h.c56, h.c57, h.c58⟩
/-- A ring was handed back. -/
def RingP (B : Nat) (A : Na) (v : Rv) (s : Nat) (ys : List Sa) (w : World) (e : Ending) (w' : World) : Prop := ∃ (g : Nat) (sa : Option Addr) (sc : Nat), e = .returned (.agg #[.int .i64 v.cp, .int .i64 v.se, .slice (some ⟨g, 0, none⟩) v.it.length v.it.length, .int .i64 v.nx, .slice sa s sc, .slice A.a A.n A.c, .slice A.a' A.n' A.c', .bool v.cl]) ∧ RRow B w' ⟨some ⟨g, 0, none⟩, v.it.length, v.it.length, sa, s, sc, ys, A.a, A.n, A.c, A.a', A.n', A.c'⟩ v ∧ Below w.heap.size w w'
def RingQ (B : Nat) (A : Na) (v : Rv) (sa : Option Addr) (s sc : Nat) (ys : List Sa) (w : World) (e : Ending) (w' : World) : Prop := ∃ g : Nat, w.heap.size ≤ g ∧ e = .returned (.agg #[.int .i64 v.cp, .int .i64 v.se, .slice (some ⟨g, 0, none⟩) v.it.length v.it.length, .int .i64 v.nx, .slice sa s sc, .slice A.a A.n A.c, .slice A.a' A.n' A.c', .bool v.cl]) ∧ RRow B w' ⟨some ⟨g, 0, none⟩, v.it.length, v.it.length, sa, s, sc, ys, A.a, A.n, A.c, A.a', A.n', A.c'⟩ v ∧ Below w.heap.size w w'
end Go.Proofs.YtffpecdjfcgadaaGreatDoor
namespace Go.Proofs.YtffpecdjfcgadaaGreatDoor
open Go.RowKit Go.Maps Pl Il

/-- One of a subscriber's numbers is z: 2 its cursor, 3 what it got, 4 what it lost, 5 what was passed by. -/
def subPut (s : Sb) (r : Nat) (z : Int) : Sb := if r = 2 then { s with cu := z } else if r = 3 then { s with gt := z } else if r = 4 then { s with lo := z } else { s with pa := z }
def putA (x : Sa) (r : Nat) (z : Int) : Sa := { x with s := subPut x.s r z }
def putS (xs : List Sa) (k r : Nat) (z : Int) : List Sa := xs.set k (putA (sg xs k) r z)
def putV (sb : List Sb) (k r : Nat) (z : Int) : List Sb := sb.set k (subPut (sb.getD k ⟨0, 0, 0, 0, 0, 0, []⟩) r z)
theorem putA_cells (x : Sa) (r : Nat) (z : Int) (h2 : 2 ≤ r) (h5 : r ≤ 5) : sC (putA x r z) = (sC x).set r (.int .i64 z) := by
  have : r = 2 ∨ r = 3 ∨ r = 4 ∨ r = 5 := by omega
  rcases this with rfl | rfl | rfl | rfl <;> rfl
theorem putS_len (xs : List Sa) (k r : Nat) (z : Int) : (putS xs k r z).length = xs.length := by simp [putS]
theorem putS_get {xs : List Sa} {k r j : Nat} {z : Int} (hj : j < xs.length) : sg (putS xs k r z) j = if k = j then putA (sg xs k) r z else sg xs j := by
  rw [sg_eq (by rw [putS_len]; exact hj)]
  simp only [putS, List.getElem_set]
  split
  · rfl
  · rw [sg_eq hj]
theorem sg_svs2 {xs : List Sa} {k : Nat} (hk : k < xs.length) : (svs xs).getD k ⟨0, 0, 0, 0, 0, 0, []⟩ = (sg xs k).s := by
  rw [List.getD, List.getElem?_eq_getElem (by simpa [svs] using hk), Option.getD_some]
  exact sg_svs hk
theorem putS_svs {xs : List Sa} {k r : Nat} {z : Int} (hk : k < xs.length) : svs (putS xs k r z) = putV (svs xs) k r z := by
  unfold putV
  rw [sg_svs2 hk]
  simp only [svs, putS, List.map_set, putA]
theorem putS_mem {xs : List Sa} {k r : Nat} {z : Int} (hk : k < xs.length) : ∀ x, x ∈ putS xs k r z → ∃ y, y ∈ xs ∧ x.a = y.a ∧ x.n = y.n ∧ x.c = y.c ∧ x.s.fl = y.s.fl := by
  intro x hx
  rcases List.mem_or_eq_of_mem_set hx with h | h
  · exact ⟨x, h, rfl, rfl, rfl, rfl⟩
  · refine ⟨sg xs k, by rw [sg_eq hk]; exact List.getElem_mem _, ?_⟩
    subst h
    refine ⟨rfl, rfl, rfl, ?_⟩
    unfold putA subPut
    split
    · rfl
    · split
      · rfl
      · split <;> rfl
theorem putS_map {α : Type} {xs : List Sa} {k r : Nat} {z : Int} (hk : k < xs.length) (f : Option Addr → Nat → Nat → α) : (putS xs k r z).map (fun x => f x.a x.n x.c) = xs.map fun x => f x.a x.n x.c := by
  refine List.ext_getElem (by simp [putS]) fun i h1 h2 => ?_
  simp only [List.getElem_map, putS, List.getElem_set]
  split
  · rename_i h
    subst h
    simp only [putA, sg_eq hk]
  · rfl
theorem sflat_put {xs : List Sa} {k r : Nat} {z : Int} (hk : k < xs.length) (h2 : 2 ≤ r) (h5 : r ≤ 5) : sflat (putS xs k r z) = (sflat xs).set (k * 7 + r) (.int .i64 z) := by
  have hl : (sflat xs).length = xs.length * 7 := length_sflat xs
  have hl2 : (sflat (putS xs k r z)).length = xs.length * 7 := by rw [length_sflat, putS_len]
  refine List.ext_getElem? fun i => ?_
  rw [List.getElem?_set]
  by_cases hi : i < xs.length * 7
  · have e1 := sflat_at (putS xs k r z) (i / 7) (i % 7) (by rw [putS_len]; omega) (by omega)
    have e2 := sflat_at xs (i / 7) (i % 7) (by omega) (by omega)
    rw [show i / 7 * 7 + i % 7 = i by omega] at e1 e2
    rw [e1, putS_get (by omega)]
    by_cases hik : k = i / 7
    · rw [if_pos hik, putA_cells _ _ _ h2 h5, List.getElem?_set, hik]
      by_cases hr : r = i % 7
      · rw [if_pos hr, if_pos (by show r < 7; omega), if_pos (by omega), if_pos (by rw [hl]; omega)]
      · rw [if_neg hr, if_neg (by omega), e2]
    · rw [if_neg hik, if_neg (by omega), e2]
  · rw [List.getElem?_eq_none (by omega), if_neg (by omega), List.getElem?_eq_none (by omega)]
theorem row_put {B g n c : Nat} {w : World} {xs : List Sa} (h : w.ownsRow B 90 7 (.slice (some ⟨g, 0, none⟩) n c) n (sflat xs)) {k r : Nat} (hk : k < xs.length) (h2 : 2 ≤ r) (h5 : r ≤ 5) (z : Int) :
    (w.setCell ⟨g, k * 7 + r, none⟩ (.int .i64 z)).ownsRow B 90 7 (.slice (some ⟨g, 0, none⟩) n c) n (sflat (putS xs k r z)) ∧ w.grownBy (w.setCell ⟨g, k * 7 + r, none⟩ (.int .i64 z)) (some g) := by
  rw [sflat_put hk h2 h5]
  exact h.stored _ _
/-- What a subscriber's cells read as. -/
theorem row_cell {B g n c : Nat} {w : World} {xs : List Sa} (h : w.ownsRow B 90 7 (.slice (some ⟨g, 0, none⟩) n c) n (sflat xs)) {k r : Nat} (hk : k < xs.length) (hr : r < 7) : w.cell? ⟨g, k * 7 + r, none⟩ = (sC (sg xs k))[r]? := by
  obtain ⟨hl, ⟨e, _⟩ | ⟨g', c', cur, e, hB, hg, hc, hm, hs, ht⟩⟩ := h
  · cases e
  · cases e
    have e2 := sflat_at xs k r hk hr
    have hn : xs.length = n := by rw [length_sflat] at hl; omega
    rw [cell_of_row w g (k * 7 + r) cur _ (0, 0) hg, ← e2, ← ht, List.getElem?_take_of_lt (by omega), Array.getElem?_toList]
theorem RRow.put {B : Nat} {w : World} {M : Rm} {v : Rv} {g k r : Nat} (h : RRow B w M v) (hg : M.sa = some ⟨g, 0, none⟩) (hk : k < M.xs.length) (h2 : 2 ≤ r) (h5 : r ≤ 5) (z : Int) :
    RRow B (w.setCell ⟨g, k * 7 + r, none⟩ (.int .i64 z)) { M with xs := putS M.xs k r z } { v with sb := putV v.sb k r z } := by
  have hA : AptP _ _ _ _ _ := apt_iff.1 h.apt
  have hsb := h.sb
  rw [hg] at hsb
  obtain ⟨r1, gr⟩ := row_put hsb hk h2 h5 z
  have hb : (Value.slice M.sa M.s M.sc).ownBlock = some g := by rw [hg]; rfl
  refine ⟨rowG h.it gr (fun q e e' => ?_), h.its, by rw [hg]; exact r1, fun x hx => ?_, fun x hx p hp => ?_, ?_, rowG h.ln gr (fun q e e' => ?_), rowG h.gs gr (fun q e e' => ?_), ?_⟩
  · injection e with e; subst e; exact hA.is _ e' hb
  · obtain ⟨y, hy, e1, e2, e3, e4⟩ := putS_mem hk x hx
    rw [e1, e2, e3, e4]
    exact rowG (h.fl y hy) gr (fun q e e' => by injection e with e; subst e; exact hA.sx _ (List.mem_map.2 ⟨y, hy, rfl⟩) _ hb e')
  · obtain ⟨y, hy, _, _, _, e4⟩ := putS_mem hk x hx
    rw [e4] at hp
    exact h.fls y hy p hp
  · show svs (putS M.xs k r z) = putV v.sb k r z
    rw [putS_svs hk, h.sv]
  · injection e with e; subst e; exact hA.sl _ hb e'
  · injection e with e; subst e; exact hA.sg _ hb e'
  · have e : blkR { M with xs := putS M.xs k r z } = blkR M := by
      unfold blkR
      simp only
      rw [putS_map hk (fun a n c => (Value.slice a n c).ownBlock)]
    rw [e]; exact h.apt
theorem RBody.put {B b : Nat} {A : Na} {P : Nat → Tm} {f : Nat} {v : Rv} {g s sc : Nat} {ys : List Sa} {w : World} (h : RBody B b A P f v (some ⟨g, 0, none⟩) s sc ys w) {k r : Nat} (hk : k < ys.length) (h2 : 2 ≤ r) (h5 : r ≤ 5) (z : Int) :
    RBody B b A P f { v with sb := putV v.sb k r z } (some ⟨g, 0, none⟩) s sc (putS ys k r z) (w.setCell ⟨g, k * 7 + r, none⟩ (.int .i64 z)) := by
  obtain ⟨r1, gr⟩ := row_put h.srow.sb hk h2 h5 z
  have hgb : g ≠ b := fun e => h.nb.1 (by rw [e]; rfl)
  have ct : ∀ j, (w.setCell ⟨g, k * 7 + r, none⟩ (.int .i64 z)).cell? ⟨b, j, none⟩ = w.cell? ⟨b, j, none⟩ := fun j => World.cell?_setCell_other _ _ _ _ (by intro e; injection e with e1; exact hgb e1)
  have ha := h.srow.apt
  unfold Apt at ha
  rw [List.pairwise_cons] at ha
  refine ⟨⟨by simpa using h.wst.lt, h.wst.ge, by rw [ct]; exact h.wst.c0, by rw [ct]; exact h.wst.c1, fun o => by simpa using h.wst.fr o, ⟨rowG h.wst.rows.one gr (fun q e e' => ?_), rowG h.wst.rows.two gr (fun q e e' => ?_), h.wst.rows.ne⟩, h.wst.ne1, h.wst.ne2⟩, ⟨?_, fun j hj => ?_⟩, by rw [ct]; exact h.c2, by rw [ct]; exact h.fst, by rw [ct]; exact h.nxt, by rw [ct]; exact h.c56, by rw [ct]; exact h.c57, by rw [ct]; exact h.c58, ⟨r1, fun x hx => ?_, fun x hx p hp => ?_, ?_⟩, ?_, h.its, h.sh, h.se, h.few, ⟨h.nb.1, fun x hx => ?_⟩, fun q hq => ⟨(h.ap q hq).1, fun x hx => ?_⟩⟩
  · injection e with e; subst e; exact (h.ap _ (.inl e')).1 rfl
  · injection e with e; subst e; exact (h.ap _ (.inr e')).1 rfl
  · obtain ⟨cur, t, hc, hs1⟩ := h.rnd.blk
    exact ⟨cur, t, by rw [gr.block b h.wst.lt (fun e => by injection e with e; exact hgb e.symm)]; exact hc, hs1⟩
  · obtain ⟨h1, h2, h3⟩ := h.rnd.pl j hj
    exact ⟨by rw [ct]; exact h1, by rw [ct]; exact h2, by rw [ct]; exact h3⟩
  · obtain ⟨y, hy, e1, e2, e3, e4⟩ := putS_mem hk x hx
    rw [e1, e2, e3, e4]
    exact rowG (h.srow.fl y hy) gr (fun q e e' => by injection e with e; subst e; exact ha.1 _ (List.mem_map.2 ⟨y, hy, rfl⟩) _ rfl e')
  · obtain ⟨y, hy, _, _, _, e4⟩ := putS_mem hk x hx
    rw [e4] at hp
    exact h.srow.fls y hy p hp
  · rw [putS_map hk (fun a n c => (Value.slice a n c).ownBlock)]; exact h.srow.apt
  · show svs (putS ys k r z) = putV v.sb k r z
    rw [putS_svs hk, h.sv]
  · obtain ⟨y, hy, e1, e2, e3, _⟩ := putS_mem hk x hx
    rw [e1, e2, e3]; exact h.nb.2 y hy
  · obtain ⟨y, hy, e1, e2, e3, _⟩ := putS_mem hk x hx
    rw [e1, e2, e3]; exact (h.ap q hq).2 y hy
end Go.Proofs.YtffpecdjfcgadaaGreatDoor
namespace Go.Proofs.YtffpecdjfcgadaaGreatDoor
open Go.RowKit Pl Il

/-- A ring and a code were handed back. -/
def RgP (w : World) (v : Rv) (c : Int) (e : Ending) (w' : World) : Prop := ∃ M : Rm, e = .returned (.tuple #[.agg #[.int .i64 v.cp, .int .i64 v.se, .slice M.ia M.i M.ic, .int .i64 v.nx, .slice M.sa M.s M.sc, .slice M.la M.l M.lc, .slice M.ga M.g M.gc, .bool v.cl], .int .i64 c]) ∧ ROwn w.heap.size w' M v ∧ RLe M 2097152 ∧ Below w.heap.size w w'
def RgPS (w : World) (v : Rv) (c : Int) (e : Ending) (w' : World) : Prop := ∃ M : Rm, e = .returned (.tuple #[.agg #[.int .i64 v.cp, .int .i64 v.se, .slice M.ia M.i M.ic, .int .i64 v.nx, .slice M.sa M.s M.sc, .slice M.la M.l M.lc, .slice M.ga M.g M.gc, .bool v.cl], .int .i64 c]) ∧ RRow w.heap.size w' M v ∧ RLe M 2097152 ∧ Below w.heap.size w w'
theorem RgPS.weak {w : World} {v : Rv} {c : Int} {e : Ending} {w' : World} (h : RgPS w v c e w') : RgP w v c e w' := by
  obtain ⟨M, he, hr, h1⟩ := h
  exact ⟨M, he, hr.own, h1⟩
/-- Who waits or was told is there no more. -/
def goneR (v : Rv) (id : Int) : Rv := ⟨v.cp, v.se, v.it, v.nx, v.sb, lessL v.ln id, lessL v.gs id, v.cl⟩
def unwR (v : Rv) (id : Int) : Rv := if okR restR v = true then (if (hasL v.ln id || hasL v.gs id) = true then goneR v id else v) else v
def unwC (v : Rv) (id : Int) : Int := if okR restR v = true then (if (hasL v.ln id || hasL v.gs id) = true then 0 else 3) else 1
def UnwaitDone (F : Nat) : Prop := ∀ (M : Rm) (v : Rv) (id : Int) (w : World), RIn w M v → RLe M 1048576 → RCap M → RWf v → (Lit.int .i64 id).wf = true →
  Calls Tryz.prog F #[.agg #[.int .i64 v.cp, .int .i64 v.se, .slice M.ia M.i M.ic, .int .i64 v.nx, .slice M.sa M.s M.sc, .slice M.la M.l M.lc, .slice M.ga M.g M.gc, .bool v.cl], .int .i64 id] w fun e w' => RgP w (unwR v id) (unwC v id) e w'
/-- A list of it is another one. -/
theorem RRow.line {B : Nat} {w' : World} {M : Rm} {v : Rv} {g m c : Nat} {xs : List Int} (h : RRow B w' M v) (ho : w'.ownsRow B 3 1 (.slice (some ⟨g, 0, none⟩) m c) m (intsV xs)) (hn : some g ∉ blkR M) : RRow B w' { M with la := some ⟨g, 0, none⟩, l := m, lc := c } { v with ln := xs } := by
  have hA : AptP _ _ _ _ _ := apt_iff.1 h.apt
  have nin : ∀ {z : Option Nat}, z ∈ blkR M → z ≠ some g := fun hz e => hn (by rw [← e]; exact hz)
  have gb : ∀ b, (Value.slice (some ⟨g, 0, none⟩) m c).ownBlock = some b → g = b := fun b e => by simpa [Value.ownBlock] using e
  have inX : ∀ y, y ∈ M.xs.map (fun x => (Value.slice x.a x.n x.c).ownBlock) → y ∈ blkR M := fun y hy => by
    unfold blkR
    exact List.mem_cons_of_mem _ (List.mem_cons_of_mem _ (List.mem_cons_of_mem _ (List.mem_cons_of_mem _ hy)))
  refine ⟨h.it, h.its, h.sb, h.fl, h.fls, h.sv, ho, h.gs, apt_iff.2 ⟨hA.is, fun b e e' => ?_, hA.ig, hA.ix, fun b e e' => ?_, hA.sg, hA.sx, fun b e e' => ?_, fun x hx b e e' => ?_, hA.gx, hA.xx⟩⟩
  · exact nin (z := (Value.slice M.ia M.i M.ic).ownBlock) (by simp [blkR]) (by rw [gb b e']; exact e)
  · exact nin (z := (Value.slice M.sa M.s M.sc).ownBlock) (by simp [blkR]) (by rw [gb b e']; exact e)
  · exact nin (z := (Value.slice M.ga M.g M.gc).ownBlock) (by simp [blkR]) (by rw [gb b e]; exact e')
  · exact nin (inX x hx) (by rw [gb b e]; exact e')
theorem RRow.grants {B : Nat} {w' : World} {M : Rm} {v : Rv} {g m c : Nat} {xs : List Int} (h : RRow B w' M v) (ho : w'.ownsRow B 3 1 (.slice (some ⟨g, 0, none⟩) m c) m (intsV xs)) (hn : some g ∉ blkR M) : RRow B w' { M with ga := some ⟨g, 0, none⟩, g := m, gc := c } { v with gs := xs } := by
  have hA : AptP _ _ _ _ _ := apt_iff.1 h.apt
  have nin : ∀ {z : Option Nat}, z ∈ blkR M → z ≠ some g := fun hz e => hn (by rw [← e]; exact hz)
  have gb : ∀ b, (Value.slice (some ⟨g, 0, none⟩) m c).ownBlock = some b → g = b := fun b e => by simpa [Value.ownBlock] using e
  have inX : ∀ y, y ∈ M.xs.map (fun x => (Value.slice x.a x.n x.c).ownBlock) → y ∈ blkR M := fun y hy => by
    unfold blkR
    exact List.mem_cons_of_mem _ (List.mem_cons_of_mem _ (List.mem_cons_of_mem _ (List.mem_cons_of_mem _ hy)))
  refine ⟨h.it, h.its, h.sb, h.fl, h.fls, h.sv, h.ln, ho, apt_iff.2 ⟨hA.is, hA.il, fun b e e' => ?_, hA.ix, hA.sl, fun b e e' => ?_, hA.sx, fun b e e' => ?_, hA.lx, fun x hx b e e' => ?_, hA.xx⟩⟩
  · exact nin (z := (Value.slice M.ia M.i M.ic).ownBlock) (by simp [blkR]) (by rw [gb b e']; exact e)
  · exact nin (z := (Value.slice M.sa M.s M.sc).ownBlock) (by simp [blkR]) (by rw [gb b e']; exact e)
  · exact nin (z := (Value.slice M.la M.l M.lc).ownBlock) (by simp [blkR]) (by rw [gb b e']; exact e)
  · exact nin (inX x hx) (by rw [gb b e]; exact e')
theorem lessL_len (xs : List Int) (x : Int) : (lessL xs x).length ≤ xs.length := by
  unfold lessL
  exact List.length_erase_le
end Go.Proofs.YtffpecdjfcgadaaGreatDoor
namespace Go.Proofs.YtffpecdjfcgadaaGreatDoor
open Go.RowKit Pl Il

theorem BoxL.grownO {N : Nat} {vs : List Value} {w w' : World} {g : Option Nat} (h : BoxL N vs w) (hg : w.grownBy w' g) (hn : g ≠ some N) : BoxL N vs w' :=
  h.of_block (hg.block N h.lt fun e => hn e.symm) (Nat.lt_of_lt_of_le h.lt hg.size)
theorem RRow.shut {B : Nat} {w : World} {M : Rm} {v : Rv} (h : RRow B w M v) (b : Bool) : RRow B w M { v with cl := b } := ⟨h.it, h.its, h.sb, h.fl, h.fls, h.sv, h.ln, h.gs, h.apt⟩
/-- Nobody waits. -/
theorem RRow.noLine {B : Nat} {w : World} {M : Rm} {v : Rv} (h : RRow B w M v) : RRow B w { M with la := none, l := 0, lc := 0 } { v with ln := [] } := by
  have hA : AptP _ _ _ _ _ := apt_iff.1 h.apt
  have nb : ∀ b, (Value.slice none 0 0).ownBlock = some b → False := fun b e => by simp [Value.ownBlock] at e
  exact ⟨h.it, h.its, h.sb, h.fl, h.fls, h.sv, ⟨rfl, .inl ⟨rfl, rfl⟩⟩, h.gs, apt_iff.2 ⟨hA.is, fun b _ e' => nb b e', hA.ig, hA.ix, fun b _ e' => nb b e', hA.sg, hA.sx, fun b e _ => nb b e, fun x _ b e _ => nb b e, hA.gx, hA.xx⟩⟩
/-- More are told. -/
theorem RRow.growG {B : Nat} {w w' : World} {M : Rm} {v : Rv} {a' : Option Addr} {n' c' : Nat} {xs : List Int} (h : RRow B w M v) (ho : w'.ownsRow B 3 1 (.slice a' n' c') n' (intsV xs)) (hg : w.grownBy w' (Value.slice M.ga M.g M.gc).ownBlock)
    (hl : ∀ q, (Value.slice a' n' c').ownBlock = some q → (Value.slice M.ga M.g M.gc).ownBlock = some q ∨ w.heap.size ≤ q) : RRow B w' { M with ga := a', g := n', gc := c' } { v with gs := xs } := by
  have hA : AptP _ _ _ _ _ := apt_iff.1 h.apt
  have lt : ∀ {z : Option Nat}, z ∈ blkR M → ∀ q, z = some q → q < w.heap.size := fun hz q e => (h.blk q (by rw [← e]; exact hz)).2
  have inX : ∀ y, y ∈ M.xs.map (fun x => (Value.slice x.a x.n x.c).ownBlock) → y ∈ blkR M := fun y hy => by
    unfold blkR
    exact List.mem_cons_of_mem _ (List.mem_cons_of_mem _ (List.mem_cons_of_mem _ (List.mem_cons_of_mem _ hy)))
  have nw : ∀ {z : Option Nat}, (∀ b, z = some b → (Value.slice M.ga M.g M.gc).ownBlock ≠ some b) → z ∈ blkR M → ∀ b, z = some b → (Value.slice a' n' c').ownBlock ≠ some b := fun hz hin b ez e => by
    rcases hl b e with k | k
    · exact hz b ez k
    · have := lt hin b ez; omega
  have swap : ∀ {y z : Option Nat}, (∀ b, y = some b → z ≠ some b) → ∀ b, z = some b → y ≠ some b := fun hyz b e e' => hyz b e' e
  refine ⟨rowG h.it hg (swap hA.ig), h.its, rowG h.sb hg (swap hA.sg), fun x hx => rowG (h.fl x hx) hg (hA.gx _ (List.mem_map.2 ⟨x, hx, rfl⟩)), h.fls, h.sv, rowG h.ln hg (swap hA.lg), ho, apt_iff.2 ⟨hA.is, hA.il, nw hA.ig (by simp [blkR]), hA.ix, hA.sl, nw hA.sg (by simp [blkR]), hA.sx, nw hA.lg (by simp [blkR]), hA.lx, fun x hx => swap (nw (swap (hA.gx x hx)) (inX x hx)), hA.xx⟩⟩
/-- A ring, a list of whom is told, and a code were handed back. -/
def RgT (w : World) (v : Rv) (told : List Int) (c : Int) (e : Ending) (w' : World) : Prop := ∃ (M : Rm) (a : Option Addr) (n k : Nat), e = .returned (.tuple #[.agg #[.int .i64 v.cp, .int .i64 v.se, .slice M.ia M.i M.ic, .int .i64 v.nx, .slice M.sa M.s M.sc, .slice M.la M.l M.lc, .slice M.ga M.g M.gc, .bool v.cl], .slice a n k, .int .i64 c]) ∧ ROwn w.heap.size w' M v ∧ RLe M 2097152 ∧ Il.OwnAt w.heap.size w' a n told ∧ n ≤ 2097152 ∧ (∀ p, p ∈ allR M → Far p.1 p.2 a n) ∧ Below w.heap.size w w'
def RgTS (w : World) (v : Rv) (told : List Int) (c : Int) (e : Ending) (w' : World) : Prop := ∃ (M : Rm) (a : Option Addr) (n k : Nat), e = .returned (.tuple #[.agg #[.int .i64 v.cp, .int .i64 v.se, .slice M.ia M.i M.ic, .int .i64 v.nx, .slice M.sa M.s M.sc, .slice M.la M.l M.lc, .slice M.ga M.g M.gc, .bool v.cl], .slice a n k, .int .i64 c]) ∧ RRow w.heap.size w' M v ∧ RLe M 2097152 ∧ Il.OwnAt w.heap.size w' a n told ∧ n ≤ 2097152 ∧ (∀ p, p ∈ allR M → Far p.1 p.2 a n) ∧ Below w.heap.size w w'
theorem RgTS.weak {w : World} {v : Rv} {t : List Int} {c : Int} {e : Ending} {w' : World} (h : RgTS w v t c e w') : RgT w v t c e w' := by
  obtain ⟨M, a, n, k, he, hr, h1⟩ := h
  exact ⟨M, a, n, k, he, hr.own, h1⟩
/-- All who wait are told, and it is closed. -/
def shutR (v : Rv) : Rv := ⟨v.cp, v.se, v.it, v.nx, v.sb, [], v.gs ++ v.ln, true⟩
def cloR (v : Rv) : Rv := if okR restR v = true then (if v.cl = true then v else shutR v) else v
def cloT (v : Rv) : List Int := if okR restR v = true then (if v.cl = true then [] else v.ln) else []
def cloC (v : Rv) : Int := if okR restR v = true then (if v.cl = true then 6 else 0) else 1
def CloseDone (F : Nat) : Prop := ∀ (M : Rm) (v : Rv) (w : World), RIn w M v → RLe M 1048576 → RCap M → RWf v →
  Calls Tryz.prog F #[.agg #[.int .i64 v.cp, .int .i64 v.se, .slice M.ia M.i M.ic, .int .i64 v.nx, .slice M.sa M.s M.sc, .slice M.la M.l M.lc, .slice M.ga M.g M.gc, .bool v.cl]] w fun e w' => RgT w (cloR v) (cloT v) (cloC v) e w'
def CloseDoneS (F : Nat) : Prop := ∀ (M : Rm) (v : Rv) (w : World), RIn w M v → RLe M 1048576 → RCap M → RWf v →
  Calls Tryz.prog F #[.agg #[.int .i64 v.cp, .int .i64 v.se, .slice M.ia M.i M.ic, .int .i64 v.nx, .slice M.sa M.s M.sc, .slice M.la M.l M.lc, .slice M.ga M.g M.gc, .bool v.cl]] w fun e w' => RgTS w (cloR v) (cloT v) (cloC v) e w'
end Go.Proofs.YtffpecdjfcgadaaGreatDoor
namespace Go.Proofs.YtffpecdjfcgadaaGreatDoor
open Go.RowKit Pl Il

/-- A ring without what is ahead of its oldest. -/
def trimR (v : Rv) : Rv := if v.se - oldR v < (v.it.length : Int) then { v with it := v.it.drop (v.it.length - (v.se - oldR v).toNat) } else v
theorem RRow.items {B : Nat} {w' : World} {M : Rm} {v : Rv} {ia : Option Addr} {i ic : Nat} {ts : List Tm} (h : RRow B w' M v) (ho : w'.ownsRow B 94 3 (.slice ia i ic) i (qflat ts)) (hts : ∀ p, p ∈ ts → p.2.2.size ≤ maxLen) (hn : ∀ q, (Value.slice ia i ic).ownBlock = some q → some q ∉ blkR M) : RRow B w' { M with ia := ia, i := i, ic := ic } { v with it := ts } := by
  have hA : AptP _ _ _ _ _ := apt_iff.1 h.apt
  have inX : ∀ y, y ∈ M.xs.map (fun x => (Value.slice x.a x.n x.c).ownBlock) → y ∈ blkR M := fun y hy => by
    unfold blkR
    exact List.mem_cons_of_mem _ (List.mem_cons_of_mem _ (List.mem_cons_of_mem _ (List.mem_cons_of_mem _ hy)))
  refine ⟨ho, hts, h.sb, h.fl, h.fls, h.sv, h.ln, h.gs, apt_iff.2 ⟨fun b e e' => ?_, fun b e e' => ?_, fun b e e' => ?_, fun x hx b e e' => ?_, hA.sl, hA.sg, hA.sx, hA.lg, hA.lx, hA.gx, hA.xx⟩⟩
  · exact hn b e (by rw [← e']; simp [blkR])
  · exact hn b e (by rw [← e']; simp [blkR])
  · exact hn b e (by rw [← e']; simp [blkR])
  · exact hn b e (by rw [← e']; exact inX x hx)
def TrimP (B : Nat) (w : World) (M : Rm) (v : Rv) (e : Ending) (w' : World) : Prop := ∃ (ia : Option Addr) (i ic : Nat), e = .returned (.agg #[.int .i64 v.cp, .int .i64 v.se, .slice ia i ic, .int .i64 v.nx, .slice M.sa M.s M.sc, .slice M.la M.l M.lc, .slice M.ga M.g M.gc, .bool v.cl]) ∧ RRow B w' { M with ia := ia, i := i, ic := ic } (trimR v) ∧ i ≤ M.i ∧ Below w.heap.size w w'
abbrev TrS (N : Nat) (M : Rm) (v : Rv) (u : World) : Prop := u.cell? ⟨N, 0, none⟩ = some (.int .i64 v.cp) ∧ u.cell? ⟨N, 1, none⟩ = some (.int .i64 v.se) ∧ u.cell? ⟨N, 2, none⟩ = some (.slice M.ia M.i M.ic) ∧ u.cell? ⟨N, 3, none⟩ = some (.int .i64 v.nx) ∧ u.cell? ⟨N, 4, none⟩ = some (.slice M.sa M.s M.sc) ∧ u.cell? ⟨N, 5, none⟩ = some (.slice M.la M.l M.lc) ∧ u.cell? ⟨N, 6, none⟩ = some (.slice M.ga M.g M.gc) ∧ u.cell? ⟨N, 7, none⟩ = some (.bool v.cl)
theorem cellT {u u' : World} {b o : Nat} {x : Value} (h : u.cell? ⟨b, o, none⟩ = some x) (hb : Below u.heap.size u u') : u'.cell? ⟨b, o, none⟩ = some x := by rw [hb.cell (p := ⟨b, o, none⟩) (World.block_lt_of_cell? _ _ h)]; exact h
theorem TrS.keep {N : Nat} {M : Rm} {v : Rv} {u u' : World} (h : TrS N M v u) (hb : Below u.heap.size u u') : TrS N M v u' := by
  obtain ⟨h0, h1, h2, h3, h4, h5, h6, h7⟩ := h
  exact ⟨cellT h0 hb, cellT h1 hb, cellT h2 hb, cellT h3 hb, cellT h4 hb, cellT h5 hb, cellT h6 hb, cellT h7 hb⟩
theorem BoxL.trS {N : Nat} {M : Rm} {v : Rv} {u : World} (h : BoxL N (rC M v) u) : TrS N M v u := by
  have p0 := h.cs 0 (by simp)
  have p1 := h.cs 1 (by simp)
  have p2 := h.cs 2 (by simp)
  have p3 := h.cs 3 (by simp)
  have p4 := h.cs 4 (by simp)
  have p5 := h.cs 5 (by simp)
  have p6 := h.cs 6 (by simp)
  have p7 := h.cs 7 (by simp)
  simp at p0 p1 p2 p3 p4 p5 p6 p7
  exact ⟨p0, p1, p2, p3, p4, p5, p6, p7⟩
theorem append_noneM (W : World) (g : Nat) (a : Option Addr) (cap : Nat) : (Builtin.append_ #[50, 50] 50 #[.slice (some ⟨g, 0, none⟩) 0 0, .slice a 0 cap]).run Tryz.prog W = .ok (.slice (some ⟨g, 0, none⟩) 0 0) W := by
  obtain ⟨i, hi, hz0, hz1, hz2⟩ := info_parts rinfoM
  refine run_append_nothing W 50 50 50 94 i Tryz.underlying50 hi (some ⟨g, 0, none⟩) 0 0 (Nat.le_refl _) _ ?_
  rcases a with _ | ad
  · exact Src.ofNil _ Tryz.underlying50 cap
  · exact Src.ofSlice _ Tryz.underlying50 ad 0 cap [] (by simp) (fun j u h => by simp at h) (fun u h => by cases h)
theorem blk_items {M : Rm} {ia : Option Addr} {i ic N : Nat} (h : some N ∉ blkR M) (hq : ∀ q, (Value.slice ia i ic).ownBlock = some q → q ≠ N) : some N ∉ blkR { M with ia := ia, i := i, ic := ic } := fun hm => by
  unfold blkR at hm h
  simp only [List.mem_cons] at hm h
  rcases hm with e | hm
  · exact hq N e.symm rfl
  · exact h (.inr hm)
def TrimQ (B : Nat) (w : World) (M : Rm) (v : Rv) (e : Ending) (w' : World) : Prop := ∃ (ia : Option Addr) (i ic : Nat), e = .returned (.agg #[.int .i64 v.cp, .int .i64 v.se, .slice ia i ic, .int .i64 v.nx, .slice M.sa M.s M.sc, .slice M.la M.l M.lc, .slice M.ga M.g M.gc, .bool v.cl]) ∧ RRow B w' { M with ia := ia, i := i, ic := ic } (trimR v) ∧ i ≤ M.i ∧ Below w.heap.size w w' ∧ ((Value.slice ia i ic).ownBlock = (Value.slice M.ia M.i M.ic).ownBlock ∨ ∀ q, (Value.slice ia i ic).ownBlock = some q → w.heap.size ≤ q)
end Go.Proofs.YtffpecdjfcgadaaGreatDoor
namespace Go.Proofs.YtffpecdjfcgadaaGreatDoor
open Go.RowKit Pl Il

/-- What a right message is. -/
abbrev Bd : Type := Sum Int ByteArray
/-- Does t begin s? Is it somewhere within? -/
def begB (s t : ByteArray) : Bool := t.toList.isPrefixOf s.toList
def inL : List UInt8 → List UInt8 → Bool
  | l, [] => l.isEmpty
  | l, x :: xs => l.isPrefixOf (x :: xs) || inL l xs
def leafP (t : Tm) : Bd → Bool
  | .inl n => if t.1 = 1 then true else if t.1 = 2 then true else if t.1 = 3 then false else if t.1 = 4 then decide (n < t.2.1) else if t.1 = 5 then decide (n.tmod t.2.1 = 0) else false
  | .inr s => if t.1 = 1 then true else if t.1 = 2 then false else if t.1 = 3 then true else if t.1 = 4 then false else if t.1 = 5 then false else if t.1 = 6 then begB s t.2.2 else inL t.2.2.toList s.toList
abbrev Pd : Type := Bd → Bool
def pg (ps : List Pd) (i : Nat) : Pd := ps.getD i (fun _ => false)
def stepP (t : Tm) (ps : List Pd) : List Pd :=
  if t.1 = 8 then ps.take (ps.length - 1) ++ [fun b => !(pg ps (ps.length - 1) b)]
  else if t.1 = 9 then ps.take (ps.length - 2) ++ [fun b => pg ps (ps.length - 1) b && pg ps (ps.length - 2) b]
  else if t.1 = 10 then ps.take (ps.length - 2) ++ [fun b => pg ps (ps.length - 1) b || pg ps (ps.length - 2) b]
  else ps ++ [leafP t]
theorem stepP_len (t : Tm) (ps : List Pd) (_h : ¬ ps.length < cntM t.1) : (stepP t ps).length = ps.length - cntM t.1 + 1 := by
  unfold stepP
  unfold cntM
  by_cases h1 : t.1 = 8
  · simp [h1]
  · by_cases h2 : t.1 = 9
    · simp [h2]
    · by_cases h3 : t.1 = 10
      · simp [h3]
      · simp [h1, h2, h3]
def runP (f : List Tm) : List Pd := f.foldl (fun ps t => stepP t ps) []
theorem runP_snoc (l : List Tm) (t : Tm) : runP (l ++ [t]) = stepP t (runP l) := by simp [runP]
theorem runP_step {f : List Tm} {k : Nat} (hk : k < f.length) : runP (f.take (k + 1)) = stepP (qg f k) (runP (f.take k)) := by rw [take_qg hk, runP_snoc]
/-- What a filter lets pass. -/
def passP (f : List Tm) : Pd := if f = [] then fun _ => true else pg (runP f) 0
theorem runP_len : ∀ {f : List Tm} {k m : Nat}, k ≤ f.length → goN (f.take k) 0 = some m → (runP (f.take k)).length = m := by
  intro f k
  induction k with
  | zero => intro m _ h; simp [goN] at h; subst h; simp [runP]
  | succ k ih =>
    intro m hk h
    have hk' : k < f.length := by omega
    rw [take_qg hk', goN_snoc] at h
    cases e : goN (f.take k) 0 with
    | none => rw [e] at h; cases h
    | some q =>
      rw [e] at h
      simp only [Option.bind_some] at h
      have hl := ih (by omega) e
      split at h
      · cases h
      · split at h
        · cases h
        · rename_i h2
          rw [runP_step hk', stepP_len _ _ (by rw [hl]; exact h2), hl]
          simpa using h
end Go.Proofs.YtffpecdjfcgadaaGreatDoor
namespace Go.Proofs.YtffpecdjfcgadaaGreatDoor
open Go.RowKit Pl Il

theorem isPart_any (s : ByteArray) (w : World) (hs : s.size ≤ maxLen) :
    Calls Tryz.prog 117 #[.string s] w fun e w' => e = .returned (.bool (partB s)) ∧ w' = w := by
  unfold maxLen at hs
  by_cases h1 : (s.size : Int) < 1
  · have hq := part_size s (by omega)
    go_enter Tryz.func117, Tryz.ntmps117
    go_wp2
    go_ret
    first | exact ⟨rbool hq.symm, rfl⟩ | exact ⟨rfl, rfl⟩
  by_cases h2 : 10 < (s.size : Int)
  · have hq := part_size s (by omega)
    go_enter Tryz.func117, Tryz.ntmps117
    go_wp2
    go_ret
    first | exact ⟨rbool hq.symm, rfl⟩ | exact ⟨rfl, rfl⟩
  go_enter Tryz.func117, Tryz.ntmps117
  go_wp2
  go_loop [3] (fun i => ∃ k : Nat, k ≤ s.size ∧ i = .int .i64 k ∧ letL (s.data.toList.take k) = true) (fun i => s.size - (intOf i).toNat)
  case atStart => exact ⟨0, Nat.zero_le _, rfl, rfl⟩
  case round =>
    obtain ⟨k, hk, rfl, hp⟩ := hrel
    by_cases hlt : k < s.size
    · go_wp2
      all_goals first
        | (go_ret; exact ⟨rbool (part_bad s k hlt (let_no _ (by omega))).symm, rfl⟩)
        | (go_round
           case rel => exact ⟨k + 1, by omega, by go_num, let_step s k hlt hp (let_yes _ (by omega) (by omega))⟩
           case measure => simp [intOf]; omega)
    · go_wp2
      go_ret
      exact ⟨rbool (part_all s k (by omega) (by omega) (by omega) hp).symm, rfl⟩
theorem countTaken_any (op : Int) (w : World) : Calls Tryz.prog 111 #[.int .i64 op] w fun e w' => e = .returned (.int .i64 (cntM op : Int)) ∧ w' = w := by
  by_cases h1 : op = 8
  · subst h1
    go_enter Tryz.func111, Tryz.ntmps111
    go_wp2
    go_ret
    exact ⟨rfl, rfl⟩
  by_cases h2 : op = 9
  · subst h2
    go_enter Tryz.func111, Tryz.ntmps111
    go_wp2
    go_ret
    exact ⟨rfl, rfl⟩
  by_cases h3 : op = 10
  · subst h3
    go_enter Tryz.func111, Tryz.ntmps111
    go_wp2
    go_ret
    exact ⟨rfl, rfl⟩
  have e1 : (op == 8) = false := by simp [h1]
  have e2 : (op == 9) = false := by simp [h2]
  have e3 : (op == 10) = false := by simp [h3]
  have hc : cntM op = 0 := by simp [cntM, h1, h2, h3]
  rw [hc]
  go_enter Tryz.func111, Tryz.ntmps111
  go_wp2
  go_ret
  exact ⟨rfl, rfl⟩
set_option maxHeartbeats 1000000 in
theorem termOk_any (t : Tm) (w : World) (hs : t.2.2.size ≤ maxLen) :
    Calls Tryz.prog 110 #[.agg #[.int .i64 t.1, .int .i64 t.2.1, .string t.2.2]] w fun e w' => e = .returned (.bool (okTm t)) ∧ Below w.heap.size w w' := by
  obtain ⟨op, n, s⟩ := t
  simp only at hs ⊢
  go_enter Tryz.func110, Tryz.ntmps110
  go_wp2_with (go_at_call 117; refine (isPart_any s _ hs).mono ?_; rintro e w1 ⟨rfl, rfl⟩)
  all_goals go_ret
  all_goals refine ⟨rbool ?_, bl_alloc (Below.refl _ _) _⟩
  all_goals first | (simp_all [okTm]; done) | (simp_all [okTm]; omega)
end Go.Proofs.YtffpecdjfcgadaaGreatDoor
namespace Go.Proofs.YtffpecdjfcgadaaGreatDoor
open Go.RowKit Pl Il

def IsFn (v : Value) : Prop := ∃ k caps, v = .func (.func k) #[] caps
/-- What is asked of a relation 'this function value stands for this test': F are the blocks that it leans on. -/
structure Sys (R : List Nat → World → Value → Pd → Prop) : Prop where
  isfn : ∀ {F u v p}, R F u v p → IsFn v
  frame : ∀ {F u W v p}, R F u v p → u.heap.size ≤ W.heap.size → (∀ j, j ∈ F → W.heap[j]? = u.heap[j]?) → R F W v p
  lt : ∀ {F u v p}, R F u v p → ∀ j, j ∈ F → j < u.heap.size
  all : ∀ u, R [] u (.func (.func 109) #[] #[]) (fun _ => true)
  leaf : ∀ (t : Tm) (u : World), okTm t = true → cntM t.1 = 0 → t.2.2.size ≤ maxLen → Calls Tryz.prog 123 #[.agg #[.int .i64 t.1, .int .i64 t.2.1, .string t.2.2]] u fun e u' => ∃ v F, e = .returned v ∧ R F u' v (leafP t) ∧ (∀ j, j ∈ F → u.heap.size ≤ j) ∧ Below u.heap.size u u'
  nott : ∀ {F u v p} (c : Nat), R F u v p → u.heap[c]? = some (.cells #[v] 163 (0, 0)) → R (c :: F) u (.func (.func 120) #[] #[.pointer (some ⟨c, 0, none⟩)]) (fun b => !(p b))
  andd : ∀ {F F' u v v' p p'} (c c' : Nat), R F u v p → R F' u v' p' → u.heap[c]? = some (.cells #[v] 163 (0, 0)) → u.heap[c']? = some (.cells #[v'] 163 (0, 0)) → R (c :: c' :: (F ++ F')) u (.func (.func 121) #[] #[.pointer (some ⟨c, 0, none⟩), .pointer (some ⟨c', 0, none⟩)]) (fun b => p b && p' b)
  orr : ∀ {F F' u v v' p p'} (c c' : Nat), R F u v p → R F' u v' p' → u.heap[c]? = some (.cells #[v] 163 (0, 0)) → u.heap[c']? = some (.cells #[v'] 163 (0, 0)) → R (c :: c' :: (F ++ F')) u (.func (.func 122) #[] #[.pointer (some ⟨c, 0, none⟩), .pointer (some ⟨c', 0, none⟩)]) (fun b => p b || p' b)
/-- The stack in block L: vs are its function values, v the slice; they stand for ps. -/
structure Stk (R : List Nat → World → Value → Pd → Prop) (w0 : World) (L : Nat) (v : Value) (vs : List Value) (ps : List Pd) (u : World) : Prop where
  below : Below w0.heap.size w0 u
  hL : w0.heap.size ≤ L
  blk : u.heap[L]? = some (.cells #[v] 175 (0, 0))
  row : u.ownsRow (L + 1) 163 1 v vs.length vs
  len : ps.length = vs.length
  rep : ∀ i, i < vs.length → ∃ F, R F u (vs.getD i .nilFunc) (pg ps i) ∧ ∀ j, j ∈ F → j ≠ L ∧ v.ownBlock ≠ some j
theorem blk_cell {u : World} {L : Nat} {v : Value} {t : TypeId} (h : u.heap[L]? = some (.cells #[v] t (0, 0))) : u.cell? ⟨L, 0, none⟩ = some v ∧ L < u.heap.size ∧ ∀ o, u.frozen? ⟨L, o, none⟩ = false := by
  refine ⟨by simp [World.cell?, h], ?_, fun o => by simp [World.frozen?, h]⟩
  rcases Nat.lt_or_ge L u.heap.size with k | k
  · exact k
  · rw [Array.getElem?_eq_none k] at h; cases h
theorem blk_set {u : World} {L : Nat} {v : Value} {t : TypeId} (h : u.heap[L]? = some (.cells #[v] t (0, 0))) (y : Value) : (u.setCell ⟨L, 0, none⟩ y).heap[L]? = some (.cells #[y] t (0, 0)) := by
  simp [World.setCell, Array.getElem?_modify, h]
theorem infoFn : (Tryz.prog.info? 163).map (fun i => (i.zero, i.size, i.bytes)) = some (some .nilFunc, 1, 8) := by kernel_rfl
/-- One function value is appended to an own row. -/
theorem append_fn (B m : Nat) (v : Value) (vs : List Value) (f : Value) (w : World) (hf : IsFn f) (ho : w.ownsRow B 163 1 v m vs) (hB : B ≤ w.heap.size) (hs : m + 1 ≤ 4194304) :
    ∃ (g cap : Nat) (w' : World), (Builtin.append_ #[173, 173] 173 #[v, .slice (some ⟨w.heap.size, 0, none⟩) 1 1]).run Tryz.prog (w.alloc (.cells #[f] 163)) = .ok (.slice (some ⟨g, 0, none⟩) (m + 1) cap) w' ∧
      w'.ownsRow B 163 1 (.slice (some ⟨g, 0, none⟩) (m + 1) cap) (m + 1) (vs ++ [f]) ∧ w.grownBy w' v.ownBlock ∧ (v.ownBlock = some g ∨ w.heap.size < g) := by
  obtain ⟨i, hi, hz0, hz1, hz2⟩ := info_parts infoFn
  have hb0 : Below w.heap.size w (w.alloc (.cells #[f] 163)) := bl_alloc (Below.refl _ _) _
  have ho' : (w.alloc (.cells #[f] 163)).ownsRow B 163 1 v m vs := ho.alloc _
  obtain ⟨g, c, w', hr, hown, hg, hgo, _⟩ := run_append_lies (P := Tryz.prog) (w.alloc (.cells #[f] 163)) 173 173 B 163 i _ 1 8 Tryz.underlying173 hi hz0 hz1 hz2 rfl (by omega) v m _ ho' ⟨w.heap.size, 0, none⟩ 1 1 [f] (by simp)
    (fun j u h => by
      have hj : j = 0 := by
        have := (List.getElem?_eq_some_iff.1 h).1
        simp at this; omega
      subst hj
      simp at h
      subst h
      rw [Addr.add_lit]; simp)
    (fun u hu => by
      simp at hu
      subst hu
      obtain ⟨k, caps, rfl⟩ := hf
      rfl) (by omega) (by unfold maxLen; omega) (by omega) (by simp; omega) _ rfl
  refine ⟨g, c, w', hr, hown, ?_, ?_⟩
  · exact ⟨hg.os.trans hb0.os, hg.tape.trans hb0.tape, hg.output.trans hb0.output, Nat.le_trans hb0.size hg.size, fun k hk hne => (hg.block k (Nat.lt_of_lt_of_le hk hb0.size) hne).trans (hb0.block k hk)⟩
  · rcases hgo with h | h
    · exact .inl h
    · right; rw [h]; simp
theorem row_ge {B : Nat} {w : World} {t : TypeId} {v : Value} {n : Nat} {xs : List Value} (h : w.ownsRow B t 1 v n xs) {j : Nat} (hj : v.ownBlock = some j) : B ≤ j ∧ j < w.heap.size := h.lt j hj
theorem getD_snoc_lt {vs : List Value} {x : Value} {i : Nat} (h : i < vs.length) : (vs ++ [x]).getD i .nilFunc = vs.getD i .nilFunc := by
  simp [List.getD, List.getElem?_append_left h]
theorem getD_snoc_eq {vs : List Value} {x : Value} : (vs ++ [x]).getD vs.length .nilFunc = x := by simp [List.getD]
theorem pg_snoc_lt {ps : List Pd} {p : Pd} {i : Nat} (h : i < ps.length) : pg (ps ++ [p]) i = pg ps i := by
  simp [pg, List.getD, List.getElem?_append_left h]
theorem pg_snoc_eq {ps : List Pd} {p : Pd} : pg (ps ++ [p]) ps.length = p := by simp [pg, List.getD]
theorem pg_take {ps : List Pd} {i n : Nat} (h : i < n) : pg (ps.take n) i = pg ps i := by simp [pg, List.getD, List.getElem?_take_of_lt h]

set_option maxHeartbeats 1000000 in
theorem take_any {R : List Nat → World → Value → Pd → Prop} (S : Sys R) (w0 : World) (L : Nat) (v : Value) (vs : List Value) (x : Value) (ps : List Pd) (u : World) (hS : Stk R w0 L v (vs ++ [x]) ps u) (hn : vs.length ≤ 4194304) :
    Calls Tryz.prog 118 #[.pointer (some ⟨L, 0, none⟩)] u fun e u' => e = .returned x ∧ ∃ v', Stk R w0 L v' vs (ps.take vs.length) u' ∧ v'.ownBlock = v.ownBlock ∧ (∃ F, R F u' x (pg ps vs.length) ∧ ∀ j, j ∈ F → j ≠ L ∧ v'.ownBlock ≠ some j) ∧ u'.heap.size = u.heap.size ∧ ∀ k, k ≠ L → u'.heap[k]? = u.heap[k]? := by
  obtain ⟨hbl, hL, hblk, hrow, hlen, hrep⟩ := hS
  simp only [List.length_append, List.length_singleton] at hrow hlen hrep
  obtain ⟨hc, hlt, hfr⟩ := blk_cell hblk
  obtain ⟨g, cap, rfl, _, _⟩ := hrow.form (by omega)
  have hcap : vs.length + 1 ≤ cap := by
    obtain ⟨_, ⟨h0, _⟩ | ⟨g', cap', cur, hv, _, _, hc', _⟩⟩ := id hrow
    · cases h0
    · cases hv; exact hc'
  obtain ⟨F, hR, hF⟩ := hrep vs.length (by omega)
  rw [getD_snoc_eq] at hR
  have hgL : L + 1 ≤ g := (row_ge hrow (j := g) rfl).1
  have hx : u.cell? ⟨g, vs.length, none⟩ = some x := by
    rw [hrow.cellAt vs.length (by omega)]; simp
  obtain ⟨kx, cx, hfx⟩ := S.isfn hR
  obtain ⟨W, hW⟩ : ∃ W, W = u.setCell ⟨L, 0, none⟩ (.slice (some ⟨g, 0, none⟩) vs.length cap) := ⟨_, rfl⟩
  have hWk : ∀ k, k ≠ L → W.heap[k]? = u.heap[k]? := fun k hk => by rw [hW]; exact Below.heap_setCell _ _ _ _ (fun e => hk e)
  have hWs : W.heap.size = u.heap.size := by rw [hW]; simp
  have hWL : W.heap[L]? = some (.cells #[.slice (some ⟨g, 0, none⟩) vs.length cap] 175 (0, 0)) := by rw [hW]; exact blk_set hblk _
  have hrow' : W.ownsRow (L + 1) 163 1 (.slice (some ⟨g, 0, none⟩) vs.length cap) vs.length vs := by
    have h1 := ownsRow_pop (xs := vs) (last := [x]) (by omega) hrow
    rw [hW]
    exact h1.kept (row := some L) ⟨rfl, rfl, rfl, by simp, fun k _ hk => Below.heap_setCell _ _ _ _ (by rintro rfl; exact hk rfl)⟩ (.inr (by simp [Value.ownBlock]; omega))
  have hfin : Stk R w0 L (.slice (some ⟨g, 0, none⟩) vs.length cap) vs (ps.take vs.length) W :=
    ⟨by rw [hW]; exact hbl.setCell (p := ⟨L, 0, none⟩) hL _, hL, hWL, hrow', by rw [List.length_take]; omega, fun i hi => by
      obtain ⟨F', hR', hF'⟩ := hrep i (by omega)
      rw [getD_snoc_lt hi] at hR'
      exact ⟨F', by rw [pg_take hi]; exact S.frame hR' (by omega) (fun j hj => hWk j (hF' j hj).1), fun j hj => ⟨(hF' j hj).1, (hF' j hj).2⟩⟩⟩
  have HF := hidOf (And.intro hfin (And.intro (S.frame hR (W := W) (by omega) (fun j hj => hWk j (hF j hj).1)) (And.intro hWs hWk)))
  have hFF := hidOf hF
  clear hfin hrow' hWL hWs hWk hR hF hrep hrow hblk hbl hlen
  subst hfx
  have e1 : ((vs.length + 1 : Nat) : Int) - 1 = (vs.length : Int) := by omega
  go_enter Tryz.func118, Tryz.ntmps118
  go_wp2
  rw [← hW]
  go_ret
  exact ⟨rfl, _, HF.out.1, rfl, ⟨F, HF.out.2.1, fun j hj => hFF.out j hj⟩, HF.out.2.2.1, HF.out.2.2.2⟩
end Go.Proofs.YtffpecdjfcgadaaGreatDoor
