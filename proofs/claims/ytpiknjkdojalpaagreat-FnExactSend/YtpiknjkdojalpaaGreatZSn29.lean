/-
  One number of a subscriber is another one: in a ring's rows, and in a body.
-/
import Derived.Test.YtpiknjkdojalpaaGreatZSn28
import Derived.Test.YtpiknjkdojalpaaGreatZSn13
import Derived.Laws.OwnMore
namespace Go.Proofs.YtpiknjkdojalpaaGreat
open Go.RowKit Go.Maps Pl Il

/-- One of a subscriber's numbers is z: 2 its cursor, 3 what it got, 4 what it lost, 5 what was passed by. -/
def subPut (s : Sb) (r : Nat) (z : Int) : Sb := if r = 2 then { s with cu := z } else if r = 3 then { s with gt := z } else if r = 4 then { s with lo := z } else { s with pa := z }
def putA (x : Sa) (r : Nat) (z : Int) : Sa := { x with s := subPut x.s r z }
def putS (xs : List Sa) (k r : Nat) (z : Int) : List Sa := xs.set k (putA (sg xs k) r z)
def putV (sb : List Sb) (k r : Nat) (z : Int) : List Sb := sb.set k (subPut (sb.getD k ⟨0, 0, 0, 0, 0, 0, []⟩) r z)
theorem putA_cells (x : Sa) (r : Nat) (z : Int) (h2 : 2 ≤ r) (h5 : r ≤ 5) : sC (putA x r z) = (sC x).set r (.int .i64 z) := by
  have : r = 2 ∨ r = 3 ∨ r = 4 ∨ r = 5 := by omega
  rcases this with rfl | rfl | rfl | rfl <;> rfl
theorem putS_len (xs : List Sa) (k r : Nat) (z : Int) : (putS xs k r z).length = xs.length := by simp [putS]
theorem putS_get {xs : List Sa} {k r j : Nat} {z : Int} (hj : j < xs.length) : sg (putS xs k r z) j = if k = j then putA (sg xs k) r z else sg xs j := by
  rw [sg_eq (by rw [putS_len]; exact hj)]
  simp only [putS, List.getElem_set]
  split
  · rfl
  · rw [sg_eq hj]
theorem sg_svs2 {xs : List Sa} {k : Nat} (hk : k < xs.length) : (svs xs).getD k ⟨0, 0, 0, 0, 0, 0, []⟩ = (sg xs k).s := by
  rw [List.getD, List.getElem?_eq_getElem (by simpa [svs] using hk), Option.getD_some]
  exact sg_svs hk
theorem putS_svs {xs : List Sa} {k r : Nat} {z : Int} (hk : k < xs.length) : svs (putS xs k r z) = putV (svs xs) k r z := by
  unfold putV
  rw [sg_svs2 hk]
  simp only [svs, putS, List.map_set, putA]
theorem putS_mem {xs : List Sa} {k r : Nat} {z : Int} (hk : k < xs.length) : ∀ x, x ∈ putS xs k r z → ∃ y, y ∈ xs ∧ x.a = y.a ∧ x.n = y.n ∧ x.c = y.c ∧ x.s.fl = y.s.fl := by
  intro x hx
  rcases List.mem_or_eq_of_mem_set hx with h | h
  · exact ⟨x, h, rfl, rfl, rfl, rfl⟩
  · refine ⟨sg xs k, by rw [sg_eq hk]; exact List.getElem_mem _, ?_⟩
    subst h
    refine ⟨rfl, rfl, rfl, ?_⟩
    unfold putA subPut
    split
    · rfl
    · split
      · rfl
      · split <;> rfl
theorem putS_map {α : Type} {xs : List Sa} {k r : Nat} {z : Int} (hk : k < xs.length) (f : Option Addr → Nat → Nat → α) : (putS xs k r z).map (fun x => f x.a x.n x.c) = xs.map fun x => f x.a x.n x.c := by
  refine List.ext_getElem (by simp [putS]) fun i h1 h2 => ?_
  simp only [List.getElem_map, putS, List.getElem_set]
  split
  · rename_i h
    subst h
    simp only [putA, sg_eq hk]
  · rfl
theorem sflat_put {xs : List Sa} {k r : Nat} {z : Int} (hk : k < xs.length) (h2 : 2 ≤ r) (h5 : r ≤ 5) : sflat (putS xs k r z) = (sflat xs).set (k * 7 + r) (.int .i64 z) := by
  have hl : (sflat xs).length = xs.length * 7 := length_sflat xs
  have hl2 : (sflat (putS xs k r z)).length = xs.length * 7 := by rw [length_sflat, putS_len]
  refine List.ext_getElem? fun i => ?_
  rw [List.getElem?_set]
  by_cases hi : i < xs.length * 7
  · have e1 := sflat_at (putS xs k r z) (i / 7) (i % 7) (by rw [putS_len]; omega) (by omega)
    have e2 := sflat_at xs (i / 7) (i % 7) (by omega) (by omega)
    rw [show i / 7 * 7 + i % 7 = i by omega] at e1 e2
    rw [e1, putS_get (by omega)]
    by_cases hik : k = i / 7
    · rw [if_pos hik, putA_cells _ _ _ h2 h5, List.getElem?_set, hik]
      by_cases hr : r = i % 7
      · rw [if_pos hr, if_pos (by show r < 7; omega), if_pos (by omega), if_pos (by rw [hl]; omega)]
      · rw [if_neg hr, if_neg (by omega), e2]
    · rw [if_neg hik, if_neg (by omega), e2]
  · rw [List.getElem?_eq_none (by omega), if_neg (by omega), List.getElem?_eq_none (by omega)]
theorem row_put {B g n c : Nat} {w : World} {xs : List Sa} (h : w.ownsRow B 41 7 (.slice (some ⟨g, 0, none⟩) n c) n (sflat xs)) {k r : Nat} (hk : k < xs.length) (h2 : 2 ≤ r) (h5 : r ≤ 5) (z : Int) :
    (w.setCell ⟨g, k * 7 + r, none⟩ (.int .i64 z)).ownsRow B 41 7 (.slice (some ⟨g, 0, none⟩) n c) n (sflat (putS xs k r z)) ∧ w.grownBy (w.setCell ⟨g, k * 7 + r, none⟩ (.int .i64 z)) (some g) := by
  rw [sflat_put hk h2 h5]
  exact h.stored _ _
/-- What a subscriber's cells read as. -/
theorem row_cell {B g n c : Nat} {w : World} {xs : List Sa} (h : w.ownsRow B 41 7 (.slice (some ⟨g, 0, none⟩) n c) n (sflat xs)) {k r : Nat} (hk : k < xs.length) (hr : r < 7) : w.cell? ⟨g, k * 7 + r, none⟩ = (sC (sg xs k))[r]? := by
  obtain ⟨hl, ⟨e, _⟩ | ⟨g', c', cur, e, hB, hg, hc, hm, hs, ht⟩⟩ := h
  · cases e
  · cases e
    have e2 := sflat_at xs k r hk hr
    have hn : xs.length = n := by rw [length_sflat] at hl; omega
    rw [cell_of_row w g (k * 7 + r) cur _ (0, 0) hg, ← e2, ← ht, List.getElem?_take_of_lt (by omega), Array.getElem?_toList]
theorem RRow.put {B : Nat} {w : World} {M : Rm} {v : Rv} {g k r : Nat} (h : RRow B w M v) (hg : M.sa = some ⟨g, 0, none⟩) (hk : k < M.xs.length) (h2 : 2 ≤ r) (h5 : r ≤ 5) (z : Int) :
    RRow B (w.setCell ⟨g, k * 7 + r, none⟩ (.int .i64 z)) { M with xs := putS M.xs k r z } { v with sb := putV v.sb k r z } := by
  have hA : AptP _ _ _ _ _ := apt_iff.1 h.apt
  have hsb := h.sb
  rw [hg] at hsb
  obtain ⟨r1, gr⟩ := row_put hsb hk h2 h5 z
  have hb : (Value.slice M.sa M.s M.sc).ownBlock = some g := by rw [hg]; rfl
  refine ⟨rowG h.it gr (fun q e e' => ?_), h.its, by rw [hg]; exact r1, fun x hx => ?_, fun x hx p hp => ?_, ?_, rowG h.ln gr (fun q e e' => ?_), rowG h.gs gr (fun q e e' => ?_), ?_⟩
  · injection e with e; subst e; exact hA.is _ e' hb
  · obtain ⟨y, hy, e1, e2, e3, e4⟩ := putS_mem hk x hx
    rw [e1, e2, e3, e4]
    exact rowG (h.fl y hy) gr (fun q e e' => by injection e with e; subst e; exact hA.sx _ (List.mem_map.2 ⟨y, hy, rfl⟩) _ hb e')
  · obtain ⟨y, hy, _, _, _, e4⟩ := putS_mem hk x hx
    rw [e4] at hp
    exact h.fls y hy p hp
  · show svs (putS M.xs k r z) = putV v.sb k r z
    rw [putS_svs hk, h.sv]
  · injection e with e; subst e; exact hA.sl _ hb e'
  · injection e with e; subst e; exact hA.sg _ hb e'
  · have e : blkR { M with xs := putS M.xs k r z } = blkR M := by
      unfold blkR
      simp only
      rw [putS_map hk (fun a n c => (Value.slice a n c).ownBlock)]
    rw [e]; exact h.apt
theorem RBody.put {B b : Nat} {A : Na} {P : Nat → Tm} {f : Nat} {v : Rv} {g s sc : Nat} {ys : List Sa} {w : World} (h : RBody B b A P f v (some ⟨g, 0, none⟩) s sc ys w) {k r : Nat} (hk : k < ys.length) (h2 : 2 ≤ r) (h5 : r ≤ 5) (z : Int) :
    RBody B b A P f { v with sb := putV v.sb k r z } (some ⟨g, 0, none⟩) s sc (putS ys k r z) (w.setCell ⟨g, k * 7 + r, none⟩ (.int .i64 z)) := by
  obtain ⟨r1, gr⟩ := row_put h.srow.sb hk h2 h5 z
  have hgb : g ≠ b := fun e => h.nb.1 (by rw [e]; rfl)
  have ct : ∀ j, (w.setCell ⟨g, k * 7 + r, none⟩ (.int .i64 z)).cell? ⟨b, j, none⟩ = w.cell? ⟨b, j, none⟩ := fun j => World.cell?_setCell_other _ _ _ _ (by intro e; injection e with e1; exact hgb e1)
  have ha := h.srow.apt
  unfold Apt at ha
  rw [List.pairwise_cons] at ha
  refine ⟨⟨by simpa using h.wst.lt, h.wst.ge, by rw [ct]; exact h.wst.c0, by rw [ct]; exact h.wst.c1, fun o => by simpa using h.wst.fr o, ⟨rowG h.wst.rows.one gr (fun q e e' => ?_), rowG h.wst.rows.two gr (fun q e e' => ?_), h.wst.rows.ne⟩, h.wst.ne1, h.wst.ne2⟩, ⟨?_, fun j hj => ?_⟩, by rw [ct]; exact h.c2, by rw [ct]; exact h.fst, by rw [ct]; exact h.nxt, by rw [ct]; exact h.c56, by rw [ct]; exact h.c57, by rw [ct]; exact h.c58, ⟨r1, fun x hx => ?_, fun x hx p hp => ?_, ?_⟩, ?_, h.its, h.sh, h.se, h.few, ⟨h.nb.1, fun x hx => ?_⟩, fun q hq => ⟨(h.ap q hq).1, fun x hx => ?_⟩⟩
  · injection e with e; subst e; exact (h.ap _ (.inl e')).1 rfl
  · injection e with e; subst e; exact (h.ap _ (.inr e')).1 rfl
  · obtain ⟨cur, t, hc, hs1⟩ := h.rnd.blk
    exact ⟨cur, t, by rw [gr.block b h.wst.lt (fun e => by injection e with e; exact hgb e.symm)]; exact hc, hs1⟩
  · obtain ⟨h1, h2, h3⟩ := h.rnd.pl j hj
    exact ⟨by rw [ct]; exact h1, by rw [ct]; exact h2, by rw [ct]; exact h3⟩
  · obtain ⟨y, hy, e1, e2, e3, e4⟩ := putS_mem hk x hx
    rw [e1, e2, e3, e4]
    exact rowG (h.srow.fl y hy) gr (fun q e e' => by injection e with e; subst e; exact ha.1 _ (List.mem_map.2 ⟨y, hy, rfl⟩) _ rfl e')
  · obtain ⟨y, hy, _, _, _, e4⟩ := putS_mem hk x hx
    rw [e4] at hp
    exact h.srow.fls y hy p hp
  · rw [putS_map hk (fun a n c => (Value.slice a n c).ownBlock)]; exact h.srow.apt
  · show svs (putS ys k r z) = putV v.sb k r z
    rw [putS_svs hk, h.sv]
  · obtain ⟨y, hy, e1, e2, e3, _⟩ := putS_mem hk x hx
    rw [e1, e2, e3]; exact h.nb.2 y hy
  · obtain ⟨y, hy, e1, e2, e3, _⟩ := putS_mem hk x hx
    rw [e1, e2, e3]; exact (h.ap q hq).2 y hy
end Go.Proofs.YtpiknjkdojalpaaGreat
