/-
  One number of a subscriber is another one: in a ring's rows, and in a body.
  The plain mathematics of skipping: who skips, what is lost, what goes.
  The program's round of messages: those of the first numbers are let go, their places cleared.
  The program's round of messages: dropUpTo.
  The program's ring: its oldest, and what is let go.
  The program's ring: its oldest, and what is let go.
  The program's ring: a body to read, and its subscriber.
-/
import Derived.Test.YtihdglmiecifjaaGreatZRa29
import Derived.Test.YtihdglmiecifjaaGreatZRa12
import Derived.Laws.OwnMore
import Derived.Test.YtihdglmiecifjaaGreatZRa32
import Derived.Test.YtihdglmiecifjaaGreatZRa38
import Derived.Test.YtihdglmiecifjaaGreatZRa26
import Derived.Test.YtihdglmiecifjaaGreatZRa17
import Derived.Test.YtihdglmiecifjaaGreatZRa34
import Derived.Deep.RegionHeld3
import Derived.Test.YtihdglmiecifjaaGreatZRa37
namespace Go.Proofs.YtihdglmiecifjaaGreat
open Go.RowKit Go.Maps Pl Il

/-- One of a subscriber's numbers is z: 2 its cursor, 3 what it got, 4 what it lost, 5 what was passed by. -/
def subPut (s : Sb) (r : Nat) (z : Int) : Sb := if r = 2 then { s with cu := z } else if r = 3 then { s with gt := z } else if r = 4 then { s with lo := z } else { s with pa := z }
def putA (x : Sa) (r : Nat) (z : Int) : Sa := { x with s := subPut x.s r z }
def putS (xs : List Sa) (k r : Nat) (z : Int) : List Sa := xs.set k (putA (sg xs k) r z)
def putV (sb : List Sb) (k r : Nat) (z : Int) : List Sb := sb.set k (subPut (sb.getD k ⟨0, 0, 0, 0, 0, 0, []⟩) r z)
theorem putA_cells (x : Sa) (r : Nat) (z : Int) (h2 : 2 ≤ r) (h5 : r ≤ 5) : sC (putA x r z) = (sC x).set r (.int .i64 z) := by
  have : r = 2 ∨ r = 3 ∨ r = 4 ∨ r = 5 := by omega
  rcases this with rfl | rfl | rfl | rfl <;> rfl
theorem putS_len (xs : List Sa) (k r : Nat) (z : Int) : (putS xs k r z).length = xs.length := by simp [putS]
theorem putS_get {xs : List Sa} {k r j : Nat} {z : Int} (hj : j < xs.length) : sg (putS xs k r z) j = if k = j then putA (sg xs k) r z else sg xs j := by
  rw [sg_eq (by rw [putS_len]; exact hj)]
  simp only [putS, List.getElem_set]
  split
  · rfl
  · rw [sg_eq hj]
theorem sg_svs2 {xs : List Sa} {k : Nat} (hk : k < xs.length) : (svs xs).getD k ⟨0, 0, 0, 0, 0, 0, []⟩ = (sg xs k).s := by
  rw [List.getD, List.getElem?_eq_getElem (by simpa [svs] using hk), Option.getD_some]
  exact sg_svs hk
theorem putS_svs {xs : List Sa} {k r : Nat} {z : Int} (hk : k < xs.length) : svs (putS xs k r z) = putV (svs xs) k r z := by
  unfold putV
  rw [sg_svs2 hk]
  simp only [svs, putS, List.map_set, putA]
theorem putS_mem {xs : List Sa} {k r : Nat} {z : Int} (hk : k < xs.length) : ∀ x, x ∈ putS xs k r z → ∃ y, y ∈ xs ∧ x.a = y.a ∧ x.n = y.n ∧ x.c = y.c ∧ x.s.fl = y.s.fl := by
  intro x hx
  rcases List.mem_or_eq_of_mem_set hx with h | h
  · exact ⟨x, h, rfl, rfl, rfl, rfl⟩
  · refine ⟨sg xs k, by rw [sg_eq hk]; exact List.getElem_mem _, ?_⟩
    subst h
    refine ⟨rfl, rfl, rfl, ?_⟩
    unfold putA subPut
    split
    · rfl
    · split
      · rfl
      · split <;> rfl
theorem putS_map {α : Type} {xs : List Sa} {k r : Nat} {z : Int} (hk : k < xs.length) (f : Option Addr → Nat → Nat → α) : (putS xs k r z).map (fun x => f x.a x.n x.c) = xs.map fun x => f x.a x.n x.c := by
  refine List.ext_getElem (by simp [putS]) fun i h1 h2 => ?_
  simp only [List.getElem_map, putS, List.getElem_set]
  split
  · rename_i h
    subst h
    simp only [putA, sg_eq hk]
  · rfl
theorem sflat_put {xs : List Sa} {k r : Nat} {z : Int} (hk : k < xs.length) (h2 : 2 ≤ r) (h5 : r ≤ 5) : sflat (putS xs k r z) = (sflat xs).set (k * 7 + r) (.int .i64 z) := by
  have hl : (sflat xs).length = xs.length * 7 := length_sflat xs
  have hl2 : (sflat (putS xs k r z)).length = xs.length * 7 := by rw [length_sflat, putS_len]
  refine List.ext_getElem? fun i => ?_
  rw [List.getElem?_set]
  by_cases hi : i < xs.length * 7
  · have e1 := sflat_at (putS xs k r z) (i / 7) (i % 7) (by rw [putS_len]; omega) (by omega)
    have e2 := sflat_at xs (i / 7) (i % 7) (by omega) (by omega)
    rw [show i / 7 * 7 + i % 7 = i by omega] at e1 e2
    rw [e1, putS_get (by omega)]
    by_cases hik : k = i / 7
    · rw [if_pos hik, putA_cells _ _ _ h2 h5, List.getElem?_set, hik]
      by_cases hr : r = i % 7
      · rw [if_pos hr, if_pos (by show r < 7; omega), if_pos (by omega), if_pos (by rw [hl]; omega)]
      · rw [if_neg hr, if_neg (by omega), e2]
    · rw [if_neg hik, if_neg (by omega), e2]
  · rw [List.getElem?_eq_none (by omega), if_neg (by omega), List.getElem?_eq_none (by omega)]
theorem row_put {B g n c : Nat} {w : World} {xs : List Sa} (h : w.ownsRow B 41 7 (.slice (some ⟨g, 0, none⟩) n c) n (sflat xs)) {k r : Nat} (hk : k < xs.length) (h2 : 2 ≤ r) (h5 : r ≤ 5) (z : Int) :
    (w.setCell ⟨g, k * 7 + r, none⟩ (.int .i64 z)).ownsRow B 41 7 (.slice (some ⟨g, 0, none⟩) n c) n (sflat (putS xs k r z)) ∧ w.grownBy (w.setCell ⟨g, k * 7 + r, none⟩ (.int .i64 z)) (some g) := by
  rw [sflat_put hk h2 h5]
  exact h.stored _ _
/-- What a subscriber's cells read as. -/
theorem row_cell {B g n c : Nat} {w : World} {xs : List Sa} (h : w.ownsRow B 41 7 (.slice (some ⟨g, 0, none⟩) n c) n (sflat xs)) {k r : Nat} (hk : k < xs.length) (hr : r < 7) : w.cell? ⟨g, k * 7 + r, none⟩ = (sC (sg xs k))[r]? := by
  obtain ⟨hl, ⟨e, _⟩ | ⟨g', c', cur, e, hB, hg, hc, hm, hs, ht⟩⟩ := h
  · cases e
  · cases e
    have e2 := sflat_at xs k r hk hr
    have hn : xs.length = n := by rw [length_sflat] at hl; omega
    rw [cell_of_row w g (k * 7 + r) cur _ (0, 0) hg, ← e2, ← ht, List.getElem?_take_of_lt (by omega), Array.getElem?_toList]
theorem RRow.put {B : Nat} {w : World} {M : Rm} {v : Rv} {g k r : Nat} (h : RRow B w M v) (hg : M.sa = some ⟨g, 0, none⟩) (hk : k < M.xs.length) (h2 : 2 ≤ r) (h5 : r ≤ 5) (z : Int) :
    RRow B (w.setCell ⟨g, k * 7 + r, none⟩ (.int .i64 z)) { M with xs := putS M.xs k r z } { v with sb := putV v.sb k r z } := by
  have hA : AptP _ _ _ _ _ := apt_iff.1 h.apt
  have hsb := h.sb
  rw [hg] at hsb
  obtain ⟨r1, gr⟩ := row_put hsb hk h2 h5 z
  have hb : (Value.slice M.sa M.s M.sc).ownBlock = some g := by rw [hg]; rfl
  refine ⟨rowG h.it gr (fun q e e' => ?_), h.its, by rw [hg]; exact r1, fun x hx => ?_, fun x hx p hp => ?_, ?_, rowG h.ln gr (fun q e e' => ?_), rowG h.gs gr (fun q e e' => ?_), ?_⟩
  · injection e with e; subst e; exact hA.is _ e' hb
  · obtain ⟨y, hy, e1, e2, e3, e4⟩ := putS_mem hk x hx
    rw [e1, e2, e3, e4]
    exact rowG (h.fl y hy) gr (fun q e e' => by injection e with e; subst e; exact hA.sx _ (List.mem_map.2 ⟨y, hy, rfl⟩) _ hb e')
  · obtain ⟨y, hy, _, _, _, e4⟩ := putS_mem hk x hx
    rw [e4] at hp
    exact h.fls y hy p hp
  · show svs (putS M.xs k r z) = putV v.sb k r z
    rw [putS_svs hk, h.sv]
  · injection e with e; subst e; exact hA.sl _ hb e'
  · injection e with e; subst e; exact hA.sg _ hb e'
  · have e : blkR { M with xs := putS M.xs k r z } = blkR M := by
      unfold blkR
      simp only
      rw [putS_map hk (fun a n c => (Value.slice a n c).ownBlock)]
    rw [e]; exact h.apt
theorem RBody.put {B b : Nat} {A : Na} {P : Nat → Tm} {f : Nat} {v : Rv} {g s sc : Nat} {ys : List Sa} {w : World} (h : RBody B b A P f v (some ⟨g, 0, none⟩) s sc ys w) {k r : Nat} (hk : k < ys.length) (h2 : 2 ≤ r) (h5 : r ≤ 5) (z : Int) :
    RBody B b A P f { v with sb := putV v.sb k r z } (some ⟨g, 0, none⟩) s sc (putS ys k r z) (w.setCell ⟨g, k * 7 + r, none⟩ (.int .i64 z)) := by
  obtain ⟨r1, gr⟩ := row_put h.srow.sb hk h2 h5 z
  have hgb : g ≠ b := fun e => h.nb.1 (by rw [e]; rfl)
  have ct : ∀ j, (w.setCell ⟨g, k * 7 + r, none⟩ (.int .i64 z)).cell? ⟨b, j, none⟩ = w.cell? ⟨b, j, none⟩ := fun j => World.cell?_setCell_other _ _ _ _ (by intro e; injection e with e1; exact hgb e1)
  have ha := h.srow.apt
  unfold Apt at ha
  rw [List.pairwise_cons] at ha
  refine ⟨⟨by simpa using h.wst.lt, h.wst.ge, by rw [ct]; exact h.wst.c0, by rw [ct]; exact h.wst.c1, fun o => by simpa using h.wst.fr o, ⟨rowG h.wst.rows.one gr (fun q e e' => ?_), rowG h.wst.rows.two gr (fun q e e' => ?_), h.wst.rows.ne⟩, h.wst.ne1, h.wst.ne2⟩, ⟨?_, fun j hj => ?_⟩, by rw [ct]; exact h.c2, by rw [ct]; exact h.fst, by rw [ct]; exact h.nxt, by rw [ct]; exact h.c56, by rw [ct]; exact h.c57, by rw [ct]; exact h.c58, ⟨r1, fun x hx => ?_, fun x hx p hp => ?_, ?_⟩, ?_, h.its, h.sh, h.se, h.few, ⟨h.nb.1, fun x hx => ?_⟩, fun q hq => ⟨(h.ap q hq).1, fun x hx => ?_⟩⟩
  · injection e with e; subst e; exact (h.ap _ (.inl e')).1 rfl
  · injection e with e; subst e; exact (h.ap _ (.inr e')).1 rfl
  · obtain ⟨cur, t, hc, hs1⟩ := h.rnd.blk
    exact ⟨cur, t, by rw [gr.block b h.wst.lt (fun e => by injection e with e; exact hgb e.symm)]; exact hc, hs1⟩
  · obtain ⟨h1, h2, h3⟩ := h.rnd.pl j hj
    exact ⟨by rw [ct]; exact h1, by rw [ct]; exact h2, by rw [ct]; exact h3⟩
  · obtain ⟨y, hy, e1, e2, e3, e4⟩ := putS_mem hk x hx
    rw [e1, e2, e3, e4]
    exact rowG (h.srow.fl y hy) gr (fun q e e' => by injection e with e; subst e; exact ha.1 _ (List.mem_map.2 ⟨y, hy, rfl⟩) _ rfl e')
  · obtain ⟨y, hy, _, _, _, e4⟩ := putS_mem hk x hx
    rw [e4] at hp
    exact h.srow.fls y hy p hp
  · rw [putS_map hk (fun a n c => (Value.slice a n c).ownBlock)]; exact h.srow.apt
  · show svs (putS ys k r z) = putV v.sb k r z
    rw [putS_svs hk, h.sv]
  · obtain ⟨y, hy, e1, e2, e3, _⟩ := putS_mem hk x hx
    rw [e1, e2, e3]; exact h.nb.2 y hy
  · obtain ⟨y, hy, e1, e2, e3, _⟩ := putS_mem hk x hx
    rw [e1, e2, e3]; exact (h.ap q hq).2 y hy
end Go.Proofs.YtihdglmiecifjaaGreat
namespace Go.Proofs.YtihdglmiecifjaaGreat
open Go.RowKit Go.Maps Pl Il

abbrev Sb0 : Sb := ⟨0, 0, 0, 0, 0, 0, []⟩
theorem least_iff : ∀ (sb : List Sb) (m x : Int), x ≤ leastR m sb ↔ x ≤ m ∧ ∀ s, s ∈ sb → x ≤ s.cu
  | [], m, x => by simp [leastR]
  | s :: sb, m, x => by
    have e : leastR m (s :: sb) = leastR (if s.cu < m then s.cu else m) sb := rfl
    rw [e, least_iff sb]
    simp only [List.mem_cons, forall_eq_or_imp]
    constructor
    · rintro ⟨h1, h2⟩
      split at h1
      · exact ⟨by omega, h1, h2⟩
      · exact ⟨h1, by omega, h2⟩
    · rintro ⟨h1, h2, h3⟩
      refine ⟨?_, h3⟩
      split
      · exact h2
      · exact h1
theorem old_mono {v v' : Rv} (hs : v'.se = v.se) (hc : v'.cp = v.cp) (h : leastR v.se v.sb ≤ leastR v.se v'.sb) : oldR v ≤ oldR v' := by
  unfold oldR
  simp only [hs, hc]
  repeat' split
  all_goals omega
theorem putV_len (sb : List Sb) (k r : Nat) (z : Int) : (putV sb k r z).length = sb.length := by simp [putV]
theorem putV_get {sb : List Sb} {k r : Nat} {z : Int} (hk : k < sb.length) : (putV sb k r z).getD k Sb0 = subPut (sb.getD k Sb0) r z := by
  unfold putV
  rw [List.getD, List.getElem?_set, if_pos rfl, if_pos hk, Option.getD_some]
theorem putV_mem {sb : List Sb} {k r : Nat} {z : Int} {s : Sb} (h : s ∈ putV sb k r z) : s ∈ sb ∨ s = subPut (sb.getD k Sb0) r z := List.mem_or_eq_of_mem_set h
/-- What is lost of what is skipped. -/
def goneS (v : Rv) (s : Sb) (num : Int) : Int := if (if num < v.se - v.cp then num else v.se - v.cp) - s.cu < 0 then 0 else (if num < v.se - v.cp then num else v.se - v.cp) - s.cu
def skipV (v : Rv) (k : Nat) (num : Int) : Rv :=
  { v with sb := putV (putV (putV v.sb k 4 ((v.sb.getD k Sb0).lo + goneS v (v.sb.getD k Sb0) num)) k 5 ((v.sb.getD k Sb0).pa + (num - (v.sb.getD k Sb0).cu - goneS v (v.sb.getD k Sb0) num))) k 2 num }
theorem skip_mem {v : Rv} {k : Nat} {num : Int} (hk : k < v.sb.length) {s : Sb} (h : s ∈ (skipV v k num).sb) : s ∈ v.sb ∨ s.cu = num ∨ s.cu = (v.sb.getD k Sb0).cu := by
  have hgk : v.sb.getD k Sb0 ∈ v.sb := by
    rw [List.getD, List.getElem?_eq_getElem hk, Option.getD_some]; exact List.getElem_mem _
  rcases putV_mem h with h | h
  · rcases putV_mem h with h | h
    · rcases putV_mem h with h | h
      · exact .inl h
      · exact .inr (.inr (by rw [h]; rfl))
    · right; right
      rw [h, putV_get hk]
      rfl
  · exact .inr (.inl (by rw [h]; rfl))
theorem skip_old {v : Rv} {k : Nat} {num : Int} (hk : k < v.sb.length) (hn : (v.sb.getD k Sb0).cu ≤ num) : oldR v ≤ oldR (skipV v k num) := by
  refine old_mono rfl rfl ?_
  rw [least_iff]
  have hgk : v.sb.getD k Sb0 ∈ v.sb := by
    rw [List.getD, List.getElem?_eq_getElem hk, Option.getD_some]; exact List.getElem_mem _
  have hl := (least_iff v.sb v.se (leastR v.se v.sb)).1 (Int.le_refl _)
  refine ⟨hl.1, fun s hs => ?_⟩
  rcases skip_mem hk hs with h | h | h
  · exact hl.2 s h
  · have := hl.2 _ hgk; omega
  · have := hl.2 _ hgk; omega
/-- What is known of a right ring. -/
theorem ok_head {v : Rv} (h : okR restR v = true) : (1 ≤ v.cp ∧ v.cp ≤ 16) ∧ (0 ≤ v.se ∧ v.se ≤ 1000000000) ∧ v.sb.length ≤ 12 ∧ v.it.length ≤ 16 ∧ (v.it.length : Int) = v.se - oldR v ∧ v.ln.length ≤ 12 ∧ v.gs.length ≤ 12 := by
  simp only [okR, headR, lenR, Bool.and_eq_true, decide_eq_true_eq] at h
  obtain ⟨⟨⟨⟨⟨hcp, hse⟩, _⟩, h12⟩, h16⟩, _, ⟨hlen, hw, _⟩, _⟩ := h
  exact ⟨hcp, hse, h12, h16, hlen, by omega, by omega⟩
theorem ok_sub {v : Rv} (h : okR restR v = true) {k : Nat} (hk : k < v.sb.length) : subR v (v.sb.getD k Sb0) = true := by
  simp only [okR, Bool.and_eq_true] at h
  have h1 := h.2.1
  unfold subsTo at h1
  rw [List.all_eq_true] at h1
  have := h1 k (List.mem_range.2 hk)
  simp only [Bool.and_eq_true] at this
  exact this.1
theorem ok_nums {v : Rv} (h : okR restR v = true) {k : Nat} (hk : k < v.sb.length) : 0 ≤ (v.sb.getD k Sb0).cu ∧ (v.sb.getD k Sb0).cu ≤ v.se ∧ 0 ≤ (v.sb.getD k Sb0).gt ∧ (v.sb.getD k Sb0).gt ≤ 1000000000 ∧ 0 ≤ (v.sb.getD k Sb0).lo ∧ (v.sb.getD k Sb0).lo ≤ 1000000000 ∧ 0 ≤ (v.sb.getD k Sb0).pa ∧ (v.sb.getD k Sb0).pa ≤ 1000000000 := by
  have h1 := ok_sub h hk
  have h2 := (ok_head h).2.1
  simp only [subR, subHead, subSums, Bool.and_eq_true, decide_eq_true_eq] at h1
  omega
/-- The first number of a right ring. -/
theorem ok_fst {v : Rv} (h : okR restR v = true) : ∃ f : Nat, oldR v = (f : Int) ∧ v.se = ((f + v.it.length : Nat) : Int) ∧ v.it.length ≤ 16 ∧ f + v.it.length ≤ 1000000000 := by
  obtain ⟨hcp, hse, _, h16, hlen, _⟩ := ok_head h
  have := oldR_bd (v := v) hse.1 hcp.1
  exact ⟨(oldR v).toNat, by omega, by omega, h16, by omega⟩
/-- How many go. -/
theorem skip_first {v : Rv} (h : okR restR v = true) {k : Nat} {num : Int} (hk : k < v.sb.length) (hn : (v.sb.getD k Sb0).cu ≤ num) {f : Nat} (hf : v.se = ((f + v.it.length : Nat) : Int)) : ∃ d : Nat, d ≤ v.it.length ∧ oldR (skipV v k num) = ((f + d : Nat) : Int) ∧ trimR (skipV v k num) = { skipV v k num with it := v.it.drop d } := by
  obtain ⟨hcp, hse, _, h16, hlen, _⟩ := ok_head h
  have h1 := skip_old hk hn
  have h2 := oldR_bd (v := skipV v k num) hse.1 hcp.1
  have e1 : (skipV v k num).se = v.se := rfl
  have e2 : (skipV v k num).it = v.it := rfl
  rw [e1] at h2
  obtain ⟨d, hd⟩ : ∃ d : Nat, oldR (skipV v k num) = ((f + d : Nat) : Int) := ⟨(oldR (skipV v k num) - f).toNat, by omega⟩
  refine ⟨d, by omega, hd, ?_⟩
  unfold trimR
  rw [e1, e2]
  by_cases h0 : d = 0
  · subst h0
    rw [if_neg (by omega), List.drop_zero]
    rfl
  · rw [if_pos (by omega), show v.it.length - (v.se - oldR (skipV v k num)).toNat = d by omega]
    first | done | rfl
/-- What SkipTo leaves, and its code. -/
def skipG (v : Rv) (id num : Int) : Rv := if okR restR v = true then (if atR v.sb id < 0 then v else if (hasL v.ln id || hasL v.gs id) = true then v else if num < (v.sb.getD (atR v.sb id).toNat Sb0).cu ∨ v.se < num then v else trimR (skipV v (atR v.sb id).toNat num)) else v
def skipC (v : Rv) (id num : Int) : Int := if okR restR v = true then (if atR v.sb id < 0 then 3 else if (hasL v.ln id || hasL v.gs id) = true then 5 else if num < (v.sb.getD (atR v.sb id).toNat Sb0).cu ∨ v.se < num then 6 else 0) else 1
def SkipDone (F : Nat) : Prop := ∀ (M : Rm) (v : Rv) (id num : Int) (w : World), RIn w M v → RLe M 1048576 → RCap M → RWf v → (Lit.int .i64 id).wf = true → (Lit.int .i64 num).wf = true →
  Calls Tryz.prog F #[.agg #[.int .i64 v.cp, .int .i64 v.se, .slice M.ia M.i M.ic, .int .i64 v.nx, .slice M.sa M.s M.sc, .slice M.la M.l M.lc, .slice M.ga M.g M.gc, .bool v.cl], .int .i64 id, .int .i64 num] w fun e w' => RgP w (skipG v id num) (skipC v id num) e w'
theorem at_lt {sb : List Sb} {id : Int} (h : ¬ atR sb id < 0) : (atR sb id).toNat < sb.length ∧ atR sb id = ((atR sb id).toNat : Int) := by
  unfold atR at h ⊢
  split
  · rename_i i hi
    rw [List.findIdx?_eq_some_iff_getElem] at hi
    obtain ⟨h1, _⟩ := hi
    exact ⟨by simpa using h1, by simp⟩
  · rename_i hi
    rw [hi] at h
    simp at h
end Go.Proofs.YtihdglmiecifjaaGreat
namespace Go.Proofs.YtihdglmiecifjaaGreat
open Go.RowKit Pl Il

def zTm : Tm := (0, 0, ⟨#[]⟩)
theorem zero_flat (n : Nat) : (Builtin.zeroCells (Value.agg #[.int .i64 0, .int .i64 0, .string ⟨#[]⟩]).cells n).toList = qflat (List.replicate n zTm) := by
  have hz : (Value.agg #[.int .i64 0, .int .i64 0, .string ⟨#[]⟩]).cells = #[.int .i64 0, .int .i64 0, .string ⟨#[]⟩] := rfl
  rw [hz]
  refine List.ext_getElem? fun i => ?_
  by_cases hi : i < n * 3
  · have h := qflat_at (List.replicate n zTm) (i / 3) (i % 3) (by simp; omega) (by omega)
    rw [show i / 3 * 3 + i % 3 = i by omega, qg_eq (by simp; omega), List.getElem_replicate] at h
    rw [h]
    rw [List.getElem?_eq_getElem (by simp [Builtin.zeroCells]; omega)]
    simp only [Builtin.zeroCells, Array.getElem_toList, Array.getElem_map, Array.getElem_range]
    have : i % 3 = 0 ∨ i % 3 = 1 ∨ i % 3 = 2 := by omega
    rcases this with e | e | e <;> simp [e, qC, zTm]
  · rw [List.getElem?_eq_none (by simp [Builtin.zeroCells]; omega), List.getElem?_eq_none (by rw [length_qflat]; simp; omega)]
/-- Messages are cleared. -/
theorem clear_msgs (w : World) (b d n c : Nat) (cur : Array Value) (t : TypeId) (hn : 0 < n) (hg : w.heap[b]? = some (.cells cur t (0, 0))) (hs : d + n * 3 ≤ cur.size) :
    ∃ w', (∀ ty, (Builtin.clear_ #[24] ty #[.slice (some ⟨b, d, none⟩) n c]).run Tryz.prog w = .ok (.tuple #[]) w') ∧ CpyP b d n (List.replicate n zTm) w w' := by
  have hzl : (qflat (List.replicate n zTm)).length = n * 3 := by rw [length_qflat]; simp
  have hst := run_storeCells_at Tryz.prog b d t (qflat (List.replicate n zTm)) 0 cur w hg (by rw [hzl]; omega) (one_qflat _)
  simp only [Nat.add_zero] at hst
  refine ⟨w.setRow b (cur.toList.take d ++ qflat (List.replicate n zTm) ++ cur.toList.drop (d + (qflat (List.replicate n zTm)).length)).toArray, ?_, ⟨fun cur2 t2 h2 => ?_, grown_setRow _ _ _, fun j => ?_⟩⟩
  · intro ty
    obtain ⟨m, rfl⟩ : ∃ m, n = m + 1 := ⟨n - 1, by omega⟩
    have hst2 := hst
    rw [← zero_flat] at hst2
    simp only [Builtin.clear_]
    simp [run_underlying Tryz.underlying24, hst2]
    rw [zero_flat, hzl, ← Array.length_toList, zero_flat, hzl]
  · rw [hg] at h2
    cases h2
    refine ⟨_, setRow_heap w b cur _ t _ hg, ?_⟩
    simp only [List.size_toArray, List.length_append, List.length_take, List.length_drop, Array.length_toList, hzl]
    omega
  · rw [cell_setRow_same w b j cur _ t _ hg]
    have h := seg_at (l := cur.toList) (cs := qflat (List.replicate n zTm)) (d := d) (j := j) (by rw [hzl, Array.length_toList]; omega)
    rw [List.getElem?_toArray, h, hzl]
    split
    · rfl
    · simp [World.cell?, hg]
theorem clear_none (w : World) (ty : TypeId) (a : Option Addr) (c : Nat) : (Builtin.clear_ #[24] ty #[.slice a 0 c]).run Tryz.prog w = .ok (.tuple #[]) w := by
  cases a <;> simp [Builtin.clear_, run_underlying Tryz.underlying24]
/-- The first d of the n messages from number f on are let go. -/
structure DropP (b o f d n : Nat) (P P' : Nat → Tm) (w w' : World) : Prop where
  rnd : RndB b o P' w'
  grown : w.grownBy w' (some b)
  cells : ∀ j, (j < o ∨ o + 51 < j) → w'.cell? ⟨b, j, none⟩ = w.cell? ⟨b, j, none⟩
  fst : w'.cell? ⟨b, o + 51, none⟩ = some (.int .i64 ((f + d : Nat) : Int))
  same : ∀ i, d ≤ i → i < n → P' ((f + i) % 17) = P ((f + i) % 17)
  short : (∀ j, (P j).2.2.size ≤ maxLen) → ∀ j, (P' j).2.2.size ≤ maxLen
end Go.Proofs.YtihdglmiecifjaaGreat
namespace Go.Proofs.YtihdglmiecifjaaGreat
open Go.RowKit Pl Il

theorem grown_of {w u : World} {b : Nat} (h : Below w.heap.size w u) : w.grownBy u (some b) := ⟨h.os, h.tape, h.output, h.size, fun k hk _ => h.block k hk⟩
theorem grown_set (w : World) (b p : Nat) (v : Value) : w.grownBy (w.setCell ⟨b, p, none⟩ v) (some b) := ⟨rfl, rfl, rfl, by simp, fun k _ hk => Below.heap_setCell _ _ _ _ (by rintro rfl; exact hk rfl)⟩
theorem qg_rep {n i : Nat} (h : i < n) : qg (List.replicate n zTm) i = zTm := by rw [qg_eq (by simpa using h), List.getElem_replicate]
/-- What stands in a place behind the clearing of k places from s on. -/
def clrP (P : Nat → Tm) (s k : Nat) (j : Nat) : Tm := if s ≤ j ∧ j < s + k then zTm else P j
theorem RndB.clear {b o s k : Nat} {P : Nat → Tm} {w w' : World} (h : RndB b o P w) (hc : CpyP b (o + s * 3) k (List.replicate k zTm) w w') : RndB b o (clrP P s k) w' :=
  (h.copied hc (by simp)).ext fun j _ => by
    unfold clrP
    split
    · rename_i h1; rw [qg_rep (by omega)]
    · rfl
theorem clr_short {P : Nat → Tm} {s k : Nat} (h : ∀ j, (P j).2.2.size ≤ maxLen) : ∀ j, (clrP P s k j).2.2.size ≤ maxLen := fun j => by
  unfold clrP
  split
  · exact Nat.zero_le _
  · exact h j
/-- The end of dropUpTo: the first number is written. -/
theorem DropP.mk' {b o f d n : Nat} {P P' : Nat → Tm} {w w1 w2 : World} (hb : Below w.heap.size w w1) (hlt : b < w.heap.size) (hR : RndB b o P' w2) (hg : w1.grownBy w2 (some b)) (hc : ∀ j, (j < o ∨ o + 51 ≤ j) → w2.cell? ⟨b, j, none⟩ = w1.cell? ⟨b, j, none⟩)
    (hs : ∀ i, d ≤ i → i < n → P' ((f + i) % 17) = P ((f + i) % 17)) (hsh : (∀ j, (P j).2.2.size ≤ maxLen) → ∀ j, (P' j).2.2.size ≤ maxLen) {u : Value} (h51 : w.cell? ⟨b, o + 51, none⟩ = some u) :
    DropP b o f d n P P' w (w2.setCell ⟨b, o + 51, none⟩ (.int .i64 ((f + d : Nat) : Int))) := by
  refine ⟨hR.set _ (Nat.le_refl _) _, World.grownBy.trans (grown_of hb) (World.grownBy.trans hg (grown_set _ _ _ _)), fun j hj => ?_, ?_, hs, hsh⟩
  · rw [World.cell?_setCell_other _ _ _ _ (by intro e; injection e with _ e2; omega), hc j (by omega), hb.cell (p := ⟨b, j, none⟩) hlt]
  · exact World.cell?_setCell_same _ _ _ (by rw [hc _ (by omega), hb.cell (p := ⟨b, o + 51, none⟩) hlt]; exact h51)
set_option maxRecDepth 100000 in
set_option maxHeartbeats 4000000 in
theorem dropUpTo_any (b o f d n : Nat) (P : Nat → Tm) (w : World) (hR : RndB b o P w) (c51 : w.cell? ⟨b, o + 51, none⟩ = some (.int .i64 (f : Int))) (hd : d ≤ n) (hn : n ≤ 17) (hf : f + n ≤ 2000000000) :
    Calls Tryz.prog 175 #[.pointer (some ⟨b, o, none⟩), .int .i64 ((f + d : Nat) : Int)] w fun e w' => e = .returned (.tuple #[]) ∧ ∃ P', DropP b o f d n P P' w w' := by
  have hlt := hR.lt
  have HC := hidOf (span_any b o f d w (by omega) (by omega))
  have hs17 : f % 17 < 17 := Nat.mod_lt _ (by omega)
  have HR := hidOf hR
  have H51 := hidOf c51
  obtain ⟨s, hs⟩ : ∃ s, f % 17 = s := ⟨_, rfl⟩
  rw [hs] at HC hs17
  have HS := hidOf hs
  obtain ⟨fd, hfd⟩ : ∃ fd : Int, ((f + d : Nat) : Int) = fd := ⟨_, rfl⟩
  have HFD := hidOf hfd
  rw [hfd] at HC ⊢
  clear hs hR hfd
  by_cases hA : s + d ≤ 17
  · simp only [spanA, spanB, if_pos hA] at HC
    by_cases hd0 : d = 0
    · subst hd0
      go_enter Tryz.func175, Tryz.ntmps175
      go_wp2_with fail
      refine HC.out.mono ?_
      rintro e w1 ⟨rfl, hb1⟩
      have HB1 := hidOf hb1
      have q51 : w1.cell? ⟨b, o + 51, none⟩ = some (.int .i64 (f : Int)) := by rw [hb1.cell (p := ⟨b, o + 51, none⟩) hlt]; exact H51.out
      have f51 : w1.frozen? ⟨b, o + 51, none⟩ = false := (HR.out.keep hb1).fr _
      have k1 := fun ty => clear_none w1 ty (some ⟨b, o + s * 3, none⟩) (17 - s)
      have k2 := fun ty => clear_none w1 ty none 0
      clear HC c51 hb1
      go_wp2_with fail
      go_end0
      rw [← HFD.out]
      exact ⟨rfl, P, DropP.mk' HB1.out hlt (HR.out.keep HB1.out) ⟨rfl, rfl, rfl, Nat.le_refl _, fun _ _ _ => rfl⟩ (fun _ _ => rfl) (fun _ _ _ => rfl) (fun h => h) H51.out⟩
    · go_enter Tryz.func175, Tryz.ntmps175
      go_wp2_with fail
      refine HC.out.mono ?_
      rintro e w1 ⟨rfl, hb1⟩
      have HB1 := hidOf hb1
      have hR1 := HR.out.keep hb1
      obtain ⟨cur, t, hg, hsz⟩ := hR1.blk
      obtain ⟨w2, hr2, hc2⟩ := clear_msgs w1 b (o + s * 3) d (17 - s) cur t (by omega) hg (by omega)
      have hR2 := hR1.clear hc2
      have k2 := fun ty => clear_none w2 ty none 0
      have q51 : w2.cell? ⟨b, o + 51, none⟩ = some (.int .i64 (f : Int)) := by rw [hc2.cells, if_neg (by omega), hb1.cell (p := ⟨b, o + 51, none⟩) hlt]; exact H51.out
      have f51 : w2.frozen? ⟨b, o + 51, none⟩ = false := hR2.fr _
      have HR2 := hidOf hR2
      have HC2 := hidOf hc2
      clear HC c51 hb1 hR1 hR2 hc2 hg hsz
      go_wp2_with fail
      go_end0
      rw [← HFD.out]
      refine ⟨rfl, clrP P s d, DropP.mk' HB1.out hlt HR2.out HC2.out.grown (fun j hj => by rw [HC2.out.cells, if_neg (by omega)]) (fun i h1 h2 => ?_) clr_short H51.out⟩
      have := HS.out
      unfold clrP
      rw [if_neg (by omega)]
  · simp only [spanA, spanB, if_neg hA] at HC
    go_enter Tryz.func175, Tryz.ntmps175
    go_wp2_with fail
    refine HC.out.mono ?_
    rintro e w1 ⟨rfl, hb1⟩
    have HB1 := hidOf hb1
    have hR1 := HR.out.keep hb1
    obtain ⟨cur, t, hg, hsz⟩ := hR1.blk
    obtain ⟨w2, hr2, hc2⟩ := clear_msgs w1 b (o + s * 3) (17 - s) (17 - s) cur t (by omega) hg (by omega)
    have hR2 := hR1.clear hc2
    obtain ⟨cur2, t2, hg2, hsz2⟩ := hR2.blk
    obtain ⟨w3, hr3, hc3⟩ := clear_msgs w2 b (o + 0 * 3) (s + d - 17) 17 cur2 t2 (by omega) hg2 (by omega)
    have hR3 := hR2.clear hc3
    rw [Nat.zero_mul, Nat.add_zero] at hr3
    have q51 : w3.cell? ⟨b, o + 51, none⟩ = some (.int .i64 (f : Int)) := by rw [hc3.cells, if_neg (by omega), hc2.cells, if_neg (by omega), hb1.cell (p := ⟨b, o + 51, none⟩) hlt]; exact H51.out
    have f51 : w3.frozen? ⟨b, o + 51, none⟩ = false := hR3.fr _
    have HR3 := hidOf hR3
    have HC2 := hidOf hc2
    have HC3 := hidOf hc3
    clear HC c51 hb1 hR1 hR2 hR3 hc2 hc3 hg hsz hg2 hsz2
    go_wp2_with fail
    go_end0
    rw [← HFD.out]
    refine ⟨rfl, clrP (clrP P s (17 - s)) 0 (s + d - 17), DropP.mk' HB1.out hlt HR3.out (HC2.out.grown.trans HC3.out.grown) (fun j hj => by rw [HC3.out.cells, if_neg (by omega), HC2.out.cells, if_neg (by omega)]) (fun i h1 h2 => ?_) (fun h => clr_short (clr_short h)) H51.out⟩
    have := HS.out
    unfold clrP
    rw [if_neg (by omega), if_neg (by omega)]
end Go.Proofs.YtihdglmiecifjaaGreat
namespace Go.Proofs.YtihdglmiecifjaaGreat
open Go.RowKit Pl Il

theorem RBody.drop {B b : Nat} {A : Na} {P P' : Nat → Tm} {f d : Nat} {v : Rv} {sa : Option Addr} {s sc : Nat} {ys : List Sa} {w w' : World} (h : RBody B b A P f v sa s sc ys w) (hD : DropP b 3 f d v.it.length P P' w w') (hd : d ≤ v.it.length) : RBody B b A P' (f + d) { v with it := v.it.drop d } sa s sc ys w' := by
  have hg := hD.grown
  have ct : ∀ j, (j < 3 ∨ 3 + 51 < j) → ∀ {u : Value}, w.cell? ⟨b, j, none⟩ = some u → w'.cell? ⟨b, j, none⟩ = some u := fun j hj u e => by rw [hD.cells j hj]; exact e
  have hl : (v.it.drop d).length = v.it.length - d := List.length_drop
  refine ⟨⟨Nat.lt_of_lt_of_le h.wst.lt hg.size, h.wst.ge, ct 0 (by omega) h.wst.c0, ct 1 (by omega) h.wst.c1, fun o => hD.rnd.fr o, ⟨rowG h.wst.rows.one hg (fun q e => by injection e with e; rw [← e]; exact h.wst.ne1), rowG h.wst.rows.two hg (fun q e => by injection e with e; rw [← e]; exact h.wst.ne2), h.wst.rows.ne⟩, h.wst.ne1, h.wst.ne2⟩, hD.rnd, ct 2 (by omega) h.c2, hD.fst, ?_, ct 56 (by omega) h.c56, ct 57 (by omega) h.c57, ct 58 (by omega) h.c58, ⟨rowG h.srow.sb hg (fun q e => by injection e with e; rw [← e]; exact h.nb.1), fun x hx => rowG (h.srow.fl x hx) hg (fun q e => by injection e with e; rw [← e]; exact h.nb.2 x hx), h.srow.fls, h.srow.apt⟩, h.sv, ?_, hD.short h.sh, ?_, ?_, h.nb, h.ap⟩
  · have := ct (3 + 52) (by omega) h.nxt
    rw [this]
    show some (Value.int .i64 ((f + v.it.length : Nat) : Int)) = some (.int .i64 ((f + d + (v.it.drop d).length : Nat) : Int))
    rw [hl, show f + d + (v.it.length - d) = f + v.it.length by omega]
  · show itemsP P' (f + d) (v.it.drop d).length = v.it.drop d
    have e := h.its
    refine List.ext_getElem (by rw [itemsP_len]) fun i h1 h2 => ?_
    rw [itemsP_len, hl] at h1
    have e2 : (v.it.drop d)[i]'h2 = (itemsP P f v.it.length)[d + i]'(by rw [itemsP_len]; omega) := by
      rw [List.getElem_drop]
      congr 1
      exact e.symm
    rw [e2]
    simp only [itemsP, List.getElem_map, List.getElem_range]
    rw [show f + d + i = f + (d + i) by omega]
    exact hD.same (d + i) (by omega) (by omega)
  · show v.se = ((f + d + (v.it.drop d).length : Nat) : Int)
    rw [hl, show f + d + (v.it.length - d) = f + v.it.length by omega]
    exact h.se
  · have := h.few
    show (v.it.drop d).length ≤ 17 ∧ f + d + (v.it.drop d).length ≤ 2000000000
    omega
end Go.Proofs.YtihdglmiecifjaaGreat
namespace Go.Proofs.YtihdglmiecifjaaGreat
open Go.RowKit Pl Il

theorem SRow.sub {B : Nat} {w : World} {a : Option Addr} {n c : Nat} {ys : List Sa} (h : SRow B w a n c ys) : SubAt w a n ys := by
  have hfl : ∀ x, x ∈ ys → OwnF B w x.a x.n x.s.fl := fun x hx => by
    obtain ⟨a1, c1, e1, _, h1⟩ := ownF_of (h.fl x hx) x.s.fl rfl (h.fls x hx)
    cases e1
    exact h1
  obtain ⟨hl, _, hr⟩ := rowS h.sb
  refine ⟨hl, fun x hx => (hfl x hx).tm, ?_⟩
  rcases hr with k | ⟨b, e, _, hlt, _, hc⟩
  · exact .inl k
  · exact .inr ⟨b, 0, e, hlt, hc⟩
set_option maxRecDepth 100000 in
set_option maxHeartbeats 4000000 in
theorem oldest_any (B b : Nat) (A : Na) (P : Nat → Tm) (f : Nat) (v : Rv) (sa : Option Addr) (s sc : Nat) (ys : List Sa) (w : World) (hR : RBody B b A P f v sa s sc ys w) (hs : s ≤ 2097152) (hse : 0 ≤ v.se ∧ v.se ≤ 1000000000) (hcp : 1 ≤ v.cp ∧ v.cp ≤ 16) :
    Calls Tryz.prog 128 #[.pointer (some ⟨b, 0, none⟩)] w fun e w' => e = .returned (.int .i64 (oldR v)) ∧ Below w.heap.size w w' := by
  have hH := hR.s
  have HC := hidOf (oldestOf_any ⟨none, 0, 0, sa, s, sc, ys, none, 0, 0, none, 0, 0⟩ v w.drew (hR.srow.keep (Below.refl _ _).drew).sub hR.sv hs hse hcp)
  simp only at HC
  clear hR hs hse hcp
  go_enter Tryz.func128, Tryz.ntmps128
  go_upto_region 1 with fail
  refine wp_region_noPanic ?_
  refine wp_region_held_drew (S := fun w' => RbS b A v sa s sc w') (by kernel_rfl) hH.drew (fun hHeld => ?_)
  refine wpAnyH_take (i := 0) (v := ?_) rfl (by kernel_rfl) (by kernel_rfl) (by kernel_rfl) (fun _ _ _ h => h) (Or.inl ⟨by rfl, ?_⟩) (by assumption) ?_
  case refine_2 => (intro w hSw; (try dsimp only at hSw); go_simp; try with_reducible rfl)
  simp only [Act.put, List.getElem_toArray, List.getElem_cons_zero, List.setIfInBounds_toArray, List.set_cons_zero, List.set_cons_succ]
  refine wpAnyH_take (i := 1) (v := ?_) rfl (by kernel_rfl) (by kernel_rfl) (by kernel_rfl) (fun _ _ _ h => h) (Or.inl ⟨by rfl, ?_⟩) (by assumption) ?_
  case refine_2 => (intro w hSw; (try dsimp only at hSw); go_simp; try with_reducible rfl)
  simp only [Act.put, zGA, zG0, zGC, zSA, zS0, zSC]
  refine wpAnyH_take (i := 2) (v := ?_) rfl (by kernel_rfl) (by kernel_rfl) (by kernel_rfl) (fun _ _ _ h => h) (Or.inl ⟨by rfl, ?_⟩) (by assumption) ?_
  case refine_2 => (intro w hSw; (try dsimp only at hSw); go_simp; try with_reducible rfl)
  simp only [Act.put, zGA, zG0, zGC, zSA, zS0, zSC]
  refine wpAnyH_take (i := 3) (v := ?_) rfl (by kernel_rfl) (by kernel_rfl) (by kernel_rfl) (fun _ _ _ h => h) (Or.inl ⟨by rfl, ?_⟩) (by assumption) ?_
  case refine_2 => (intro w hSw; (try dsimp only at hSw); go_simp; try with_reducible rfl)
  simp only [Act.put, zGA, zG0, zGC, zSA, zS0, zSC]
  refine wpAnyH_take (i := 4) (v := ?_) rfl (by kernel_rfl) (by kernel_rfl) (by kernel_rfl) (fun _ _ _ h => h) (Or.inl ⟨by rfl, ?_⟩) (by assumption) ?_
  case refine_2 => (intro w hSw; (try dsimp only at hSw); go_simp; try with_reducible rfl)
  simp only [Act.put, zGA, zG0, zGC, zSA, zS0, zSC]
  refine wpAnyH_take (i := 5) (v := ?_) rfl (by kernel_rfl) (by kernel_rfl) (by kernel_rfl) (fun _ _ _ h => h) (Or.inl ⟨by rfl, ?_⟩) (by assumption) ?_
  case refine_2 => (intro w hSw; (try dsimp only at hSw); go_simp; try with_reducible rfl)
  simp only [Act.put, zGA, zG0, zGC, zSA, zS0, zSC]
  refine wpAnyH_take (i := 6) (v := ?_) rfl (by kernel_rfl) (by kernel_rfl) (by kernel_rfl) (fun _ _ _ h => h) (Or.inl ⟨by rfl, ?_⟩) (by assumption) ?_
  case refine_2 => (intro w hSw; (try dsimp only at hSw); go_simp; try with_reducible rfl)
  simp only [Act.put, zGA, zG0, zGC, zSA, zS0, zSC]
  refine wpAnyH_take (i := 7) (v := ?_) rfl (by kernel_rfl) (by kernel_rfl) (by kernel_rfl) (fun _ _ _ h => h) (Or.inl ⟨by rfl, ?_⟩) (by assumption) ?_
  case refine_2 => (intro w hSw; (try dsimp only at hSw); go_simp; try with_reducible rfl)
  simp only [Act.put, zGA, zG0, zGC, zSA, zS0, zSC]
  refine wpAnyH_take (i := 8) (v := ?_) rfl (by kernel_rfl) (by kernel_rfl) (by kernel_rfl) (fun _ _ _ h => h) (Or.inl ⟨by rfl, ?_⟩) (by assumption) ?_
  case refine_2 => (intro w hSw; (try dsimp only at hSw); go_simp; try with_reducible rfl)
  simp only [Act.put, zGA, zG0, zGC, zSA, zS0, zSC]
  refine wpAnyH_take (i := 9) (v := ?_) rfl (by kernel_rfl) (by kernel_rfl) (by kernel_rfl) (fun _ _ _ h => h) (Or.inl ⟨by rfl, ?_⟩) (by assumption) ?_
  case refine_2 => (intro w hSw; (try dsimp only at hSw); go_simp; try with_reducible rfl)
  simp only [Act.put, zGA, zG0, zGC, zSA, zS0, zSC]
  refine wpAnyH_take (i := 10) (v := ?_) rfl (by kernel_rfl) (by kernel_rfl) (by kernel_rfl) (fun _ _ _ h => h) (Or.inl ⟨by rfl, ?_⟩) (by assumption) ?_
  case refine_2 => (intro w hSw; (try dsimp only at hSw); go_simp; try with_reducible rfl)
  simp only [Act.put, zGA, zG0, zGC, zSA, zS0, zSC]
  refine wpAnyH_take (i := 11) (v := ?_) rfl (by kernel_rfl) (by kernel_rfl) (by kernel_rfl) (fun _ _ _ h => h) (Or.inl ⟨by rfl, ?_⟩) (by assumption) ?_
  case refine_2 => (intro w hSw; (try dsimp only at hSw); go_simp; try with_reducible rfl)
  simp only [Act.put, zGA, zG0, zGC, zSA, zS0, zSC]
  refine wpAnyH_take (i := 12) (v := ?_) rfl (by kernel_rfl) (by kernel_rfl) (by kernel_rfl) (fun _ _ _ h => h) (Or.inl ⟨by rfl, ?_⟩) (by assumption) ?_
  case refine_2 => (intro w hSw; (try dsimp only at hSw); go_simp; try with_reducible rfl)
  simp only [Act.put, zGA, zG0, zGC, zSA, zS0, zSC]
  refine wpAnyH_ready (rs := [13]) (by kernel_rfl) (by simp) ?_
  refine AllReadyH.cons rfl (fun K hK => ?_) AllReadyH.nil
  go_simp
  refine (HC.out).mono ?_
  rintro e w5 ⟨rfl, hb5⟩
  go_wp2_with fail
  have hS5 := RbS.keep hHeld hb5
  refine hK.out _ _ hS5 (fun hHeld => ?_)
  clear hK K
  refine wpAnyH_take (i := 14) (v := ?_) rfl (by kernel_rfl) (by kernel_rfl) (by kernel_rfl) (fun _ _ _ h => h) (Or.inl ⟨by rfl, ?_⟩) (by assumption) ?_
  case refine_2 => (intro w hSw; (try dsimp only at hSw); go_simp; try with_reducible rfl)
  simp only [Act.put, zGA, zG0, zGC, zSA, zS0, zSC]
  refine wpAnyH_done (by kernel_rfl) ?_ _
  refine NoPanic.normal ?_
  go_wp2_with fail
  go_ret
  exact ⟨rfl, bl_trans (Below.refl _ _).drew hb5⟩
/-- What is older than the oldest has gone. -/
def DropD (B b : Nat) (A : Na) (f d : Nat) (v : Rv) (sa : Option Addr) (s sc : Nat) (ys : List Sa) (w : World) (e : Ending) (w' : World) : Prop := e = .returned (.tuple #[]) ∧ ∃ P', RBody B b A P' (f + d) { v with it := v.it.drop d } sa s sc ys w' ∧ w.grownBy w' (some b)
set_option maxRecDepth 100000 in
set_option maxHeartbeats 4000000 in
theorem dropOld_any (B b : Nat) (A : Na) (P : Nat → Tm) (f : Nat) (v : Rv) (sa : Option Addr) (s sc : Nat) (ys : List Sa) (w : World) (hR : RBody B b A P f v sa s sc ys w) (hs : s ≤ 2097152) (hse : 0 ≤ v.se ∧ v.se ≤ 1000000000) (hcp : 1 ≤ v.cp ∧ v.cp ≤ 16) (d : Nat) (hd : d ≤ v.it.length) (ho : oldR v = ((f + d : Nat) : Int)) :
    Calls Tryz.prog 146 #[.pointer (some ⟨b, 0, none⟩)] w fun e w' => DropD B b A f d v sa s sc ys w e w' := by
  have HRd := hidOf (hR.keep (Below.refl _ _).drew)
  have HR := hidOf hR
  have HC := hidOf (oldest_any B b A P f v sa s sc ys w.drew HRd.out hs hse hcp)
  have HO := hidOf ho.symm
  clear hR hs hse hcp ho
  generalize hov : oldR v = ov at *
  have HOv := hidOf hov
  clear hov
  go_enter Tryz.func146, Tryz.ntmps146
  go_upto_region 0 with fail
  refine wp_region_noPanic ?_
  refine wp_region_held_drew (S := fun _ => True) (by kernel_rfl) True.intro (fun hHeld => ?_)
  refine wpAnyH_take (i := 0) (v := ?_) rfl (by kernel_rfl) (by kernel_rfl) (by kernel_rfl) (fun _ _ _ h => h) (Or.inl ⟨by rfl, ?_⟩) (by assumption) ?_
  case refine_2 => (intro w hSw; (try dsimp only at hSw); go_simp; try with_reducible rfl)
  simp only [Act.put, List.getElem_toArray, List.getElem_cons_zero, List.setIfInBounds_toArray, List.set_cons_zero, List.set_cons_succ]
  refine wpAnyH_take (i := 1) (v := ?_) rfl (by kernel_rfl) (by kernel_rfl) (by kernel_rfl) (fun _ _ _ h => h) (Or.inl ⟨by rfl, ?_⟩) (by assumption) ?_
  case refine_2 => (intro w hSw; (try dsimp only at hSw); go_simp; try with_reducible rfl)
  simp only [Act.put, zGA, zG0, zGC, zSA, zS0, zSC]
  refine wpAnyH_take (i := 2) (v := ?_) rfl (by kernel_rfl) (by kernel_rfl) (by kernel_rfl) (fun _ _ _ h => h) (Or.inl ⟨by rfl, ?_⟩) (by assumption) ?_
  case refine_2 => (intro w hSw; (try dsimp only at hSw); go_simp; try with_reducible rfl)
  simp only [Act.put, zGA, zG0, zGC, zSA, zS0, zSC]
  refine wpAnyH_take (i := 3) (v := ?_) rfl (by kernel_rfl) (by kernel_rfl) (by kernel_rfl) (fun _ _ _ h => h) (Or.inl ⟨by rfl, ?_⟩) (by assumption) ?_
  case refine_2 => (intro w hSw; (try dsimp only at hSw); go_simp; try with_reducible rfl)
  simp only [Act.put, zGA, zG0, zGC, zSA, zS0, zSC]
  refine wpAnyH_ready (rs := [4]) (by kernel_rfl) (by simp) ?_
  refine AllReadyH.cons rfl (fun K hK => ?_) AllReadyH.nil
  go_simp
  refine (HC.out).mono ?_
  rintro e w5 ⟨rfl, hb5⟩
  go_wp2_with fail
  refine hK.out _ _ True.intro (fun hHeld => ?_)
  clear hK K
  have body5 := HRd.out.keep hb5
  have HD := hidOf (dropUpTo_any b 3 f d v.it.length P w5 body5.rnd body5.fst hd (by have := HR.out.few.1; omega) (by have := HR.out.few.2; omega))
  rw [HO.out] at HD
  refine wpAnyH_ready (rs := [5]) (by kernel_rfl) (by simp) ?_
  refine AllReadyH.cons rfl (fun K hK => ?_) AllReadyH.nil
  go_simp
  refine (HD.out).mono ?_
  rintro e w6 ⟨rfl, P', hD6⟩
  go_wp2_with fail
  refine hK.out _ _ True.intro (fun hHeld => ?_)
  clear hK K
  refine wpAnyH_done (by kernel_rfl) ?_ _
  refine NoPanic.normal ?_
  go_wp2_with fail
  go_end0
  have bd : Below w.heap.size w w5 := bl_trans (Below.refl _ _).drew hb5
  exact ⟨rfl, P', body5.drop hD6 hd, (grown_of bd).trans hD6.grown⟩
end Go.Proofs.YtihdglmiecifjaaGreat
namespace Go.Proofs.YtihdglmiecifjaaGreat
open Go.RowKit Go.Maps Pl Il

/-- A subscriber's place in memory. -/
theorem RBody.sub_row {B b : Nat} {A : Na} {P : Nat → Tm} {f : Nat} {v : Rv} {sa : Option Addr} {s sc : Nat} {ys : List Sa} {w : World} (h : RBody B b A P f v sa s sc ys w) {k : Nat} (hk : k < v.sb.length) : ∃ g, sa = some ⟨g, 0, none⟩ ∧ s = ys.length ∧ k < ys.length := by
  have hl : ys.length = v.sb.length := by rw [← h.sv]; simp [svs]
  obtain ⟨h1, ⟨e, e0⟩ | ⟨g, cp, cur, e, _⟩⟩ := h.srow.sb
  · rw [e0, length_sflat] at h1; omega
  · injection e with e1
    exact ⟨g, e1, by rw [length_sflat] at h1; omega, by omega⟩
theorem RBody.mono {B B' b : Nat} {A : Na} {P : Nat → Tm} {f : Nat} {v : Rv} {sa : Option Addr} {s sc : Nat} {ys : List Sa} {w : World} (h : RBody B b A P f v sa s sc ys w) (hb : B' ≤ B) : RBody B' b A P f v sa s sc ys w :=
  ⟨⟨h.wst.lt, Nat.le_trans hb h.wst.ge, h.wst.c0, h.wst.c1, h.wst.fr, ⟨rowM h.wst.rows.one hb, rowM h.wst.rows.two hb, h.wst.rows.ne⟩, h.wst.ne1, h.wst.ne2⟩, h.rnd, h.c2, h.fst, h.nxt, h.c56, h.c57, h.c58, h.srow.mono hb, h.sv, h.its, h.sh, h.se, h.few, h.nb, h.ap⟩
set_option maxRecDepth 100000 in
set_option maxHeartbeats 4000000 in
theorem sub_any (B b : Nat) (A : Na) (P : Nat → Tm) (f : Nat) (v : Rv) (g s sc : Nat) (ys : List Sa) (id : Int) (w : World) (hR : RBody B b A P f v (some ⟨g, 0, none⟩) s sc ys w) (hs : s ≤ 2097152) (k : Nat) (hat : atR v.sb id = (k : Int)) (hk : k < s) :
    Calls Tryz.prog 103 #[.pointer (some ⟨b, 0, none⟩), .int .i64 id] w fun e w' => e = .returned (.pointer (some ⟨g, k * 7, none⟩)) ∧ Below w.heap.size w w' := by
  have hH := hR.s
  have HC := hidOf (placeOfSub_any (some ⟨g, 0, none⟩) s sc ys id w.drew (hR.srow.keep (Below.refl _ _).drew).sub hs)
  rw [hR.sv, hat] at HC
  have hki : (k : Int) < (s : Int) := by omega
  clear hR hat
  go_enter Tryz.func103, Tryz.ntmps103
  go_upto_region 1 with fail
  refine wp_region_noPanic ?_
  refine wp_region_held_drew (S := fun w' => RbS b A v (some ⟨g, 0, none⟩) s sc w') (by kernel_rfl) hH.drew (fun hHeld => ?_)
  refine wpAnyH_take (i := 0) (v := ?_) rfl (by kernel_rfl) (by kernel_rfl) (by kernel_rfl) (fun _ _ _ h => h) (Or.inl ⟨by rfl, ?_⟩) (by assumption) ?_
  case refine_2 => (intro w hSw; (try dsimp only at hSw); go_simp; try with_reducible rfl)
  simp only [Act.put, List.getElem_toArray, List.getElem_cons_zero, List.setIfInBounds_toArray, List.set_cons_zero, List.set_cons_succ]
  refine wpAnyH_take (i := 1) (v := ?_) rfl (by kernel_rfl) (by kernel_rfl) (by kernel_rfl) (fun _ _ _ h => h) (Or.inl ⟨by rfl, ?_⟩) (by assumption) ?_
  case refine_2 => (intro w hSw; (try dsimp only at hSw); go_simp; try with_reducible rfl)
  simp only [Act.put, zGA, zG0, zGC, zSA, zS0, zSC]
  refine wpAnyH_take (i := 2) (v := ?_) rfl (by kernel_rfl) (by kernel_rfl) (by kernel_rfl) (fun _ _ _ h => h) (Or.inl ⟨by rfl, ?_⟩) (by assumption) ?_
  case refine_2 => (intro w hSw; (try dsimp only at hSw); go_simp; try with_reducible rfl)
  simp only [Act.put, zGA, zG0, zGC, zSA, zS0, zSC]
  refine wpAnyH_take (i := 3) (v := ?_) rfl (by kernel_rfl) (by kernel_rfl) (by kernel_rfl) (fun _ _ _ h => h) (Or.inl ⟨by rfl, ?_⟩) (by assumption) ?_
  case refine_2 => (intro w hSw; (try dsimp only at hSw); go_simp; try with_reducible rfl)
  simp only [Act.put, zGA, zG0, zGC, zSA, zS0, zSC]
  refine wpAnyH_take (i := 4) (v := ?_) rfl (by kernel_rfl) (by kernel_rfl) (by kernel_rfl) (fun _ _ _ h => h) (Or.inl ⟨by rfl, ?_⟩) (by assumption) ?_
  case refine_2 => (intro w hSw; (try dsimp only at hSw); go_simp; try with_reducible rfl)
  simp only [Act.put, zGA, zG0, zGC, zSA, zS0, zSC]
  refine wpAnyH_take (i := 5) (v := ?_) rfl (by kernel_rfl) (by kernel_rfl) (by kernel_rfl) (fun _ _ _ h => h) (Or.inl ⟨by rfl, ?_⟩) (by assumption) ?_
  case refine_2 => (intro w hSw; (try dsimp only at hSw); go_simp; try with_reducible rfl)
  simp only [Act.put, zGA, zG0, zGC, zSA, zS0, zSC]
  refine wpAnyH_take (i := 6) (v := ?_) rfl (by kernel_rfl) (by kernel_rfl) (by kernel_rfl) (fun _ _ _ h => h) (Or.inl ⟨by rfl, ?_⟩) (by assumption) ?_
  case refine_2 => (intro w hSw; (try dsimp only at hSw); go_simp; try with_reducible rfl)
  simp only [Act.put, zGA, zG0, zGC, zSA, zS0, zSC]
  refine wpAnyH_take (i := 7) (v := ?_) rfl (by kernel_rfl) (by kernel_rfl) (by kernel_rfl) (fun _ _ _ h => h) (Or.inl ⟨by rfl, ?_⟩) (by assumption) ?_
  case refine_2 => (intro w hSw; (try dsimp only at hSw); go_simp; try with_reducible rfl)
  simp only [Act.put, zGA, zG0, zGC, zSA, zS0, zSC]
  refine wpAnyH_take (i := 8) (v := ?_) rfl (by kernel_rfl) (by kernel_rfl) (by kernel_rfl) (fun _ _ _ h => h) (Or.inl ⟨by rfl, ?_⟩) (by assumption) ?_
  case refine_2 => (intro w hSw; (try dsimp only at hSw); go_simp; try with_reducible rfl)
  simp only [Act.put, zGA, zG0, zGC, zSA, zS0, zSC]
  refine wpAnyH_ready (rs := [9]) (by kernel_rfl) (by simp) ?_
  refine AllReadyH.cons rfl (fun K hK => ?_) AllReadyH.nil
  go_simp
  refine (HC.out).mono ?_
  rintro e w5 ⟨rfl, hb5⟩
  go_wp2_with fail
  have hS5 := RbS.keep hHeld hb5
  refine hK.out _ _ hS5 (fun hHeld => ?_)
  clear hK K
  refine wpAnyH_take (i := 10) (v := ?_) rfl (by kernel_rfl) (by kernel_rfl) (by kernel_rfl) (fun _ _ _ h => h) (Or.inl ⟨by rfl, ?_⟩) (by assumption) ?_
  case refine_2 => (intro w hSw; (try dsimp only at hSw); go_simp; try with_reducible rfl)
  simp only [Act.put, zGA, zG0, zGC, zSA, zS0, zSC]
  refine wpAnyH_take (i := 11) (v := ?_) rfl (by kernel_rfl) (by kernel_rfl) (by kernel_rfl) (fun _ _ _ h => h) (Or.inl ⟨by rfl, ?_⟩) (by assumption) ?_
  case refine_2 => (intro w hSw; (try dsimp only at hSw); go_simp; try with_reducible rfl)
  simp only [Act.put, zGA, zG0, zGC, zSA, zS0, zSC]
  refine wpAnyH_done (by kernel_rfl) ?_ _
  refine NoPanic.normal ?_
  go_wp2_with fail
  go_ret
  exact ⟨rfl, bl_trans (Below.refl _ _).drew hb5⟩
/-- What bodyToRead hands back. -/
def BtrP (w : World) (M : Rm) (v : Rv) (id : Int) (e : Ending) (w' : World) : Prop :=
  (okR restR v = false ∧ e = .returned (.tuple #[.pointer none, .int .i64 1]) ∧ Below w.heap.size w w') ∨
  (okR restR v = true ∧ atR v.sb id < 0 ∧ e = .returned (.tuple #[.pointer none, .int .i64 3]) ∧ Below w.heap.size w w') ∨
  (okR restR v = true ∧ ¬ atR v.sb id < 0 ∧ (hasL v.ln id || hasL v.gs id) = true ∧ e = .returned (.tuple #[.pointer none, .int .i64 5]) ∧ Below w.heap.size w w') ∨
  (okR restR v = true ∧ ¬ atR v.sb id < 0 ∧ (hasL v.ln id || hasL v.gs id) = false ∧ ∃ (b : Nat) (A : Na) (P : Nat → Tm) (f : Nat) (sa : Option Addr) (sc : Nat) (ys : List Sa), e = .returned (.tuple #[.pointer (some ⟨b, 0, none⟩), .int .i64 0]) ∧ RBody w.heap.size b A P f v sa M.s sc ys w' ∧ A.n = M.l ∧ A.n' = M.g ∧ (∀ y, y ∈ ys → ∃ x, x ∈ M.xs ∧ y.n = x.n) ∧ Below w.heap.size w w')
set_option maxRecDepth 100000 in
set_option maxHeartbeats 8000000 in
theorem bodyToRead_any (M : Rm) (v : Rv) (id : Int) (w : World) (hI : RIn w M v) (hm1 : RLe M 1048576) (hcap : RCap M) (hw : RWf v) (hid : (Lit.int .i64 id).wf = true) :
    Calls Tryz.prog 101 #[.agg #[.int .i64 v.cp, .int .i64 v.se, .slice M.ia M.i M.ic, .int .i64 v.nx, .slice M.sa M.s M.sc, .slice M.la M.l M.lc, .slice M.ga M.g M.gc, .bool v.cl], .int .i64 id] w fun e w' => BtrP w M v id e w' := by
  have hm := hm1.mono (k' := 2097152) (by omega)
  obtain ⟨U0, hU0⟩ : ∃ W, W = w.alloc (.cells #[.int .i64 v.cp, .int .i64 v.se, .slice M.ia M.i M.ic, .int .i64 v.nx, .slice M.sa M.s M.sc, .slice M.la M.l M.lc, .slice M.ga M.g M.gc, .bool v.cl] 28) := ⟨_, rfl⟩
  have B0 : Below w.heap.size w U0 := by rw [hU0]; exact bl_alloc (Below.refl _ _) _
  have A0 : BoxL w.heap.size (rC M v) U0 := by rw [hU0]; exact BoxL.new w (rC M v) _
  have HK := hidOf (implRingOk_any M v U0 (hI.keep B0) hm1 hcap hw)
  have p0 := A0.cs 0 (by simp)
  have p1 := A0.cs 1 (by simp)
  have p2 := A0.cs 2 (by simp)
  have p3 := A0.cs 3 (by simp)
  have p4 := A0.cs 4 (by simp)
  have p5 := A0.cs 5 (by simp)
  have p6 := A0.cs 6 (by simp)
  have p7 := A0.cs 7 (by simp)
  simp at p0 p1 p2 p3 p4 p5 p6 p7
  have HI := hidOf hI
  have HM := hidOf hm
  have HW := hidOf hw
  have HCap := hidOf hcap
  have HId := hidOf hid
  obtain ⟨q, hq⟩ : ∃ q, okR restR v = q := ⟨_, rfl⟩
  rw [hq] at HK
  have HQ := hidOf hq
  clear hI hm hm1 hcap hw hid hq
  go_enter Tryz.func101, Tryz.ntmps101
  go_upto_region 1 with fail
  rw [← hU0]
  clear hU0
  go_wp2_with fail
  refine (HK.out).mono ?_
  rintro e w1 ⟨rfl, b1⟩
  have A1 := A0.keep b1
  have B1 := bl_trans B0 b1
  have hs1 : w.heap.size < w1.heap.size := A1.lt
  clear A0 p0 p1 p2 p3 p4 p5 p6 p7 B0 b1 HK
  cases q
  · go_wp2_with fail
    go_ret2
    exact .inl ⟨HQ.out, rfl, B1⟩
  have p0 := A1.cs 0 (by simp)
  have p1 := A1.cs 1 (by simp)
  have p2 := A1.cs 2 (by simp)
  have p3 := A1.cs 3 (by simp)
  have p4 := A1.cs 4 (by simp)
  have p5 := A1.cs 5 (by simp)
  have p6 := A1.cs 6 (by simp)
  have p7 := A1.cs 7 (by simp)
  simp at p0 p1 p2 p3 p4 p5 p6 p7
  have HPl := hidOf (placeOfSub_any M.sa M.s M.sc M.xs id w1 (HI.out.keep B1).sb HM.out.s)
  rw [HI.out.sv] at HPl
  obtain ⟨at', hat⟩ : ∃ a, atR v.sb id = a := ⟨_, rfl⟩
  rw [hat] at HPl
  have HAt := hidOf hat
  clear hat
  go_wp2_with fail
  refine (HPl.out).mono ?_
  rintro e w2 ⟨rfl, b2⟩
  have A2 := A1.keep b2
  have B2 := bl_trans B1 b2
  clear A1 B1 p0 p1 p2 p3 p4 p5 p6 p7 HPl
  by_cases hneg : at' < 0
  · go_wp2_with fail
    go_ret2
    exact .inr (.inl ⟨HQ.out, by rw [HAt.out]; exact hneg, rfl, B2⟩)
  have HNeg := hidOf hneg
  obtain ⟨f, hse, hi, hf⟩ := ok_first HQ.out
  have HC := hidOf (ringBodyOf_any M v w2 f (HI.out.keep B2) HM.out HCap.out hse hi hf)
  have p0 := A2.cs 0 (by simp)
  have p1 := A2.cs 1 (by simp)
  have p2 := A2.cs 2 (by simp)
  have p3 := A2.cs 3 (by simp)
  have p4 := A2.cs 4 (by simp)
  have p5 := A2.cs 5 (by simp)
  have p6 := A2.cs 6 (by simp)
  have p7 := A2.cs 7 (by simp)
  simp at p0 p1 p2 p3 p4 p5 p6 p7
  clear hse hi hf
  go_wp2_with fail
  refine (HC.out).mono ?_
  rintro e w3 ⟨b, A, P, f2, sa, sc, ys, rfl, body3, hAn, hAn', hyn, b3⟩
  have B3 := bl_trans B2 b3
  have HT := hidOf (turnOf_any w2.heap.size b A v.ln v.gs id w3 body3.wst (by have := HM.out.l; omega) (by have := HM.out.g; omega) HW.out.ln HW.out.gs HId.out)
  have HBo := hidOf body3
  have HAn := hidOf (And.intro hAn hAn')
  clear A2 p0 p1 p2 p3 p4 p5 p6 p7 HC hAn hAn' body3 hneg
  obtain ⟨tt, htt⟩ : ∃ t, turnL v.ln v.gs id = t := ⟨_, rfl⟩
  rw [htt] at HT
  have HTt := hidOf htt
  clear htt
  go_wp2_with fail
  refine (HT.out).mono ?_
  rintro e w4 ⟨rfl, b4⟩
  have B4 := bl_trans B3 b4
  have HBo4 := hidOf ((HBo.out.keep b4).mono (B' := w.heap.size) B2.size)
  rcases turn_cases v.ln v.gs id with ⟨h0, h1⟩ | ⟨h0, h1, h2⟩ | ⟨h0, h1, h2⟩
  · obtain rfl : tt = 4 := by rw [← HTt.out, h0]
    have HH := hidOf (show (hasL v.ln id || hasL v.gs id) = true by rw [h1]; rfl)
    clear h0 h1 HT
    go_wp2_with fail
    go_ret2
    exact .inr (.inr (.inl ⟨HQ.out, by rw [HAt.out]; have h := HNeg.out; omega, HH.out, rfl, B4⟩))
  · obtain rfl : tt = 0 := by rw [← HTt.out, h0]
    have HH := hidOf (show (hasL v.ln id || hasL v.gs id) = true by rw [h1, h2]; rfl)
    clear h0 h1 h2 HT
    go_wp2_with fail
    go_ret2
    exact .inr (.inr (.inl ⟨HQ.out, by rw [HAt.out]; have h := HNeg.out; omega, HH.out, rfl, B4⟩))
  · obtain rfl : tt = 3 := by rw [← HTt.out, h0]
    have HH := hidOf (show (hasL v.ln id || hasL v.gs id) = false by rw [h1, h2]; rfl)
    clear h0 h1 h2 HT
    go_wp2_with fail
    go_ret2
    exact .inr (.inr (.inr ⟨HQ.out, by rw [HAt.out]; have h := HNeg.out; omega, HH.out, b, A, P, f2, sa, sc, ys, rfl, HBo4.out, HAn.out.1, HAn.out.2, hyn, B4⟩))
end Go.Proofs.YtihdglmiecifjaaGreat
