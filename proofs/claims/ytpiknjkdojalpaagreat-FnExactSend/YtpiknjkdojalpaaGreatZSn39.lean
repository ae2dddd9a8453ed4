/-
  A subscriber's cells are written over, all seven of them.
  What the law on Send holds on to.
  The plain mathematics of sending: who is told, who stays, what goes.
-/
import Derived.Test.YtpiknjkdojalpaaGreatZSn38
import Derived.Test.YtpiknjkdojalpaaGreatZSn19
import Derived.Deep.RegionHeld3
import Derived.Deep.CutRange
namespace Go.Proofs.YtpiknjkdojalpaaGreat
open Go.RowKit Go.Maps Pl Il

/-- A list with vs laid over it from o on. -/
def setLL : List Value → Nat → List Value → List Value
  | l, _, [] => l
  | l, o, v :: vs => setLL (l.set o v) (o + 1) vs
theorem setLL_len : ∀ (vs l : List Value) (o : Nat), (setLL l o vs).length = l.length
  | [], _, _ => rfl
  | v :: vs, l, o => by unfold setLL; rw [setLL_len vs]; simp
theorem setLL_get : ∀ (vs l : List Value) (o i : Nat), o + vs.length ≤ l.length → (setLL l o vs)[i]? = if o ≤ i ∧ i < o + vs.length then vs[i - o]? else l[i]?
  | [], l, o, i, _ => by unfold setLL; rw [if_neg (by simp only [List.length_nil]; omega)]
  | v :: vs, l, o, i, h => by
    unfold setLL
    simp only [List.length_cons] at h ⊢
    rw [setLL_get vs _ (o + 1) i (by simp; omega)]
    by_cases h1 : i = o
    · subst h1
      rw [if_neg (by omega), if_pos (by omega), List.getElem?_set, if_pos rfl, if_pos (by omega), Nat.sub_self]
      rfl
    · by_cases h2 : o + 1 ≤ i ∧ i < o + 1 + vs.length
      · rw [if_pos h2, if_pos (by omega), show i - o = (i - (o + 1)) + 1 by omega, List.getElem?_cons_succ]
      · rw [if_neg h2, if_neg (by omega), List.getElem?_set, if_neg (by omega)]
theorem row_setL {B g n c : Nat} {t : TypeId} {sz : Nat} : ∀ (vs : List Value) (w : World) (o : Nat) (l : List Value), w.ownsRow B t sz (.slice (some ⟨g, 0, none⟩) n c) n l → (setL w g o vs).ownsRow B t sz (.slice (some ⟨g, 0, none⟩) n c) n (setLL l o vs)
  | [], _, _, _, h => h
  | v :: vs, w, o, l, h => by
    unfold setL setLL
    exact row_setL vs _ _ _ (h.stored o v).1
theorem sflat_setS {xs : List Sa} {k : Nat} {x : Sa} (hk : k < xs.length) : setLL (sflat xs) (k * 7) (sC x) = sflat (xs.set k x) := by
  have hl : (sflat xs).length = xs.length * 7 := length_sflat xs
  have hl2 : (sflat (xs.set k x)).length = xs.length * 7 := by rw [length_sflat, List.length_set]
  refine List.ext_getElem? fun i => ?_
  rw [setLL_get _ _ _ _ (by rw [hl]; simp; omega)]
  by_cases hi : i < xs.length * 7
  · have e1 := sflat_at (xs.set k x) (i / 7) (i % 7) (by rw [List.length_set]; omega) (by omega)
    have e2 := sflat_at xs (i / 7) (i % 7) (by omega) (by omega)
    rw [show i / 7 * 7 + i % 7 = i by omega] at e1 e2
    rw [e1]
    have e3 : sg (xs.set k x) (i / 7) = if k = i / 7 then x else sg xs (i / 7) := by
      rw [sg_eq (by rw [List.length_set]; omega), List.getElem_set]
      split
      · rfl
      · rw [sg_eq (by omega)]
    rw [e3]
    by_cases hik : k = i / 7
    · rw [if_pos hik, if_pos (by simp; omega), show i - k * 7 = i % 7 by omega]
    · rw [if_neg hik, if_neg (by simp; omega), e2]
  · rw [if_neg (by simp; omega), List.getElem?_eq_none (by omega), List.getElem?_eq_none (by omega)]
theorem RRow.sub_row {B : Nat} {w : World} {M : Rm} {v : Rv} (h : RRow B w M v) {k : Nat} (hk : k < v.sb.length) : ∃ g, M.sa = some ⟨g, 0, none⟩ ∧ M.s = M.xs.length ∧ k < M.xs.length := by
  have hl : M.xs.length = v.sb.length := by rw [← h.sv]; simp [svs]
  obtain ⟨h1, ⟨e, e0⟩ | ⟨g, cp, cur, e, _⟩⟩ := h.sb
  · rw [e0, length_sflat] at h1; omega
  · injection e with e1
    exact ⟨g, e1, by rw [length_sflat] at h1; omega, by omega⟩
theorem blkR_set {M : Rm} {k : Nat} {s' : Sb} (hk : k < M.xs.length) : blkR { M with xs := M.xs.set k ⟨s', (sg M.xs k).a, (sg M.xs k).n, (sg M.xs k).c⟩ } = blkR M := by
  have e : (M.xs.set k ⟨s', (sg M.xs k).a, (sg M.xs k).n, (sg M.xs k).c⟩).map (fun x => (Value.slice x.a x.n x.c).ownBlock) = M.xs.map fun x => (Value.slice x.a x.n x.c).ownBlock := by
    refine List.ext_getElem (by simp) fun i h1 h2 => ?_
    simp only [List.getElem_map, List.getElem_set]
    split
    · rename_i h'
      subst h'
      rw [sg_eq hk]
    · rfl
  unfold blkR
  simp only
  rw [e]
theorem rowB {B K : Nat} {w w' : World} {t : TypeId} {s : Nat} {v : Value} {n : Nat} {xs : List Value} (h : w.ownsRow B t s v n xs) (hb : Below K w w') (hlt : ∀ q, v.ownBlock = some q → q < K) : w'.ownsRow B t s v n xs := by
  obtain ⟨hl, hn | ⟨g, cap, cur, rfl, hB, hg, hr⟩⟩ := h
  · exact ⟨hl, .inl hn⟩
  · exact ⟨hl, .inr ⟨g, cap, cur, rfl, hB, by rw [hb.block g (hlt g rfl)]; exact hg, hr⟩⟩
theorem RRow.far {B K : Nat} {w w' : World} {M : Rm} {v : Rv} (h : RRow B w M v) (hb : Below K w w') (hlt : ∀ q, some q ∈ blkR M → q < K) : RRow B w' M v :=
  have key : ∀ {u : Value}, u.ownBlock ∈ blkR M → ∀ q, u.ownBlock = some q → q < K := fun {u} hu q e => hlt q (by rw [← e]; exact hu)
  ⟨rowB h.it hb (key (by simp [blkR])), h.its, rowB h.sb hb (key (by simp [blkR])), fun x hx => rowB (h.fl x hx) hb (key (by
    unfold blkR
    exact List.mem_cons_of_mem _ (List.mem_cons_of_mem _ (List.mem_cons_of_mem _ (List.mem_cons_of_mem _ (List.mem_map.2 ⟨x, hx, rfl⟩)))))), h.fls, h.sv, rowB h.ln hb (key (by simp [blkR])), rowB h.gs hb (key (by simp [blkR])), h.apt⟩
/-- A subscriber with another's numbers, its filter the same. -/
theorem RRow.putSub {B : Nat} {w : World} {M : Rm} {v : Rv} {g k : Nat} {s' : Sb} (h : RRow B w M v) (hg : M.sa = some ⟨g, 0, none⟩) (hk : k < M.xs.length) (hf : s'.fl = (sg M.xs k).s.fl) :
    RRow B (setL w g (k * 7) (sC ⟨s', (sg M.xs k).a, (sg M.xs k).n, (sg M.xs k).c⟩)) { M with xs := M.xs.set k ⟨s', (sg M.xs k).a, (sg M.xs k).n, (sg M.xs k).c⟩ } { v with sb := v.sb.set k s' } ∧ w.grownBy (setL w g (k * 7) (sC ⟨s', (sg M.xs k).a, (sg M.xs k).n, (sg M.xs k).c⟩)) (some g) := by
  have hA : AptP _ _ _ _ _ := apt_iff.1 h.apt
  have hsb := h.sb
  rw [hg] at hsb
  have r1 := row_setL (sC ⟨s', (sg M.xs k).a, (sg M.xs k).n, (sg M.xs k).c⟩) w (k * 7) _ hsb
  rw [sflat_setS hk] at r1
  have gr : w.grownBy (setL w g (k * 7) (sC ⟨s', (sg M.xs k).a, (sg M.xs k).n, (sg M.xs k).c⟩)) (some g) := setL_grown ⟨rfl, rfl, rfl, Nat.le_refl _, fun _ _ _ => rfl⟩
  have hb : (Value.slice M.sa M.s M.sc).ownBlock = some g := by rw [hg]; rfl
  have hmem : ∀ x, x ∈ M.xs.set k ⟨s', (sg M.xs k).a, (sg M.xs k).n, (sg M.xs k).c⟩ → ∃ y, y ∈ M.xs ∧ x.a = y.a ∧ x.n = y.n ∧ x.c = y.c ∧ x.s.fl = y.s.fl := fun x hx => by
    rcases List.mem_or_eq_of_mem_set hx with h' | h'
    · exact ⟨x, h', rfl, rfl, rfl, rfl⟩
    · exact ⟨sg M.xs k, sg_mem hk, by rw [h'], by rw [h'], by rw [h'], by rw [h']; exact hf⟩
  refine ⟨⟨rowG h.it gr (fun q e e' => ?_), h.its, by rw [hg]; exact r1, fun x hx => ?_, fun x hx p hp => ?_, ?_, rowG h.ln gr (fun q e e' => ?_), rowG h.gs gr (fun q e e' => ?_), ?_⟩, gr⟩
  · injection e with e; subst e; exact hA.is _ e' hb
  · obtain ⟨y, hy, e1, e2, e3, e4⟩ := hmem x hx
    rw [e1, e2, e3, e4]
    exact rowG (h.fl y hy) gr (fun q e e' => by injection e with e; subst e; exact hA.sx _ (List.mem_map.2 ⟨y, hy, rfl⟩) _ hb e')
  · obtain ⟨y, hy, _, _, _, e4⟩ := hmem x hx
    rw [e4] at hp
    exact h.fls y hy p hp
  · show svs (M.xs.set k _) = v.sb.set k s'
    rw [← h.sv]
    simp only [svs, List.map_set]
  · injection e with e; subst e; exact hA.sl _ hb e'
  · injection e with e; subst e; exact hA.sg _ hb e'
  · rw [blkR_set hk]; exact h.apt
/-- An item's cells. -/
theorem RRow.item {B : Nat} {w : World} {M : Rm} {v : Rv} {i : Nat} (h : RRow B w M v) (hi : i < M.i) : ∃ bi, M.ia = some ⟨bi, 0, none⟩ ∧ v.it.length = M.i ∧ w.cell? ⟨bi, i * 3, none⟩ = some (.int .i64 (qg v.it i).1) ∧ w.cell? ⟨bi, i * 3 + 1, none⟩ = some (.int .i64 (qg v.it i).2.1) ∧ w.cell? ⟨bi, i * 3 + 2, none⟩ = some (.string (qg v.it i).2.2) := by
  obtain ⟨hl, ⟨e, _⟩ | ⟨g', c', cur, e, hB, hg, hc, hm, hs, ht⟩⟩ := h.it
  · have : M.i = 0 := by injection e
    omega
  · injection e with e1 e2 e3
    have hlen : v.it.length = M.i := by rw [length_qflat] at hl; omega
    have key : ∀ r, r < 3 → w.cell? ⟨g', i * 3 + r, none⟩ = (qflat v.it)[i * 3 + r]? := fun r hr => by
      rw [cell_of_row w g' (i * 3 + r) cur _ (0, 0) hg, ← ht, List.getElem?_take_of_lt (by omega), Array.getElem?_toList]
    refine ⟨g', e1, hlen, ?_, ?_, ?_⟩
    · have := key 0 (by omega); rw [qflat_at _ _ _ (by omega) (by omega)] at this; exact this
    · have := key 1 (by omega); rw [qflat_at _ _ _ (by omega) (by omega)] at this; exact this
    · have := key 2 (by omega); rw [qflat_at _ _ _ (by omega) (by omega)] at this; exact this
theorem BoxL.setAll {N : Nat} {vs us : List Value} {w : World} (h : BoxL N vs w) (hl : us.length = vs.length) : BoxL N us (setL w N 0 us) :=
  ⟨by rw [setL_size]; exact h.lt, fun i hi => by
    have k := setL_same (g := N) (vs := us) (w := w) (o := 0) (fun j hj => ⟨_, by rw [Nat.zero_add]; exact h.cs j (by omega)⟩) i hi
    rwa [Nat.zero_add] at k, fun o => by rw [setL_fr]; exact h.fr o⟩
theorem BoxL.setFar {N M o : Nat} {vs us : List Value} {w : World} (h : BoxL N vs w) (hM : N ≠ M) : BoxL N vs (setL w M o us) := h.of_block (setL_block hM) (by rw [setL_size]; exact h.lt)
/-- A reading was done in a ring of one's own. -/
def RdP (B : Nat) (w : World) (M : Rm) (v : Rv) (k : Nat) (e : Ending) (w' : World) : Prop := ∃ xs' : List Sa, e = .returned (.tuple #[.agg #[.int .i64 v.cp, .int .i64 v.se, .slice M.ia M.i M.ic, .int .i64 v.nx, .slice M.sa M.s M.sc, .slice M.la M.l M.lc, .slice M.ga M.g M.gc, .bool v.cl], .agg #[.int .i64 (readT v (v.sb.getD k Sb0)).kd, .int .i64 (readT v (v.sb.getD k Sb0)).ms.1, .int .i64 (readT v (v.sb.getD k Sb0)).ms.2.1, .string (readT v (v.sb.getD k Sb0)).ms.2.2, .int .i64 (readT v (v.sb.getD k Sb0)).ix, .int .i64 (readT v (v.sb.getD k Sb0)).n], .int .i64 (readC v (v.sb.getD k Sb0))]) ∧ RRow B w' { M with xs := xs' } (rdV v k) ∧ (∀ y, y ∈ xs' → ∃ x, x ∈ M.xs ∧ y.n = x.n) ∧ w.grownBy w' (Value.slice M.sa M.s M.sc).ownBlock ∧ blkR { M with xs := xs' } = blkR M
theorem RdP.mk {B : Nat} {w U w' : World} {M : Rm} {v : Rv} {k g : Nat} {e : Ending} {s' : Sb} {td : Td} {c : Int} (hR : RRow B w M v) (hg : M.sa = some ⟨g, 0, none⟩) (hk : k < M.xs.length) (hwU : Below w.heap.size w U) (hY : Below w.heap.size (setL U g (k * 7) (sC ⟨s', (sg M.xs k).a, (sg M.xs k).n, (sg M.xs k).c⟩)) w') (hf : s'.fl = (sg M.xs k).s.fl) (hs : readS v (v.sb.getD k Sb0) = s') (ht : readT v (v.sb.getD k Sb0) = td) (hc : readC v (v.sb.getD k Sb0) = c)
    (he : e = .returned (.tuple #[.agg #[.int .i64 v.cp, .int .i64 v.se, .slice M.ia M.i M.ic, .int .i64 v.nx, .slice M.sa M.s M.sc, .slice M.la M.l M.lc, .slice M.ga M.g M.gc, .bool v.cl], .agg #[.int .i64 td.kd, .int .i64 td.ms.1, .int .i64 td.ms.2.1, .string td.ms.2.2, .int .i64 td.ix, .int .i64 td.n], .int .i64 c])) : RdP B w M v k e w' := by
  subst ht hc
  have hput := (hR.keep hwU).putSub hg hk hf
  have hrow : RRow B w' { M with xs := M.xs.set k ⟨s', (sg M.xs k).a, (sg M.xs k).n, (sg M.xs k).c⟩ } (rdV v k) := by
    unfold rdV
    rw [hs]
    exact hput.1.far hY fun q hq => by rw [blkR_set hk] at hq; exact (hR.blk q hq).2
  refine ⟨_, he, hrow, fun y hy => ?_, ?_, blkR_set hk⟩
  · rcases List.mem_or_eq_of_mem_set hy with h' | h'
    · exact ⟨y, h', rfl⟩
    · exact ⟨sg M.xs k, sg_mem hk, by rw [h']⟩
  · have hgr := hput.2
    have hbk : (Value.slice M.sa M.s M.sc).ownBlock = some g := by rw [hg]; rfl
    rw [hbk]
    refine ⟨hY.os.trans (hgr.os.trans hwU.os), hY.tape.trans (hgr.tape.trans hwU.tape), hY.output.trans (hgr.output.trans hwU.output), Nat.le_trans hwU.size (Nat.le_trans hgr.size hY.size), fun j hj hne => ?_⟩
    rw [hY.block j hj, hgr.block j (Nat.lt_of_lt_of_le hj hwU.size) hne, hwU.block j hj]
end Go.Proofs.YtpiknjkdojalpaaGreat
namespace Go.Proofs.YtpiknjkdojalpaaGreat
open Go.RowKit Pl Il

abbrev LawM (w : World) (M : Rm) (v : Rv) (y : Tm) (N : Nat) (M2 : Rm) (u : World) : Prop :=
  u.cell? ⟨w.heap.size, 0, none⟩ = some (.int .i64 v.cp) ∧ u.cell? ⟨w.heap.size, 1, none⟩ = some (.int .i64 v.se) ∧ u.cell? ⟨w.heap.size, 2, none⟩ = some (.slice M.ia M.i M.ic) ∧ u.cell? ⟨w.heap.size, 3, none⟩ = some (.int .i64 v.nx) ∧ u.cell? ⟨w.heap.size, 4, none⟩ = some (.slice M.sa M.s M.sc) ∧ u.cell? ⟨w.heap.size, 5, none⟩ = some (.slice M.la M.l M.lc) ∧ u.cell? ⟨w.heap.size, 6, none⟩ = some (.slice M.ga M.g M.gc) ∧ u.cell? ⟨w.heap.size, 7, none⟩ = some (.bool v.cl) ∧ u.cell? ⟨w.heap.size + 1, 0, none⟩ = some (.int .i64 y.1) ∧ u.cell? ⟨w.heap.size + 1, 1, none⟩ = some (.int .i64 y.2.1) ∧ u.cell? ⟨w.heap.size + 1, 2, none⟩ = some (.string y.2.2) ∧ u.cell? ⟨N, 0, none⟩ = some (.int .i64 v.cp) ∧ u.cell? ⟨N, 1, none⟩ = some (.int .i64 v.se) ∧ u.cell? ⟨N, 2, none⟩ = some (.slice M2.ia M2.i M2.ic) ∧ u.cell? ⟨N, 3, none⟩ = some (.int .i64 v.nx) ∧ u.cell? ⟨N, 4, none⟩ = some (.slice M2.sa M2.s M2.sc) ∧ u.cell? ⟨N, 5, none⟩ = some (.slice M2.la M2.l M2.lc) ∧ u.cell? ⟨N, 6, none⟩ = some (.slice M2.ga M2.g M2.gc) ∧ u.cell? ⟨N, 7, none⟩ = some (.bool v.cl) ∧ BoxL w.heap.size (rC M v) u ∧ BoxL (w.heap.size + 1) [.int .i64 y.1, .int .i64 y.2.1, .string y.2.2] u ∧ BoxL N (rC M2 v) u ∧ Below w.heap.size w u
section
variable {w : World} {M : Rm} {v : Rv} {y : Tm} {N : Nat} {M2 : Rm} {u u' : World}
theorem LawM.mk' (h1 : BoxL w.heap.size (rC M v) u) (h2 : BoxL (w.heap.size + 1) [.int .i64 y.1, .int .i64 y.2.1, .string y.2.2] u) (h3 : BoxL N (rC M2 v) u) (h4 : Below w.heap.size w u) : LawM w M v y N M2 u :=
  ⟨h1.cs 0 (by simp), h1.cs 1 (by simp), h1.cs 2 (by simp), h1.cs 3 (by simp), h1.cs 4 (by simp), h1.cs 5 (by simp), h1.cs 6 (by simp), h1.cs 7 (by simp), h2.cs 0 (by simp), h2.cs 1 (by simp), h2.cs 2 (by simp), h3.cs 0 (by simp), h3.cs 1 (by simp), h3.cs 2 (by simp), h3.cs 3 (by simp), h3.cs 4 (by simp), h3.cs 5 (by simp), h3.cs 6 (by simp), h3.cs 7 (by simp), h1, h2, h3, h4⟩
theorem LawM.b1 (h : LawM w M v y N M2 u) : BoxL w.heap.size (rC M v) u := h.2.2.2.2.2.2.2.2.2.2.2.2.2.2.2.2.2.2.2.1
theorem LawM.b2 (h : LawM w M v y N M2 u) : BoxL (w.heap.size + 1) [.int .i64 y.1, .int .i64 y.2.1, .string y.2.2] u := h.2.2.2.2.2.2.2.2.2.2.2.2.2.2.2.2.2.2.2.2.1
theorem LawM.b3 (h : LawM w M v y N M2 u) : BoxL N (rC M2 v) u := h.2.2.2.2.2.2.2.2.2.2.2.2.2.2.2.2.2.2.2.2.2.1
theorem LawM.bel (h : LawM w M v y N M2 u) : Below w.heap.size w u := h.2.2.2.2.2.2.2.2.2.2.2.2.2.2.2.2.2.2.2.2.2.2
theorem LawM.keep (h : LawM w M v y N M2 u) (hb : Below u.heap.size u u') : LawM w M v y N M2 u' := LawM.mk' (h.b1.keep hb) (h.b2.keep hb) (h.b3.keep hb) (bl_trans h.bel hb)
theorem LawM.drew (h : LawM w M v y N M2 u) : LawM w M v y N M2 u.drew := h.keep (Below.refl _ _).drew
end
theorem BoxL.turnN {N : Nat} {vs : List Value} {ls : List (Option Addr × Nat)} {w w' : World} (h : BoxL N vs w) (ht : TurnL ls w w') (hn : ∀ p, p ∈ ls → p.2 = 0 ∨ ∀ b off, p.1 = some ⟨b, off, none⟩ → b ≠ N) : BoxL N vs w' :=
  h.of_block (ht.block N h.lt fun p hp h0 off e => by
    rcases hn p hp with q | q
    · omega
    · exact q _ _ e rfl) (Nat.lt_of_lt_of_le h.lt ht.size)
/-- What a call's three answers are once they are stored. -/
structure RsR (u : World) (r : Rv) (td : List Int) (R : Nat) (M6 : Rm) (t6 : Option Addr) (n6 : Nat) (wx : World) : Prop where
  box : BoxL R (rC M6 r) wx
  own : ROwn u.heap.size wx M6 r
  le : RLe M6 2097152
  told : Il.OwnAt u.heap.size wx t6 n6 td
  tn : n6 ≤ 2097152
  far : ∀ p, p ∈ allR M6 → Far p.1 p.2 t6 n6
  ge : u.heap.size ≤ R
  nr : ∀ p, p ∈ allR M6 → p.2 = 0 ∨ ∀ b off, p.1 = some ⟨b, off, none⟩ → b ≠ R
  nt : n6 = 0 ∨ ∀ b off, t6 = some ⟨b, off, none⟩ → b ≠ R
  below : Below u.heap.size u wx
section
variable {u c x : World} {r : Rv} {td : List Int} {R : Nat} {M6 : Rm} {t6 : Option Addr} {n6 : Nat}
theorem RsR.last (hu : Below u.heap.size u c) (ho : ROwn c.heap.size x M6 r) (hl : RLe M6 2097152) (ht : Il.OwnAt c.heap.size x t6 n6 td) (hn : n6 ≤ 2097152) (hf : ∀ p, p ∈ allR M6 → Far p.1 p.2 t6 n6) (hb : Below c.heap.size c x) (t : TypeId) : RsR u r td x.heap.size M6 t6 n6 (x.alloc (.cells #[.int .i64 r.cp, .int .i64 r.se, .slice M6.ia M6.i M6.ic, .int .i64 r.nx, .slice M6.sa M6.s M6.sc, .slice M6.la M6.l M6.lc, .slice M6.ga M6.g M6.gc, .bool r.cl] t)) := by
  have b1 : Below x.heap.size x (x.alloc (.cells #[.int .i64 r.cp, .int .i64 r.se, .slice M6.ia M6.i M6.ic, .int .i64 r.nx, .slice M6.sa M6.s M6.sc, .slice M6.la M6.l M6.lc, .slice M6.ga M6.g M6.gc, .bool r.cl] t)) := bl_alloc (Below.refl _ _) _
  refine ⟨BoxL.new x (rC M6 r) t, (ho.keep b1).mono hu.size, hl, (ht.keep b1).mono hu.size, hn, hf, Nat.le_trans hu.size hb.size, fun p hp => ?_, ?_, bl_trans (bl_trans hu hb) b1⟩
  · rcases ho.rin.und p hp with k | k
    · exact .inl k
    · exact .inr fun b off e => by have := k b off e; omega
  · rcases und_ints ht.ints with k | k
    · exact .inl k
    · exact .inr fun b off e => by have := k b off e; omega
theorem RsR.first (hu : Below u.heap.size u c) (ho : ROwn c.heap.size x M6 r) (hl : RLe M6 2097152) (ht : Il.OwnAt c.heap.size x t6 n6 td) (hn : n6 ≤ 2097152) (hf : ∀ p, p ∈ allR M6 → Far p.1 p.2 t6 n6) (hb : Below c.heap.size c x) (hR : u.heap.size ≤ R) (hc : R < c.heap.size) (z : BoxL R [.int .i64 0, .int .i64 0, .slice none 0 0, .int .i64 0, .slice none 0 0, .slice none 0 0, .slice none 0 0, .bool false] x) : RsR u r td R M6 t6 n6 ((((((((x.setCell ⟨R, 0, none⟩ (.int .i64 r.cp)).setCell ⟨R, 1, none⟩ (.int .i64 r.se)).setCell ⟨R, 2, none⟩ (.slice M6.ia M6.i M6.ic)).setCell ⟨R, 3, none⟩ (.int .i64 r.nx)).setCell ⟨R, 4, none⟩ (.slice M6.sa M6.s M6.sc)).setCell ⟨R, 5, none⟩ (.slice M6.la M6.l M6.lc)).setCell ⟨R, 6, none⟩ (.slice M6.ga M6.g M6.gc)).setCell ⟨R, 7, none⟩ (.bool r.cl)) := by
  have hab := ho.abv
  have hat := abv_ints ht
  have hg : x.grownBy ((((((((x.setCell ⟨R, 0, none⟩ (.int .i64 r.cp)).setCell ⟨R, 1, none⟩ (.int .i64 r.se)).setCell ⟨R, 2, none⟩ (.slice M6.ia M6.i M6.ic)).setCell ⟨R, 3, none⟩ (.int .i64 r.nx)).setCell ⟨R, 4, none⟩ (.slice M6.sa M6.s M6.sc)).setCell ⟨R, 5, none⟩ (.slice M6.la M6.l M6.lc)).setCell ⟨R, 6, none⟩ (.slice M6.ga M6.g M6.gc)).setCell ⟨R, 7, none⟩ (.bool r.cl)) (some R) := setL_grown (g := R) (o := 0) (vs := rC M6 r) ⟨rfl, rfl, rfl, Nat.le_refl _, fun _ _ _ => rfl⟩
  have hX : BoxL R (rC M6 r) ((((((((x.setCell ⟨R, 0, none⟩ (.int .i64 r.cp)).setCell ⟨R, 1, none⟩ (.int .i64 r.se)).setCell ⟨R, 2, none⟩ (.slice M6.ia M6.i M6.ic)).setCell ⟨R, 3, none⟩ (.int .i64 r.nx)).setCell ⟨R, 4, none⟩ (.slice M6.sa M6.s M6.sc)).setCell ⟨R, 5, none⟩ (.slice M6.la M6.l M6.lc)).setCell ⟨R, 6, none⟩ (.slice M6.ga M6.g M6.gc)).setCell ⟨R, 7, none⟩ (.bool r.cl)) := z.setAll (us := rC M6 r) rfl
  refine ⟨hX, (((((((((ho).far R 0 hc _).far R 1 hc _).far R 2 hc _).far R 3 hc _).far R 4 hc _).far R 5 hc _).far R 6 hc _).far R 7 hc _).mono hu.size, hl, (((((((((ht).far R 0 hc _).far R 1 hc _).far R 2 hc _).far R 3 hc _).far R 4 hc _).far R 5 hc _).far R 6 hc _).far R 7 hc _).mono hu.size, hn, hf, hR, fun p hp => ?_, ?_, (bl_trans hu hb).grown hg (by have := hu.size; have := hb.size; omega) (fun q e => by injection e with e; omega)⟩
  · rcases hab p hp with k | k
    · exact .inl k
    · exact .inr fun b off e => by have := k b off e; omega
  · rcases hat with k | k
    · exact .inl k
    · exact .inr fun b off e => by have := k b off e; omega
end
end Go.Proofs.YtpiknjkdojalpaaGreat
namespace Go.Proofs.YtpiknjkdojalpaaGreat
open Go.RowKit Go.Maps Pl Il

/-- The filter of the one with that Id. -/
def flAt (sb : List Sb) (id : Int) : List Tm := (sb.getD (atR sb id).toNat Sb0).fl
/-- One message more was passed by. -/
def bump (sb : List Sb) (k : Nat) : List Sb := sb.set k (passS (sb.getD k Sb0) 1)
theorem bump_len (sb : List Sb) (k : Nat) : (bump sb k).length = sb.length := by simp [bump]
theorem bump_get (sb : List Sb) (k j : Nat) (hj : j < sb.length) : (bump sb k).getD j Sb0 = if k = j then passS (sb.getD j Sb0) 1 else sb.getD j Sb0 := by
  unfold bump
  rw [List.getD_eq_getElem?_getD, List.getElem?_set]
  by_cases h : k = j
  · subst h
    rw [if_pos rfl, if_pos hj, if_pos rfl]
    rfl
  · rw [if_neg h, if_neg h, ← List.getD_eq_getElem?_getD]
theorem bump_ids (sb : List Sb) (k : Nat) : (bump sb k).map (·.id) = sb.map (·.id) := by
  refine List.ext_getElem (by simp [bump]) fun i h1 h2 => ?_
  have hi : i < sb.length := by simpa using h2
  simp only [bump, List.getElem_map, List.getElem_set]
  split
  · rename_i h
    subst h
    rw [List.getD, List.getElem?_eq_getElem hi, Option.getD_some]
    rfl
  · rfl
theorem atR_ids {sb sb' : List Sb} (h : sb'.map (·.id) = sb.map (·.id)) (id : Int) : atR sb' id = atR sb id := by
  have key : ∀ l : List Sb, l.findIdx? (fun s => s.id == id) = (l.map (·.id)).findIdx? (fun x => x == id) := fun l => by
    rw [List.findIdx?_map]
    rfl
  unfold atR
  rw [key, key, h]
theorem bump_fls (sb : List Sb) (k j : Nat) : ((bump sb k).getD j Sb0).fl = (sb.getD j Sb0).fl := by
  by_cases hj : j < sb.length
  · rw [bump_get _ _ _ hj]
    split <;> rfl
  · unfold bump
    simp only [List.getD_eq_getElem?_getD]
    rw [List.getElem?_eq_none (by simp; omega), List.getElem?_eq_none (l := sb) (by omega)]
/-- Who is told of those in l, who stays, and what the subscribers are behind it. -/
def sndT (sb : List Sb) (m : Tm) (l : List Int) : List Int := l.filter fun id => pasR (flAt sb id) m
def sndS (sb : List Sb) (m : Tm) (l : List Int) : List Int := l.filter fun id => !pasR (flAt sb id) m
def sndB (sb : List Sb) (m : Tm) (l : List Int) : List Sb := l.foldl (fun s id => if pasR (flAt sb id) m = true then s else bump s (atR sb id).toNat) sb
theorem sndT_snoc (sb : List Sb) (m : Tm) (l : List Int) (id : Int) : sndT sb m (l ++ [id]) = if pasR (flAt sb id) m = true then sndT sb m l ++ [id] else sndT sb m l := by
  unfold sndT
  rw [List.filter_append]
  by_cases h : pasR (flAt sb id) m = true
  · rw [if_pos h]; simp [h]
  · rw [if_neg h]; simp [h]
theorem sndS_snoc (sb : List Sb) (m : Tm) (l : List Int) (id : Int) : sndS sb m (l ++ [id]) = if pasR (flAt sb id) m = true then sndS sb m l else sndS sb m l ++ [id] := by
  unfold sndS
  rw [List.filter_append]
  by_cases h : pasR (flAt sb id) m = true
  · rw [if_pos h]; simp [h]
  · rw [if_neg h]; simp [h]
theorem sndB_snoc (sb : List Sb) (m : Tm) (l : List Int) (id : Int) : sndB sb m (l ++ [id]) = if pasR (flAt sb id) m = true then sndB sb m l else bump (sndB sb m l) (atR sb id).toNat := by
  unfold sndB
  rw [List.foldl_append]
  rfl
theorem sndB_len (sb : List Sb) (m : Tm) : ∀ l : List Int, (sndB sb m l).length = sb.length := by
  suffices h : ∀ (l : List Int) (s : List Sb), (l.foldl (fun s id => if pasR (flAt sb id) m = true then s else bump s (atR sb id).toNat) s).length = s.length from fun l => h l sb
  intro l
  induction l with
  | nil => intro s; rfl
  | cons id l ih =>
    intro s
    rw [List.foldl_cons, ih]
    split
    · rfl
    · exact bump_len _ _
theorem sndB_ids (sb : List Sb) (m : Tm) : ∀ l : List Int, (sndB sb m l).map (·.id) = sb.map (·.id) := by
  suffices h : ∀ (l : List Int) (s : List Sb), (l.foldl (fun s id => if pasR (flAt sb id) m = true then s else bump s (atR sb id).toNat) s).map (·.id) = s.map (·.id) from fun l => h l sb
  intro l
  induction l with
  | nil => intro s; rfl
  | cons id l ih =>
    intro s
    rw [List.foldl_cons, ih]
    split
    · rfl
    · exact bump_ids _ _
theorem sndB_fls (sb : List Sb) (m : Tm) (j : Nat) : ∀ l : List Int, ((sndB sb m l).getD j Sb0).fl = (sb.getD j Sb0).fl := by
  suffices h : ∀ (l : List Int) (s : List Sb), ((l.foldl (fun s id => if pasR (flAt sb id) m = true then s else bump s (atR sb id).toNat) s).getD j Sb0).fl = (s.getD j Sb0).fl from fun l => h l sb
  intro l
  induction l with
  | nil => intro s; rfl
  | cons id l ih =>
    intro s
    rw [List.foldl_cons, ih]
    split
    · rfl
    · exact bump_fls _ _ _
/-- The cursors do not fall. -/
theorem sndB_cu (sb : List Sb) (m : Tm) (x : Int) (h : ∀ s, s ∈ sb → x ≤ s.cu) : ∀ l : List Int, ∀ s, s ∈ sndB sb m l → x ≤ s.cu := by
  suffices h' : ∀ (l : List Int) (t : List Sb), (∀ s, s ∈ t → x ≤ s.cu) → 0 ≤ (1 : Int) → (∀ id, id ∈ l → (atR sb id).toNat < t.length ∨ pasR (flAt sb id) m = true ∨ True) → ∀ s, s ∈ l.foldl (fun s id => if pasR (flAt sb id) m = true then s else bump s (atR sb id).toNat) t → x ≤ s.cu from fun l => h' l sb h (by omega) (fun _ _ => .inr (.inr trivial))
  intro l
  induction l with
  | nil => intro t ht _ _; exact ht
  | cons id l ih =>
    intro t ht h1 _
    rw [List.foldl_cons]
    refine ih _ ?_ h1 (fun _ _ => .inr (.inr trivial))
    split
    · exact ht
    · intro s hs
      by_cases hk : (atR sb id).toNat < t.length
      · rcases List.mem_or_eq_of_mem_set hs with h2 | h2
        · exact ht s h2
        · have h3 : t.getD (atR sb id).toNat Sb0 ∈ t := by
            rw [List.getD, List.getElem?_eq_getElem hk, Option.getD_some]; exact List.getElem_mem _
          have h4 := ht _ h3
          rw [h2]
          show x ≤ (t.getD (atR sb id).toNat Sb0).cu + 1
          omega
      · unfold bump at hs
        rw [List.set_eq_of_length_le (by omega)] at hs
        exact ht s hs
/-- A ring with a message more, ahead of what goes. -/
def sndV (v : Rv) (m : Tm) : Rv := ⟨v.cp, v.se + 1, v.it ++ [m], v.nx, sndB v.sb m v.ln, sndS v.sb m v.ln, v.gs ++ sndT v.sb m v.ln, v.cl⟩
theorem snd_old {v : Rv} {m : Tm} : oldR v ≤ oldR (sndV v m) := by
  have hl := (least_iff v.sb v.se (leastR v.se v.sb)).1 (Int.le_refl _)
  have h1 : leastR v.se v.sb ≤ leastR (v.se + 1) (sndB v.sb m v.ln) := by
    rw [least_iff]
    exact ⟨by omega, sndB_cu v.sb m _ hl.2 v.ln⟩
  unfold oldR
  simp only [sndV]
  repeat' split
  all_goals omega
/-- How many go. -/
theorem snd_first {v : Rv} (h : okR restR v = true) {m : Tm} {f : Nat} (hf : v.se = ((f + v.it.length : Nat) : Int)) : ∃ d : Nat, d ≤ v.it.length + 1 ∧ oldR (sndV v m) = ((f + d : Nat) : Int) ∧ trimR (sndV v m) = { sndV v m with it := (v.it ++ [m]).drop d } := by
  obtain ⟨hcp, hse, _, h16, hlen, _⟩ := ok_head h
  have h1 := snd_old (v := v) (m := m)
  have h2 := oldR_bd (v := sndV v m) (by show 0 ≤ v.se + 1; omega) hcp.1
  have e1 : (sndV v m).se = v.se + 1 := rfl
  have e2 : (sndV v m).it = v.it ++ [m] := rfl
  have e3 : (v.it ++ [m]).length = v.it.length + 1 := by simp
  rw [e1] at h2
  obtain ⟨d, hd⟩ : ∃ d : Nat, oldR (sndV v m) = ((f + d : Nat) : Int) := ⟨(oldR (sndV v m) - f).toNat, by omega⟩
  refine ⟨d, by omega, hd, ?_⟩
  unfold trimR
  rw [e1, e2, e3]
  by_cases h0 : d = 0
  · subst h0
    rw [if_neg (by omega), List.drop_zero]
    rfl
  · rw [if_pos (by omega), show v.it.length + 1 - (v.se + 1 - oldR (sndV v m)).toNat = d by omega]
    first | done | rfl
/-- What Send leaves, whom it tells, and its code. -/
def snR (v : Rv) (m : Tm) : Rv := if okR restR v = true then (if v.cl = true then v else if okB m.1 m.2.1 m.2.2 = true then (if v.se = 1000000000 then v else trimR (sndV v m)) else v) else v
def snT (v : Rv) (m : Tm) : List Int := if okR restR v = true then (if v.cl = true then [] else if okB m.1 m.2.1 m.2.2 = true then (if v.se = 1000000000 then [] else sndT v.sb m v.ln) else []) else []
def snC (v : Rv) (m : Tm) : Int := if okR restR v = true then (if v.cl = true then 6 else if okB m.1 m.2.1 m.2.2 = true then (if v.se = 1000000000 then 2 else 0) else 1) else 1
def SendDone (F : Nat) : Prop := ∀ (M : Rm) (v : Rv) (m : Tm) (w : World), RIn w M v → RLe M 1048576 → RCap M → RWf v → m.2.2.size ≤ maxLen → GOk w →
  Calls Tryz.prog F #[.agg #[.int .i64 v.cp, .int .i64 v.se, .slice M.ia M.i M.ic, .int .i64 v.nx, .slice M.sa M.s M.sc, .slice M.la M.l M.lc, .slice M.ga M.g M.gc, .bool v.cl], .agg #[.int .i64 m.1, .int .i64 m.2.1, .string m.2.2]] w fun e w' => RgT w (snR v m) (snT v m) (snC v m) e w'
end Go.Proofs.YtpiknjkdojalpaaGreat
