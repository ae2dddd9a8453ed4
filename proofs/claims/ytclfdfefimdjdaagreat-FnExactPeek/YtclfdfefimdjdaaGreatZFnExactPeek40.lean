/-
  A subscriber's cells are written over, all seven of them.
-/
import Derived.Test.YtclfdfefimdjdaaGreatZFnExactPeek38
namespace Go.Proofs.YtclfdfefimdjdaaGreat
open Go.RowKit Go.Maps Pl Il

/-- A list with vs laid over it from o on. -/
def setLL : List Value → Nat → List Value → List Value
  | l, _, [] => l
  | l, o, v :: vs => setLL (l.set o v) (o + 1) vs
theorem setLL_len : ∀ (vs l : List Value) (o : Nat), (setLL l o vs).length = l.length
  | [], _, _ => rfl
  | v :: vs, l, o => by unfold setLL; rw [setLL_len vs]; simp
theorem setLL_get : ∀ (vs l : List Value) (o i : Nat), o + vs.length ≤ l.length → (setLL l o vs)[i]? = if o ≤ i ∧ i < o + vs.length then vs[i - o]? else l[i]?
  | [], l, o, i, _ => by unfold setLL; rw [if_neg (by simp only [List.length_nil]; omega)]
  | v :: vs, l, o, i, h => by
    unfold setLL
    simp only [List.length_cons] at h ⊢
    rw [setLL_get vs _ (o + 1) i (by simp; omega)]
    by_cases h1 : i = o
    · subst h1
      rw [if_neg (by omega), if_pos (by omega), List.getElem?_set, if_pos rfl, if_pos (by omega), Nat.sub_self]
      rfl
    · by_cases h2 : o + 1 ≤ i ∧ i < o + 1 + vs.length
      · rw [if_pos h2, if_pos (by omega), show i - o = (i - (o + 1)) + 1 by omega, List.getElem?_cons_succ]
      · rw [if_neg h2, if_neg (by omega), List.getElem?_set, if_neg (by omega)]
theorem row_setL {B g n c : Nat} {t : TypeId} {sz : Nat} : ∀ (vs : List Value) (w : World) (o : Nat) (l : List Value), w.ownsRow B t sz (.slice (some ⟨g, 0, none⟩) n c) n l → (setL w g o vs).ownsRow B t sz (.slice (some ⟨g, 0, none⟩) n c) n (setLL l o vs)
  | [], _, _, _, h => h
  | v :: vs, w, o, l, h => by
    unfold setL setLL
    exact row_setL vs _ _ _ (h.stored o v).1
theorem sflat_setS {xs : List Sa} {k : Nat} {x : Sa} (hk : k < xs.length) : setLL (sflat xs) (k * 7) (sC x) = sflat (xs.set k x) := by
  have hl : (sflat xs).length = xs.length * 7 := length_sflat xs
  have hl2 : (sflat (xs.set k x)).length = xs.length * 7 := by rw [length_sflat, List.length_set]
  refine List.ext_getElem? fun i => ?_
  rw [setLL_get _ _ _ _ (by rw [hl]; simp; omega)]
  by_cases hi : i < xs.length * 7
  · have e1 := sflat_at (xs.set k x) (i / 7) (i % 7) (by rw [List.length_set]; omega) (by omega)
    have e2 := sflat_at xs (i / 7) (i % 7) (by omega) (by omega)
    rw [show i / 7 * 7 + i % 7 = i by omega] at e1 e2
    rw [e1]
    have e3 : sg (xs.set k x) (i / 7) = if k = i / 7 then x else sg xs (i / 7) := by
      rw [sg_eq (by rw [List.length_set]; omega), List.getElem_set]
      split
      · rfl
      · rw [sg_eq (by omega)]
    rw [e3]
    by_cases hik : k = i / 7
    · rw [if_pos hik, if_pos (by simp; omega), show i - k * 7 = i % 7 by omega]
    · rw [if_neg hik, if_neg (by simp; omega), e2]
  · rw [if_neg (by simp; omega), List.getElem?_eq_none (by omega), List.getElem?_eq_none (by omega)]
theorem RRow.sub_row {B : Nat} {w : World} {M : Rm} {v : Rv} (h : RRow B w M v) {k : Nat} (hk : k < v.sb.length) : ∃ g, M.sa = some ⟨g, 0, none⟩ ∧ M.s = M.xs.length ∧ k < M.xs.length := by
  have hl : M.xs.length = v.sb.length := by rw [← h.sv]; simp [svs]
  obtain ⟨h1, ⟨e, e0⟩ | ⟨g, cp, cur, e, _⟩⟩ := h.sb
  · rw [e0, length_sflat] at h1; omega
  · injection e with e1
    exact ⟨g, e1, by rw [length_sflat] at h1; omega, by omega⟩
theorem blkR_set {M : Rm} {k : Nat} {s' : Sb} (hk : k < M.xs.length) : blkR { M with xs := M.xs.set k ⟨s', (sg M.xs k).a, (sg M.xs k).n, (sg M.xs k).c⟩ } = blkR M := by
  have e : (M.xs.set k ⟨s', (sg M.xs k).a, (sg M.xs k).n, (sg M.xs k).c⟩).map (fun x => (Value.slice x.a x.n x.c).ownBlock) = M.xs.map fun x => (Value.slice x.a x.n x.c).ownBlock := by
    refine List.ext_getElem (by simp) fun i h1 h2 => ?_
    simp only [List.getElem_map, List.getElem_set]
    split
    · rename_i h'
      subst h'
      rw [sg_eq hk]
    · rfl
  unfold blkR
  simp only
  rw [e]
theorem rowB {B K : Nat} {w w' : World} {t : TypeId} {s : Nat} {v : Value} {n : Nat} {xs : List Value} (h : w.ownsRow B t s v n xs) (hb : Below K w w') (hlt : ∀ q, v.ownBlock = some q → q < K) : w'.ownsRow B t s v n xs := by
  obtain ⟨hl, hn | ⟨g, cap, cur, rfl, hB, hg, hr⟩⟩ := h
  · exact ⟨hl, .inl hn⟩
  · exact ⟨hl, .inr ⟨g, cap, cur, rfl, hB, by rw [hb.block g (hlt g rfl)]; exact hg, hr⟩⟩
theorem RRow.far {B K : Nat} {w w' : World} {M : Rm} {v : Rv} (h : RRow B w M v) (hb : Below K w w') (hlt : ∀ q, some q ∈ blkR M → q < K) : RRow B w' M v :=
  have key : ∀ {u : Value}, u.ownBlock ∈ blkR M → ∀ q, u.ownBlock = some q → q < K := fun {u} hu q e => hlt q (by rw [← e]; exact hu)
  ⟨rowB h.it hb (key (by simp [blkR])), h.its, rowB h.sb hb (key (by simp [blkR])), fun x hx => rowB (h.fl x hx) hb (key (by
    unfold blkR
    exact List.mem_cons_of_mem _ (List.mem_cons_of_mem _ (List.mem_cons_of_mem _ (List.mem_cons_of_mem _ (List.mem_map.2 ⟨x, hx, rfl⟩)))))), h.fls, h.sv, rowB h.ln hb (key (by simp [blkR])), rowB h.gs hb (key (by simp [blkR])), h.apt⟩
/-- A subscriber with another's numbers, its filter the same. -/
theorem RRow.putSub {B : Nat} {w : World} {M : Rm} {v : Rv} {g k : Nat} {s' : Sb} (h : RRow B w M v) (hg : M.sa = some ⟨g, 0, none⟩) (hk : k < M.xs.length) (hf : s'.fl = (sg M.xs k).s.fl) :
    RRow B (setL w g (k * 7) (sC ⟨s', (sg M.xs k).a, (sg M.xs k).n, (sg M.xs k).c⟩)) { M with xs := M.xs.set k ⟨s', (sg M.xs k).a, (sg M.xs k).n, (sg M.xs k).c⟩ } { v with sb := v.sb.set k s' } ∧ w.grownBy (setL w g (k * 7) (sC ⟨s', (sg M.xs k).a, (sg M.xs k).n, (sg M.xs k).c⟩)) (some g) := by
  have hA : AptP _ _ _ _ _ := apt_iff.1 h.apt
  have hsb := h.sb
  rw [hg] at hsb
  have r1 := row_setL (sC ⟨s', (sg M.xs k).a, (sg M.xs k).n, (sg M.xs k).c⟩) w (k * 7) _ hsb
  rw [sflat_setS hk] at r1
  have gr : w.grownBy (setL w g (k * 7) (sC ⟨s', (sg M.xs k).a, (sg M.xs k).n, (sg M.xs k).c⟩)) (some g) := setL_grown ⟨rfl, rfl, rfl, Nat.le_refl _, fun _ _ _ => rfl⟩
  have hb : (Value.slice M.sa M.s M.sc).ownBlock = some g := by rw [hg]; rfl
  have hmem : ∀ x, x ∈ M.xs.set k ⟨s', (sg M.xs k).a, (sg M.xs k).n, (sg M.xs k).c⟩ → ∃ y, y ∈ M.xs ∧ x.a = y.a ∧ x.n = y.n ∧ x.c = y.c ∧ x.s.fl = y.s.fl := fun x hx => by
    rcases List.mem_or_eq_of_mem_set hx with h' | h'
    · exact ⟨x, h', rfl, rfl, rfl, rfl⟩
    · exact ⟨sg M.xs k, sg_mem hk, by rw [h'], by rw [h'], by rw [h'], by rw [h']; exact hf⟩
  refine ⟨⟨rowG h.it gr (fun q e e' => ?_), h.its, by rw [hg]; exact r1, fun x hx => ?_, fun x hx p hp => ?_, ?_, rowG h.ln gr (fun q e e' => ?_), rowG h.gs gr (fun q e e' => ?_), ?_⟩, gr⟩
  · injection e with e; subst e; exact hA.is _ e' hb
  · obtain ⟨y, hy, e1, e2, e3, e4⟩ := hmem x hx
    rw [e1, e2, e3, e4]
    exact rowG (h.fl y hy) gr (fun q e e' => by injection e with e; subst e; exact hA.sx _ (List.mem_map.2 ⟨y, hy, rfl⟩) _ hb e')
  · obtain ⟨y, hy, _, _, _, e4⟩ := hmem x hx
    rw [e4] at hp
    exact h.fls y hy p hp
  · show svs (M.xs.set k _) = v.sb.set k s'
    rw [← h.sv]
    simp only [svs, List.map_set]
  · injection e with e; subst e; exact hA.sl _ hb e'
  · injection e with e; subst e; exact hA.sg _ hb e'
  · rw [blkR_set hk]; exact h.apt
/-- An item's cells. -/
theorem RRow.item {B : Nat} {w : World} {M : Rm} {v : Rv} {i : Nat} (h : RRow B w M v) (hi : i < M.i) : ∃ bi, M.ia = some ⟨bi, 0, none⟩ ∧ v.it.length = M.i ∧ w.cell? ⟨bi, i * 3, none⟩ = some (.int .i64 (qg v.it i).1) ∧ w.cell? ⟨bi, i * 3 + 1, none⟩ = some (.int .i64 (qg v.it i).2.1) ∧ w.cell? ⟨bi, i * 3 + 2, none⟩ = some (.string (qg v.it i).2.2) := by
  obtain ⟨hl, ⟨e, _⟩ | ⟨g', c', cur, e, hB, hg, hc, hm, hs, ht⟩⟩ := h.it
  · have : M.i = 0 := by injection e
    omega
  · injection e with e1 e2 e3
    have hlen : v.it.length = M.i := by rw [length_qflat] at hl; omega
    have key : ∀ r, r < 3 → w.cell? ⟨g', i * 3 + r, none⟩ = (qflat v.it)[i * 3 + r]? := fun r hr => by
      rw [cell_of_row w g' (i * 3 + r) cur _ (0, 0) hg, ← ht, List.getElem?_take_of_lt (by omega), Array.getElem?_toList]
    refine ⟨g', e1, hlen, ?_, ?_, ?_⟩
    · have := key 0 (by omega); rw [qflat_at _ _ _ (by omega) (by omega)] at this; exact this
    · have := key 1 (by omega); rw [qflat_at _ _ _ (by omega) (by omega)] at this; exact this
    · have := key 2 (by omega); rw [qflat_at _ _ _ (by omega) (by omega)] at this; exact this
theorem BoxL.setAll {N : Nat} {vs us : List Value} {w : World} (h : BoxL N vs w) (hl : us.length = vs.length) : BoxL N us (setL w N 0 us) :=
  ⟨by rw [setL_size]; exact h.lt, fun i hi => by
    have k := setL_same (g := N) (vs := us) (w := w) (o := 0) (fun j hj => ⟨_, by rw [Nat.zero_add]; exact h.cs j (by omega)⟩) i hi
    rwa [Nat.zero_add] at k, fun o => by rw [setL_fr]; exact h.fr o⟩
theorem BoxL.setFar {N M o : Nat} {vs us : List Value} {w : World} (h : BoxL N vs w) (hM : N ≠ M) : BoxL N vs (setL w M o us) := h.of_block (setL_block hM) (by rw [setL_size]; exact h.lt)
/-- A reading was done in a ring of one's own. -/
def RdP (B : Nat) (w : World) (M : Rm) (v : Rv) (k : Nat) (e : Ending) (w' : World) : Prop := ∃ xs' : List Sa, e = .returned (.tuple #[.agg #[.int .i64 v.cp, .int .i64 v.se, .slice M.ia M.i M.ic, .int .i64 v.nx, .slice M.sa M.s M.sc, .slice M.la M.l M.lc, .slice M.ga M.g M.gc, .bool v.cl], .agg #[.int .i64 (readT v (v.sb.getD k Sb0)).kd, .int .i64 (readT v (v.sb.getD k Sb0)).ms.1, .int .i64 (readT v (v.sb.getD k Sb0)).ms.2.1, .string (readT v (v.sb.getD k Sb0)).ms.2.2, .int .i64 (readT v (v.sb.getD k Sb0)).ix, .int .i64 (readT v (v.sb.getD k Sb0)).n], .int .i64 (readC v (v.sb.getD k Sb0))]) ∧ RRow B w' { M with xs := xs' } (rdV v k) ∧ (∀ y, y ∈ xs' → ∃ x, x ∈ M.xs ∧ y.n = x.n) ∧ w.grownBy w' (Value.slice M.sa M.s M.sc).ownBlock ∧ blkR { M with xs := xs' } = blkR M
theorem RdP.mk {B : Nat} {w U w' : World} {M : Rm} {v : Rv} {k g : Nat} {e : Ending} {s' : Sb} {td : Td} {c : Int} (hR : RRow B w M v) (hg : M.sa = some ⟨g, 0, none⟩) (hk : k < M.xs.length) (hwU : Below w.heap.size w U) (hY : Below w.heap.size (setL U g (k * 7) (sC ⟨s', (sg M.xs k).a, (sg M.xs k).n, (sg M.xs k).c⟩)) w') (hf : s'.fl = (sg M.xs k).s.fl) (hs : readS v (v.sb.getD k Sb0) = s') (ht : readT v (v.sb.getD k Sb0) = td) (hc : readC v (v.sb.getD k Sb0) = c)
    (he : e = .returned (.tuple #[.agg #[.int .i64 v.cp, .int .i64 v.se, .slice M.ia M.i M.ic, .int .i64 v.nx, .slice M.sa M.s M.sc, .slice M.la M.l M.lc, .slice M.ga M.g M.gc, .bool v.cl], .agg #[.int .i64 td.kd, .int .i64 td.ms.1, .int .i64 td.ms.2.1, .string td.ms.2.2, .int .i64 td.ix, .int .i64 td.n], .int .i64 c])) : RdP B w M v k e w' := by
  subst ht hc
  have hput := (hR.keep hwU).putSub hg hk hf
  have hrow : RRow B w' { M with xs := M.xs.set k ⟨s', (sg M.xs k).a, (sg M.xs k).n, (sg M.xs k).c⟩ } (rdV v k) := by
    unfold rdV
    rw [hs]
    exact hput.1.far hY fun q hq => by rw [blkR_set hk] at hq; exact (hR.blk q hq).2
  refine ⟨_, he, hrow, fun y hy => ?_, ?_, blkR_set hk⟩
  · rcases List.mem_or_eq_of_mem_set hy with h' | h'
    · exact ⟨y, h', rfl⟩
    · exact ⟨sg M.xs k, sg_mem hk, by rw [h']⟩
  · have hgr := hput.2
    have hbk : (Value.slice M.sa M.s M.sc).ownBlock = some g := by rw [hg]; rfl
    rw [hbk]
    refine ⟨hY.os.trans (hgr.os.trans hwU.os), hY.tape.trans (hgr.tape.trans hwU.tape), hY.output.trans (hgr.output.trans hwU.output), Nat.le_trans hwU.size (Nat.le_trans hgr.size hY.size), fun j hj hne => ?_⟩
    rw [hY.block j hj, hgr.block j (Nat.lt_of_lt_of_le hj hwU.size) hne, hwU.block j hj]
end Go.Proofs.YtclfdfefimdjdaaGreat
