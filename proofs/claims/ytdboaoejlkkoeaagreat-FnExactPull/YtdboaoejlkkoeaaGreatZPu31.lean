/-
  Pulling: what several readings tell, one behind the other; lists of wh
  A subscriber's cells are written over, all seven of them
  Walks of the specification's filters: what a term that takes nothing s
  Walks of the specification's filters: what a filter leaves of a messag
-/
import Derived.Test.YtdboaoejlkkoeaaGreatZPu30
namespace Go.Proofs.YtdboaoejlkkoeaaGreat
open Go.RowKit Pl Il
def pullL : Nat → Rv → Nat → Rv × List Td × Int
  | 0, v, _ => (v, [], 0)
  | n + 1, v, k =>
    if readC v (v.sb.getD k Sb0) = 0 then
      ((pullL n (trimR (rdV v k)) k).1, readT v (v.sb.getD k Sb0) :: (pullL n (trimR (rdV v k)) k).2.1, (pullL n (trimR (rdV v k)) k).2.2)
    else (trimR (rdV v k), [], readC v (v.sb.getD k Sb0))
theorem pullL_succ (n : Nat) (v : Rv) (k : Nat) : pullL (n + 1) v k = if readC v (v.sb.getD k Sb0) = 0 then
      ((pullL n (trimR (rdV v k)) k).1, readT v (v.sb.getD k Sb0) :: (pullL n (trimR (rdV v k)) k).2.1, (pullL n (trimR (rdV v k)) k).2.2)
    else (trimR (rdV v k), [], readC v (v.sb.getD k Sb0)) := rfl
def pulR (v : Rv) (id most : Int) : Rv := if okR restR v = true ∧ 0 ≤ most ∧ most ≤ 50 then (if atR v.sb id < 0 then v else if (hasL v.ln id || hasL v.gs id) = true then v else (pullL most.toNat v (atR v.sb id).toNat).1) else v
def pulT (v : Rv) (id most : Int) : List Td := if okR restR v = true ∧ 0 ≤ most ∧ most ≤ 50 then (if atR v.sb id < 0 then [] else if (hasL v.ln id || hasL v.gs id) = true then [] else (pullL most.toNat v (atR v.sb id).toNat).2.1) else []
def pulC (v : Rv) (id most : Int) : Int := if okR restR v = true ∧ 0 ≤ most ∧ most ≤ 50 then (if atR v.sb id < 0 then 3 else if (hasL v.ln id || hasL v.gs id) = true then 5 else (pullL most.toNat v (atR v.sb id).toNat).2.2) else 1
structure PulI (most : Nat) (v : Rv) (k : Nat) (j : Nat) (u : Rv) (l : List Td) (c : Int) : Prop where
  len : l.length ≤ j ∧ j ≤ most
  go : c = 0 → l.length = j ∧ (pullL most v k).1 = (pullL (most - j) u k).1 ∧ (pullL most v k).2.1 = l ++ (pullL (most - j) u k).2.1 ∧ (pullL most v k).2.2 = (pullL (most - j) u k).2.2
  done : c ≠ 0 → pullL most v k = (u, l, c)
theorem PulI.start (most : Nat) (v : Rv) (k : Nat) : PulI most v k 0 v [] 0 := ⟨⟨Nat.le_refl _, Nat.zero_le _⟩, fun _ => ⟨rfl, rfl, by simp, rfl⟩, fun h => absurd rfl h⟩
theorem PulI.next {most : Nat} {v : Rv} {k j : Nat} {u : Rv} {l : List Td} (h : PulI most v k j u l 0) (hj : j < most) :
    PulI most v k (j + 1) (trimR (rdV u k)) (if readC u (u.sb.getD k Sb0) = 0 then l ++ [readT u (u.sb.getD k Sb0)] else l) (readC u (u.sb.getD k Sb0)) := by
  obtain ⟨h1, h2, h3, h4⟩ := h.go rfl
  have hm : most - j = (most - (j + 1)) + 1 := by omega
  have hl := h.len
  rw [hm, pullL_succ] at h2 h3 h4
  by_cases hc : readC u (u.sb.getD k Sb0) = 0
  · rw [if_pos hc] at h2 h3 h4
    rw [if_pos hc]
    refine ⟨⟨by simp; omega, by omega⟩, fun _ => ⟨by simp; omega, h2, ?_, h4⟩, fun hn => absurd hc hn⟩
    rw [h3]
    simp
  · rw [if_neg hc] at h2 h3 h4
    rw [if_neg hc]
    refine ⟨⟨by omega, by omega⟩, fun hz => absurd hz hc, fun _ => ?_⟩
    exact Prod.ext h2 (Prod.ext (by rw [h3]; simp) h4)
theorem PulI.full {most : Nat} {v : Rv} {k j : Nat} {u : Rv} {l : List Td} {c : Int} (h : PulI most v k j u l c) (he : c ≠ 0 ∨ most ≤ l.length) : pullL most v k = (u, l, c) := by
  by_cases hc : c = 0
  · subst hc
    have hm : most ≤ l.length := by rcases he with he | he; exact absurd rfl he; exact he
    obtain ⟨h1, h2, h3, h4⟩ := h.go rfl
    have e : most - j = 0 := by omega
    rw [e] at h2 h3 h4
    exact Prod.ext h2 (Prod.ext (by rw [h3]; simp [pullL]) h4)
  · exact h.done hc
theorem PulI.rd {most : Nat} {v : Rv} {k j : Nat} {u : Rv} {l : List Td} {c : Int} (_ : PulI most v k j u l c) (hu : RdOk u k) : RdOk (trimR (rdV u k)) k := rd_again hu
def dflat (l : List Td) : List Value := l.flatMap tdC
theorem dflat_len (l : List Td) : (dflat l).length = l.length * 6 := by
  induction l with
  | nil => rfl
  | cons t l ih => simp only [dflat, List.flatMap_cons, List.length_append, List.length_cons] at ih ⊢; rw [ih]; simp; omega
theorem dflat_snoc (l : List Td) (t : Td) : dflat (l ++ [t]) = dflat l ++ tdC t := by simp [dflat]
theorem rinfoT : (Tryz.prog.info? 53).map (fun i => (i.zero, i.size, i.bytes)) = some (some (.agg #[.int .i64 0, .int .i64 0, .int .i64 0, .string ⟨#[]⟩, .int .i64 0, .int .i64 0]), 6, 56) := by kernel_rfl
theorem append_td (B m : Nat) (v : Value) (ys : List Td) (t : Td) (w : World) (ho : w.ownsRow B 53 6 v m (dflat ys)) (hB : B ≤ w.heap.size) (hs : m + 1 ≤ 4194304) :
    ∃ (a' : Option Addr) (c' : Nat) (w' : World), (Builtin.append_ #[48, 48] 48 #[v, .slice (some ⟨w.heap.size, 0, none⟩) 1 1]).run Tryz.prog (w.alloc (.cells #[.int .i64 t.kd, .int .i64 t.ms.1, .int .i64 t.ms.2.1, .string t.ms.2.2, .int .i64 t.ix, .int .i64 t.n] 53)) = .ok (.slice a' (m + 1) c') w' ∧
      w'.ownsRow B 53 6 (.slice a' (m + 1) c') (m + 1) (dflat (ys ++ [t])) ∧ w.grownBy w' v.ownBlock ∧ (∀ q, (Value.slice a' (m + 1) c').ownBlock = some q → v.ownBlock = some q ∨ w.heap.size ≤ q) := by
  obtain ⟨W, hW⟩ : ∃ W, w.alloc (.cells #[.int .i64 t.kd, .int .i64 t.ms.1, .int .i64 t.ms.2.1, .string t.ms.2.2, .int .i64 t.ix, .int .i64 t.n] 53) = W := ⟨_, rfl⟩
  have hx : BoxL w.heap.size (tdC t) W := by rw [← hW]; exact BoxL.new w (tdC t) _
  have hg : w.grownBy W v.ownBlock := by rw [← hW]; exact World.grownBy_alloc w _ _
  have hs2 : w.heap.size ≤ W.heap.size := hg.size
  have ho2 : W.ownsRow B 53 6 v m (dflat ys) := by rw [← hW]; exact ho.alloc _
  obtain ⟨a', c', w', hr, hown, hgr, hl⟩ := append_gen Tryz.underlying48 rinfoT rfl (by omega) (by omega) B m v (dflat ys) (some ⟨w.heap.size, 0, none⟩) 1 1 (tdC t) W ho2 (by omega) rfl
    (.inr ⟨w.heap.size, 0, rfl, fun j u hu => by
      have hj : j < 6 := by have := (List.getElem?_eq_some_iff.1 hu).1; simpa using this
      obtain ⟨p0, p1, p2, p3, p4, p5⟩ := box6 hx
      match j, hj with
      | 0, _ => simp at hu; subst hu; exact p0
      | 1, _ => simp at hu; subst hu; exact p1
      | 2, _ => simp at hu; subst hu; exact p2
      | 3, _ => simp at hu; subst hu; exact p3
      | 4, _ => simp at hu; subst hu; exact p4
      | 5, _ => simp at hu; subst hu; exact p5⟩)
    (fun u hu => by
      simp only [List.mem_cons, List.not_mem_nil, or_false] at hu
      obtain rfl | rfl | rfl | rfl | rfl | rfl := hu <;> rfl) hs
  refine ⟨a', c', w', by rw [hW]; exact hr, by rw [dflat_snoc]; exact hown, hg.trans hgr, fun q hq => ?_⟩
  rcases hl q hq with h | h
  · exact .inl h
  · exact .inr (by omega)
end Go.Proofs.YtdboaoejlkkoeaaGreat
namespace Go.Proofs.YtdboaoejlkkoeaaGreat
open Go.RowKit Go.Maps Pl Il
def setLL : List Value → Nat → List Value → List Value
  | l, _, [] => l
  | l, o, v :: vs => setLL (l.set o v) (o + 1) vs
theorem setLL_get : ∀ (vs l : List Value) (o i : Nat), o + vs.length ≤ l.length → (setLL l o vs)[i]? = if o ≤ i ∧ i < o + vs.length then vs[i - o]? else l[i]?
  | [], l, o, i, _ => by unfold setLL; rw [if_neg (by simp only [List.length_nil]; omega)]
  | v :: vs, l, o, i, h => by
    unfold setLL
    simp only [List.length_cons] at h ⊢
    rw [setLL_get vs _ (o + 1) i (by simp; omega)]
    by_cases h1 : i = o
    · subst h1
      rw [if_neg (by omega), if_pos (by omega), List.getElem?_set, if_pos rfl, if_pos (by omega), Nat.sub_self]
      rfl
    · by_cases h2 : o + 1 ≤ i ∧ i < o + 1 + vs.length
      · rw [if_pos h2, if_pos (by omega), show i - o = (i - (o + 1)) + 1 by omega, List.getElem?_cons_succ]
      · rw [if_neg h2, if_neg (by omega), List.getElem?_set, if_neg (by omega)]
theorem row_setL {B g n c : Nat} {t : TypeId} {sz : Nat} : ∀ (vs : List Value) (w : World) (o : Nat) (l : List Value), w.ownsRow B t sz (.slice (some ⟨g, 0, none⟩) n c) n l → (setL w g o vs).ownsRow B t sz (.slice (some ⟨g, 0, none⟩) n c) n (setLL l o vs)
  | [], _, _, _, h => h
  | v :: vs, w, o, l, h => by
    unfold setL setLL
    exact row_setL vs _ _ _ (h.stored o v).1
theorem sflat_setS {xs : List Sa} {k : Nat} {x : Sa} (hk : k < xs.length) : setLL (sflat xs) (k * 7) (sC x) = sflat (xs.set k x) := by
  have hl : (sflat xs).length = xs.length * 7 := length_sflat xs
  have hl2 : (sflat (xs.set k x)).length = xs.length * 7 := by rw [length_sflat, List.length_set]
  refine List.ext_getElem? fun i => ?_
  rw [setLL_get _ _ _ _ (by rw [hl]; simp; omega)]
  by_cases hi : i < xs.length * 7
  · have e1 := sflat_at (xs.set k x) (i / 7) (i % 7) (by rw [List.length_set]; omega) (by omega)
    have e2 := sflat_at xs (i / 7) (i % 7) (by omega) (by omega)
    rw [show i / 7 * 7 + i % 7 = i by omega] at e1 e2
    rw [e1]
    have e3 : sg (xs.set k x) (i / 7) = if k = i / 7 then x else sg xs (i / 7) := by
      rw [sg_eq (by rw [List.length_set]; omega), List.getElem_set]
      split
      · rfl
      · rw [sg_eq (by omega)]
    rw [e3]
    by_cases hik : k = i / 7
    · rw [if_pos hik, if_pos (by simp; omega), show i - k * 7 = i % 7 by omega]
    · rw [if_neg hik, if_neg (by simp; omega), e2]
  · rw [if_neg (by simp; omega), List.getElem?_eq_none (by omega), List.getElem?_eq_none (by omega)]
theorem RRow.sub_row {B : Nat} {w : World} {M : Rm} {v : Rv} (h : RRow B w M v) {k : Nat} (hk : k < v.sb.length) : ∃ g, M.sa = some ⟨g, 0, none⟩ ∧ M.s = M.xs.length ∧ k < M.xs.length := by
  have hl : M.xs.length = v.sb.length := by rw [← h.sv]; simp [svs]
  obtain ⟨h1, ⟨e, e0⟩ | ⟨g, cp, cur, e, _⟩⟩ := h.sb
  · rw [e0, length_sflat] at h1; omega
  · injection e with e1
    exact ⟨g, e1, by rw [length_sflat] at h1; omega, by omega⟩
theorem blkR_set {M : Rm} {k : Nat} {s' : Sb} (hk : k < M.xs.length) : blkR { M with xs := M.xs.set k ⟨s', (sg M.xs k).a, (sg M.xs k).n, (sg M.xs k).c⟩ } = blkR M := by
  have e : (M.xs.set k ⟨s', (sg M.xs k).a, (sg M.xs k).n, (sg M.xs k).c⟩).map (fun x => (Value.slice x.a x.n x.c).ownBlock) = M.xs.map fun x => (Value.slice x.a x.n x.c).ownBlock := by
    refine List.ext_getElem (by simp) fun i h1 h2 => ?_
    simp only [List.getElem_map, List.getElem_set]
    split
    · rename_i h'
      subst h'
      rw [sg_eq hk]
    · rfl
  unfold blkR
  simp only
  rw [e]
theorem rowB {B K : Nat} {w w' : World} {t : TypeId} {s : Nat} {v : Value} {n : Nat} {xs : List Value} (h : w.ownsRow B t s v n xs) (hb : Below K w w') (hlt : ∀ q, v.ownBlock = some q → q < K) : w'.ownsRow B t s v n xs := by
  obtain ⟨hl, hn | ⟨g, cap, cur, rfl, hB, hg, hr⟩⟩ := h
  · exact ⟨hl, .inl hn⟩
  · exact ⟨hl, .inr ⟨g, cap, cur, rfl, hB, by rw [hb.block g (hlt g rfl)]; exact hg, hr⟩⟩
theorem RRow.far {B K : Nat} {w w' : World} {M : Rm} {v : Rv} (h : RRow B w M v) (hb : Below K w w') (hlt : ∀ q, some q ∈ blkR M → q < K) : RRow B w' M v :=
  have key : ∀ {u : Value}, u.ownBlock ∈ blkR M → ∀ q, u.ownBlock = some q → q < K := fun {u} hu q e => hlt q (by rw [← e]; exact hu)
  ⟨rowB h.it hb (key (by simp [blkR])), h.its, rowB h.sb hb (key (by simp [blkR])), fun x hx => rowB (h.fl x hx) hb (key (by
    unfold blkR
    exact List.mem_cons_of_mem _ (List.mem_cons_of_mem _ (List.mem_cons_of_mem _ (List.mem_cons_of_mem _ (List.mem_map.2 ⟨x, hx, rfl⟩)))))), h.fls, h.sv, rowB h.ln hb (key (by simp [blkR])), rowB h.gs hb (key (by simp [blkR])), h.apt⟩
theorem RRow.putSub {B : Nat} {w : World} {M : Rm} {v : Rv} {g k : Nat} {s' : Sb} (h : RRow B w M v) (hg : M.sa = some ⟨g, 0, none⟩) (hk : k < M.xs.length) (hf : s'.fl = (sg M.xs k).s.fl) :
    RRow B (setL w g (k * 7) (sC ⟨s', (sg M.xs k).a, (sg M.xs k).n, (sg M.xs k).c⟩)) { M with xs := M.xs.set k ⟨s', (sg M.xs k).a, (sg M.xs k).n, (sg M.xs k).c⟩ } { v with sb := v.sb.set k s' } ∧ w.grownBy (setL w g (k * 7) (sC ⟨s', (sg M.xs k).a, (sg M.xs k).n, (sg M.xs k).c⟩)) (some g) := by
  have hA : AptP _ _ _ _ _ := apt_iff.1 h.apt
  have hsb := h.sb
  rw [hg] at hsb
  have r1 := row_setL (sC ⟨s', (sg M.xs k).a, (sg M.xs k).n, (sg M.xs k).c⟩) w (k * 7) _ hsb
  rw [sflat_setS hk] at r1
  have gr : w.grownBy (setL w g (k * 7) (sC ⟨s', (sg M.xs k).a, (sg M.xs k).n, (sg M.xs k).c⟩)) (some g) := setL_grown ⟨rfl, rfl, rfl, Nat.le_refl _, fun _ _ _ => rfl⟩
  have hb : (Value.slice M.sa M.s M.sc).ownBlock = some g := by rw [hg]; rfl
  have hmem : ∀ x, x ∈ M.xs.set k ⟨s', (sg M.xs k).a, (sg M.xs k).n, (sg M.xs k).c⟩ → ∃ y, y ∈ M.xs ∧ x.a = y.a ∧ x.n = y.n ∧ x.c = y.c ∧ x.s.fl = y.s.fl := fun x hx => by
    rcases List.mem_or_eq_of_mem_set hx with h' | h'
    · exact ⟨x, h', rfl, rfl, rfl, rfl⟩
    · exact ⟨sg M.xs k, sg_mem hk, by rw [h'], by rw [h'], by rw [h'], by rw [h']; exact hf⟩
  refine ⟨⟨rowG h.it gr (fun q e e' => ?_), h.its, by rw [hg]; exact r1, fun x hx => ?_, fun x hx p hp => ?_, ?_, rowG h.ln gr (fun q e e' => ?_), rowG h.gs gr (fun q e e' => ?_), ?_⟩, gr⟩
  · injection e with e; subst e; exact hA.is _ e' hb
  · obtain ⟨y, hy, e1, e2, e3, e4⟩ := hmem x hx
    rw [e1, e2, e3, e4]
    exact rowG (h.fl y hy) gr (fun q e e' => by injection e with e; subst e; exact hA.sx _ (List.mem_map.2 ⟨y, hy, rfl⟩) _ hb e')
  · obtain ⟨y, hy, _, _, _, e4⟩ := hmem x hx
    rw [e4] at hp
    exact h.fls y hy p hp
  · show svs (M.xs.set k _) = v.sb.set k s'
    rw [← h.sv]
    simp only [svs, List.map_set]
  · injection e with e; subst e; exact hA.sl _ hb e'
  · injection e with e; subst e; exact hA.sg _ hb e'
  · rw [blkR_set hk]; exact h.apt
theorem RRow.item {B : Nat} {w : World} {M : Rm} {v : Rv} {i : Nat} (h : RRow B w M v) (hi : i < M.i) : ∃ bi, M.ia = some ⟨bi, 0, none⟩ ∧ v.it.length = M.i ∧ w.cell? ⟨bi, i * 3, none⟩ = some (.int .i64 (qg v.it i).1) ∧ w.cell? ⟨bi, i * 3 + 1, none⟩ = some (.int .i64 (qg v.it i).2.1) ∧ w.cell? ⟨bi, i * 3 + 2, none⟩ = some (.string (qg v.it i).2.2) := by
  obtain ⟨hl, ⟨e, _⟩ | ⟨g', c', cur, e, hB, hg, hc, hm, hs, ht⟩⟩ := h.it
  · have : M.i = 0 := by injection e
    omega
  · injection e with e1 e2 e3
    have hlen : v.it.length = M.i := by rw [length_qflat] at hl; omega
    have key : ∀ r, r < 3 → w.cell? ⟨g', i * 3 + r, none⟩ = (qflat v.it)[i * 3 + r]? := fun r hr => by
      rw [cell_of_row w g' (i * 3 + r) cur _ (0, 0) hg, ← ht, List.getElem?_take_of_lt (by omega), Array.getElem?_toList]
    refine ⟨g', e1, hlen, ?_, ?_, ?_⟩
    · have := key 0 (by omega); rw [qflat_at _ _ _ (by omega) (by omega)] at this; exact this
    · have := key 1 (by omega); rw [qflat_at _ _ _ (by omega) (by omega)] at this; exact this
    · have := key 2 (by omega); rw [qflat_at _ _ _ (by omega) (by omega)] at this; exact this
theorem BoxL.setAll {N : Nat} {vs us : List Value} {w : World} (h : BoxL N vs w) (hl : us.length = vs.length) : BoxL N us (setL w N 0 us) :=
  ⟨by rw [setL_size]; exact h.lt, fun i hi => by
    have k := setL_same (g := N) (vs := us) (w := w) (o := 0) (fun j hj => ⟨_, by rw [Nat.zero_add]; exact h.cs j (by omega)⟩) i hi
    rwa [Nat.zero_add] at k, fun o => by rw [setL_fr]; exact h.fr o⟩
theorem BoxL.setFar {N M o : Nat} {vs us : List Value} {w : World} (h : BoxL N vs w) (hM : N ≠ M) : BoxL N vs (setL w M o us) := h.of_block (setL_block hM) (by rw [setL_size]; exact h.lt)
def RdP (B : Nat) (w : World) (M : Rm) (v : Rv) (k : Nat) (e : Ending) (w' : World) : Prop := ∃ xs' : List Sa, e = .returned (.tuple #[.agg #[.int .i64 v.cp, .int .i64 v.se, .slice M.ia M.i M.ic, .int .i64 v.nx, .slice M.sa M.s M.sc, .slice M.la M.l M.lc, .slice M.ga M.g M.gc, .bool v.cl], .agg #[.int .i64 (readT v (v.sb.getD k Sb0)).kd, .int .i64 (readT v (v.sb.getD k Sb0)).ms.1, .int .i64 (readT v (v.sb.getD k Sb0)).ms.2.1, .string (readT v (v.sb.getD k Sb0)).ms.2.2, .int .i64 (readT v (v.sb.getD k Sb0)).ix, .int .i64 (readT v (v.sb.getD k Sb0)).n], .int .i64 (readC v (v.sb.getD k Sb0))]) ∧ RRow B w' { M with xs := xs' } (rdV v k) ∧ (∀ y, y ∈ xs' → ∃ x, x ∈ M.xs ∧ y.n = x.n) ∧ w.grownBy w' (Value.slice M.sa M.s M.sc).ownBlock ∧ blkR { M with xs := xs' } = blkR M
theorem RdP.mk {B : Nat} {w U w' : World} {M : Rm} {v : Rv} {k g : Nat} {e : Ending} {s' : Sb} {td : Td} {c : Int} (hR : RRow B w M v) (hg : M.sa = some ⟨g, 0, none⟩) (hk : k < M.xs.length) (hwU : Below w.heap.size w U) (hY : Below w.heap.size (setL U g (k * 7) (sC ⟨s', (sg M.xs k).a, (sg M.xs k).n, (sg M.xs k).c⟩)) w') (hf : s'.fl = (sg M.xs k).s.fl) (hs : readS v (v.sb.getD k Sb0) = s') (ht : readT v (v.sb.getD k Sb0) = td) (hc : readC v (v.sb.getD k Sb0) = c)
    (he : e = .returned (.tuple #[.agg #[.int .i64 v.cp, .int .i64 v.se, .slice M.ia M.i M.ic, .int .i64 v.nx, .slice M.sa M.s M.sc, .slice M.la M.l M.lc, .slice M.ga M.g M.gc, .bool v.cl], .agg #[.int .i64 td.kd, .int .i64 td.ms.1, .int .i64 td.ms.2.1, .string td.ms.2.2, .int .i64 td.ix, .int .i64 td.n], .int .i64 c])) : RdP B w M v k e w' := by
  subst ht hc
  have hput := (hR.keep hwU).putSub hg hk hf
  have hrow : RRow B w' { M with xs := M.xs.set k ⟨s', (sg M.xs k).a, (sg M.xs k).n, (sg M.xs k).c⟩ } (rdV v k) := by
    unfold rdV
    rw [hs]
    exact hput.1.far hY fun q hq => by rw [blkR_set hk] at hq; exact (hR.blk q hq).2
  refine ⟨_, he, hrow, fun y hy => ?_, ?_, blkR_set hk⟩
  · rcases List.mem_or_eq_of_mem_set hy with h' | h'
    · exact ⟨y, h', rfl⟩
    · exact ⟨sg M.xs k, sg_mem hk, by rw [h']⟩
  · have hgr := hput.2
    have hbk : (Value.slice M.sa M.s M.sc).ownBlock = some g := by rw [hg]; rfl
    rw [hbk]
    refine ⟨hY.os.trans (hgr.os.trans hwU.os), hY.tape.trans (hgr.tape.trans hwU.tape), hY.output.trans (hgr.output.trans hwU.output), Nat.le_trans hwU.size (Nat.le_trans hgr.size hY.size), fun j hj hne => ?_⟩
    rw [hY.block j hj, hgr.block j (Nat.lt_of_lt_of_le hj hwU.size) hne, hwU.block j hj]
end Go.Proofs.YtdboaoejlkkoeaaGreat
namespace Go.Proofs.YtdboaoejlkkoeaaGreat
open Go.RowKit Pl Il
theorem inL_short : ∀ (l sub : List UInt8), l.length < sub.length → inL sub l = false
  | [], sub, h => by
    cases sub with
    | nil => simp at h
    | cons _ _ => rfl
  | x :: l, sub, h => by
    unfold inL
    rw [inL_short l sub (by simp at h; omega), Bool.or_false, Bool.eq_false_iff]
    intro e
    have := (List.isPrefixOf_iff_prefix.1 e).length_le
    omega
theorem inL_step {l sub : List UInt8} {i : Nat} (h : ¬ sub.isPrefixOf (l.drop i) = true) : inL sub (l.drop i) = inL sub (l.drop (i + 1)) := by
  rcases Nat.lt_or_ge i l.length with hi | hi
  · have e : inL sub (l.drop i) = (sub.isPrefixOf (l[i] :: l.drop (i + 1)) || inL sub (l.drop (i + 1))) := by
      conv => lhs; rw [List.drop_eq_getElem_cons hi]
      rfl
    rw [List.drop_eq_getElem_cons hi] at h
    rw [e, Bool.eq_false_iff.2 h, Bool.false_or]
  · rw [List.drop_of_length_le hi, List.drop_of_length_le (by omega)]
theorem inL_hit {l sub : List UInt8} (h : sub.isPrefixOf l = true) : inL sub l = true := by
  cases l with
  | nil =>
    cases sub with
    | nil => rfl
    | cons _ _ => simp at h
  | cons x l => unfold inL; simp [h]
theorem ext_drop (s : ByteArray) (i k : Nat) : (s.extract i (i + k)).toList = (s.toList.drop i).take k := by
  rw [ByteArray.toList_eq, ByteArray.toList_eq, ByteArray.data_extract, Array.toList_extract]
  simp [List.extract]
theorem pre_eq {s t : ByteArray} {i : Nat} : ((s.extract i (i + t.size)).toList == t.toList) = t.toList.isPrefixOf (s.toList.drop i) := by
  have hl : t.toList.length = t.size := by rw [ByteArray.toList_eq]; rfl
  rw [ext_drop, Bool.eq_iff_iff, List.isPrefixOf_iff_prefix, List.prefix_iff_eq_take, hl]
  simp only [beq_iff_eq]
  exact eq_comm
set_option maxHeartbeats 1000000 in
theorem l8Holds_any (s t : ByteArray) (w : World) (hs : s.size ≤ 40) (ht : t.size ≤ 10) :
    Calls Tryz.prog 176 #[.string s, .string t] w fun e w' => e = .returned (.bool (inL t.toList s.toList)) ∧ w' = w := by
  go_enter Tryz.func176, Tryz.ntmps176
  go_wp2
  go_loop [5] (fun x => ∃ i : Nat, i ≤ s.size + 1 ∧ x = .int .i64 i ∧ inL t.toList (s.toList.drop i) = inL t.toList s.toList ∧ (0 < i → 0 < t.size)) (fun x => s.size + 1 - (intOf x).toNat)
  case atStart => exact ⟨0, Nat.zero_le _, rfl, rfl, fun h => by omega⟩
  case round =>
    obtain ⟨i, hi, rfl, hp, hpos⟩ := hrel
    have hl : s.toList.length = s.size := by rw [ByteArray.toList_eq]; rfl
    have hl' : t.toList.length = t.size := by rw [ByteArray.toList_eq]; rfl
    have HP := hidOf hp
    have HL := hidOf (And.intro hl hl')
    clear hp hl hl'
    by_cases hle : i + t.size ≤ s.size
    · have h1 : (i : Int) + (t.size : Int) ≤ (s.size : Int) := by omega
      have hpe := @pre_eq s t i
      cases hq : t.toList.isPrefixOf (s.toList.drop i)
      · rw [hq] at hpe
        have HQ := hidOf (inL_step (l := s.toList) (sub := t.toList) (i := i) (by rw [hq]; simp))
        have HN : 0 < t.size := by
          rcases Nat.eq_zero_or_pos t.size with h0 | h0
          · have : t.toList = [] := List.length_eq_zero_iff.1 (by rw [HL.out.2, h0])
            rw [this] at hq
            simp at hq
          · exact h0
        clear hq
        go_wp2
        go_round
        case rel => exact ⟨i + 1, by omega, by go_num, by rw [← HP.out, HQ.out], fun _ => HN⟩
        case measure => simp [intOf]; omega
      · rw [hq] at hpe
        have HQ := hidOf (inL_hit hq)
        clear hq
        go_wp2
        go_ret
        exact ⟨rbool (by rw [← HP.out, HQ.out]), rfl⟩
    · have h1 : ¬ (i : Int) + (t.size : Int) ≤ (s.size : Int) := by omega
      have HQ := hidOf (inL_short (s.toList.drop i) t.toList (by rw [List.length_drop, HL.out.1, HL.out.2]; omega))
      go_wp2
      go_ret
      exact ⟨rbool (by rw [← HP.out, HQ.out]), rfl⟩
theorem okB_two {k n : Int} {s : ByteArray} (h : okB k n s = true) : k = 1 ∨ k = 2 ∧ s.size ≤ 40 := by
  by_cases h1 : k = 1
  · exact .inl h1
  · by_cases h2 : k = 2
    · subst h2
      simp [okB, plainB] at h
      exact .inr ⟨rfl, h.2.1⟩
    · simp [okB, h1, h2] at h
theorem ok_67 {op n : Int} {t : ByteArray} (h : okTm (op, n, t) = true) (ho : op = 6 ∨ op = 7) : t.size ≤ 10 := by
  rcases ho with rfl | rfl
  · simp [okTm, partB] at h; omega
  · simp [okTm, partB] at h; omega
set_option maxHeartbeats 4000000 in
theorem l8Says_any (t : Tm) (k n : Int) (s : ByteArray) (w : World) (hok : okTm t = true) (hc : cntM t.1 = 0) (hm : okB k n s = true) :
    Calls Tryz.prog 148 #[.agg #[.int .i64 t.1, .int .i64 t.2.1, .string t.2.2], .agg #[.int .i64 k, .int .i64 n, .string s]] w fun e w' => e = .returned (.bool (leafP t (bdOf k n s))) ∧ Below w.heap.size w w' := by
  obtain ⟨op, num, t⟩ := t
  have h := leaf_ops hok hc
  simp only at h ⊢
  have hb : ∀ op : Int, Below w.heap.size w ((w.alloc (.cells #[.int .i64 op, .int .i64 num, .string t] 132)).alloc (.cells #[.int .i64 k, .int .i64 n, .string s] 30)) := fun _ => bl_alloc (bl_alloc (Below.refl _ _) _) _
  rcases okB_two hm with rfl | ⟨rfl, hs⟩
  · have HB := fun op => hidOf (hb op)
    have h5 : op = 5 → ¬ num = 0 ∧ ¬ num = -1 := fun e => by subst e; have := ok_5 hok; omega
    clear hb hm hok hc
    rcases h with rfl | rfl | rfl | rfl | rfl | rfl | rfl
    all_goals (try (obtain ⟨n0, n1⟩ := h5 rfl))
    all_goals clear h5
    all_goals go_enter Tryz.func148, Tryz.ntmps148
    all_goals go_wp2_with fail
    all_goals (try go_quiet (fail))
    all_goals (try go_wp2)
    all_goals (try go_ret)
    all_goals first | (refine ⟨rbool ?_, (HB _).out⟩; simp [leafP, bdOf]; done) | (refine ⟨rbool ?_, bl_drewN (HB _).out _⟩; simp [leafP, bdOf]; done) | (refine ⟨rbool ?_, (HB _).out⟩; simp [leafP, bdOf]; rw [Bool.eq_iff_iff]; simp)
  · have HB := fun op => hidOf (hb op)
    have ht : op = 6 ∨ op = 7 → t.size ≤ 10 := fun e => ok_67 hok e
    clear hb hm hok hc
    rcases h with rfl | rfl | rfl | rfl | rfl | rfl | rfl
    iterate 5
      · clear ht
        go_enter Tryz.func148, Tryz.ntmps148
        go_wp2_with fail
        (try go_ret)
        exact ⟨rbool (by simp [leafP, bdOf]), (HB _).out⟩
    · have ht' := ht (.inl rfl)
      clear ht
      by_cases hle : t.size ≤ s.size
      · have hd : decide ((t.size : Int) ≤ (s.size : Int)) = true := by simp; omega
        have hbe := beg_eq s t
        go_enter Tryz.func148, Tryz.ntmps148
        go_wp2_with fail
        go_quiet (fail)
        (try go_wp2)
        (try go_ret)
        exact ⟨rbool (by simp [leafP, bdOf]), bl_drewN (HB _).out _⟩
      · have hd : decide ((t.size : Int) ≤ (s.size : Int)) = false := by simp; omega
        have hbe := beg_no hle
        go_enter Tryz.func148, Tryz.ntmps148
        go_wp2_with fail
        go_quiet (fail)
        (try go_wp2)
        (try go_ret)
        exact ⟨rbool (by simp [leafP, bdOf, hbe]), bl_drewN (HB _).out _⟩
    · have ht' := ht (.inr rfl)
      have HH := fun u => hidOf (l8Holds_any s t u hs ht')
      clear ht
      go_enter Tryz.func148, Tryz.ntmps148
      go_wp2_with (first | (go_at_call 176; refine ((HH _).out).mono ?_; rintro e w1 ⟨rfl, rfl⟩))
      go_ret
      exact ⟨rbool (by simp [leafP, bdOf]), (HB _).out⟩
open Go.RowKit Pl Il
theorem fstep_append_ex {P : Program} {ops : Array Oper} {o : Oper} {a : Act} {w : World} {K : Act → World → Prop} {Q : Exit → Act → World → Prop} {E : Prop} {R : Value → World → Prop} (hgd : o.guard = none) (s x : Operand) (t : TypeId)
    (ho : o.op = .call { callee := .builtin .append, args := #[s, x], argTypes := #[t, t] }) (v u : Value) (hs : a.eval s = v) (hx : a.eval x = u)
    (hr : ∃ v' w', (Builtin.append_ #[t, t] o.type #[v, u]).run P w = .ok v' w' ∧ R v' w') (h : ∀ v' w', R v' w' → K (a.put o.dst v') w') :
    if Region.wanted o (yielded ops a.tmps) = true then Oper.wp P o a w K Q else E := by
  have hw : Region.wanted o (yielded ops a.tmps) = true := by simp [Region.wanted, hgd]
  rw [if_pos hw]
  obtain ⟨v', w', hrun, hR⟩ := hr
  unfold Oper.wp execOp
  simp only [ho, resolve, invoke, builtin, Sem.run_bind, Sem.run_pure, Result.andThen_ok, List.map_toArray, List.map_cons, List.map_nil, hs, hx, hrun]
  exact h v' w' hR
theorem fstep_append_run {P : Program} {ops : Array Oper} {o : Oper} {a : Act} {w w' : World} {K : Act → World → Prop} {Q : Exit → Act → World → Prop} {E : Prop} (hgd : o.guard = none) (s x : Operand) (t : TypeId)
    (ho : o.op = .call { callee := .builtin .append, args := #[s, x], argTypes := #[t, t] }) (v u v' : Value) (hs : a.eval s = v) (hx : a.eval x = u)
    (hr : (Builtin.append_ #[t, t] o.type #[v, u]).run P w = .ok v' w') (h : K (a.put o.dst v') w') :
    if Region.wanted o (yielded ops a.tmps) = true then Oper.wp P o a w K Q else E :=
  fstep_append_ex (R := fun v1 w1 => v1 = v' ∧ w1 = w') hgd s x t ho v u hs hx ⟨v', w', hr, rfl, rfl⟩ (fun _ _ h1 => by obtain ⟨rfl, rfl⟩ := h1; exact h)
theorem okF_at {f : List Tm} (h : okF f = true) {k : Nat} (hk : k < f.length) {m : Nat} (hm : goN (f.take k) 0 = some m) : okTm (qg f k) = true ∧ ¬ m < cntM (qg f k).1 := by
  constructor
  · cases e : okTm (qg f k) with
    | true => rfl
    | false => have := okF_stop hk hm (.inl e); rw [h] at this; cases this
  · intro e
    have := okF_stop hk hm (.inr e)
    rw [h] at this; cases this
def bitsV (ps : List Pd) (b : Bd) : List Value := ps.map fun p => .bool (p b)
theorem bits_len (ps : List Pd) (b : Bd) : (bitsV ps b).length = ps.length := by simp [bitsV]
theorem bits_snoc (ps : List Pd) (p : Pd) (b : Bd) : bitsV (ps ++ [p]) b = bitsV ps b ++ [.bool (p b)] := by simp [bitsV]
theorem infoBo : (Tryz.prog.info? 4).map (fun i => (i.zero, i.size, i.bytes)) = some (some (.bool false), 1, 1) := by kernel_rfl
theorem append_bit (B m : Nat) (v : Value) (vs : List Value) (x : Bool) (w : World) (ho : w.ownsRow B 4 1 v m vs) (hB : B ≤ w.heap.size) (hs : m + 1 ≤ 4194304) :
    ∃ (g cap : Nat) (w' : World), (Builtin.append_ #[162, 162] 162 #[v, .slice (some ⟨w.heap.size, 0, none⟩) 1 1]).run Tryz.prog (w.alloc (.cells #[.bool x] 4)) = .ok (.slice (some ⟨g, 0, none⟩) (m + 1) cap) w' ∧
      w'.ownsRow B 4 1 (.slice (some ⟨g, 0, none⟩) (m + 1) cap) (m + 1) (vs ++ [.bool x]) ∧ w.grownBy w' v.ownBlock := by
  obtain ⟨i, hi, hz0, hz1, hz2⟩ := info_parts infoBo
  have hb0 : Below w.heap.size w (w.alloc (.cells #[.bool x] 4)) := bl_alloc (Below.refl _ _) _
  have ho' : (w.alloc (.cells #[.bool x] 4)).ownsRow B 4 1 v m vs := ho.alloc _
  obtain ⟨g, c, w', hr, hown, hg, _, _⟩ := run_append_lies (P := Tryz.prog) (w.alloc (.cells #[.bool x] 4)) 162 162 B 4 i _ 1 1 Tryz.underlying162 hi hz0 hz1 hz2 rfl (by omega) v m _ ho' ⟨w.heap.size, 0, none⟩ 1 1 [.bool x] (by simp)
    (fun j u h => by
      have hj : j = 0 := by
        have := (List.getElem?_eq_some_iff.1 h).1
        simp at this; omega
      subst hj
      simp at h
      subst h
      rw [Addr.add_lit]; simp)
    (fun u hu => by
      simp at hu
      subst hu
      rfl) (by omega) (by unfold maxLen; omega) (by omega) (by simp; omega) _ rfl
  refine ⟨g, c, w', hr, hown, ?_⟩
  exact ⟨hg.os.trans hb0.os, hg.tape.trans hb0.tape, hg.output.trans hb0.output, Nat.le_trans hb0.size hg.size, fun k hk hne => (hg.block k (Nat.lt_of_lt_of_le hk hb0.size) hne).trans (hb0.block k hk)⟩
abbrev LeftS (b o M : Nat) (z : Tm) (k n : Int) (s : ByteArray) (u0 w : World) : Prop :=
  w.cell? ⟨b, o, none⟩ = some (.int .i64 z.1) ∧ w.cell? ⟨b, o + 1, none⟩ = some (.int .i64 z.2.1) ∧ w.cell? ⟨b, o + 2, none⟩ = some (.string z.2.2) ∧ w.cell? ⟨M, 0, none⟩ = some (.int .i64 k) ∧ w.cell? ⟨M, 1, none⟩ = some (.int .i64 n) ∧ w.cell? ⟨M, 2, none⟩ = some (.string s) ∧ Below u0.heap.size u0 w
theorem LeftS.keep {b o M : Nat} {z : Tm} {k n : Int} {s : ByteArray} {u0 w w' : World} (h : LeftS b o M z k n s u0 w) (hb : Below u0.heap.size w w') (hl : b < u0.heap.size) (hl' : M < u0.heap.size) : LeftS b o M z k n s u0 w' := by
  obtain ⟨h0, h1, h2, h3, h4, h5, h6⟩ := h
  exact ⟨by rw [hb.cell (p := ⟨b, o, none⟩) hl]; exact h0, by rw [hb.cell (p := ⟨b, o + 1, none⟩) hl]; exact h1, by rw [hb.cell (p := ⟨b, o + 2, none⟩) hl]; exact h2, by rw [hb.cell (p := ⟨M, 0, none⟩) hl']; exact h3, by rw [hb.cell (p := ⟨M, 1, none⟩) hl']; exact h4, by rw [hb.cell (p := ⟨M, 2, none⟩) hl']; exact h5, h6.trans hb⟩
theorem rowB_keep {B : Nat} {w w' : World} {v : Value} {n : Nat} {t : TypeId} {xs : List Value} (h : w.ownsRow B t 1 v n xs) (hb : Below w.heap.size w w') : w'.ownsRow B t 1 v n xs := by
  refine h.kept (row := none) ⟨hb.os, hb.tape, hb.output, hb.size, fun k hk _ => hb.block k hk⟩ ?_
  cases v.ownBlock with
  | none => exact .inl rfl
  | some _ => exact .inr (by simp)
theorem pd_snoc {ps : List Pd} (h : 0 < ps.length) : ∃ qs p, ps = qs ++ [p] := by
  have hne : ps ≠ [] := by rintro rfl; simp at h
  exact ⟨ps.dropLast, ps.getLast hne, (List.dropLast_concat_getLast hne).symm⟩
theorem step8 {z : Tm} (qs : List Pd) (p : Pd) (b : Bd) (h : z.1 = 8) : bitsV (stepP z (qs ++ [p])) b = bitsV qs b ++ [.bool (!(p b))] := by
  rw [stepP_8 h]
  have e : (qs ++ [p]).length - 1 = qs.length := by simp
  rw [e, List.take_left, pg_snoc_eq, bits_snoc]
theorem step9 {z : Tm} (qs : List Pd) (p q : Pd) (b : Bd) (h : z.1 = 9) : bitsV (stepP z (qs ++ [p] ++ [q])) b = bitsV qs b ++ [.bool (p b && q b)] := by
  rw [stepP_9 h]
  have e : (qs ++ [p] ++ [q]).length - 1 = (qs ++ [p]).length := by simp
  have e2 : (qs ++ [p] ++ [q]).length - 2 = qs.length := by simp
  rw [e, e2, List.append_assoc, List.take_left, ← List.append_assoc, pg_snoc_eq, bits_snoc, pg_snoc_lt (by simp), pg_snoc_eq, Bool.and_comm]
theorem step10 {z : Tm} (qs : List Pd) (p q : Pd) (b : Bd) (h : z.1 = 10) : bitsV (stepP z (qs ++ [p] ++ [q])) b = bitsV qs b ++ [.bool (p b || q b)] := by
  rw [stepP_10 h]
  have e : (qs ++ [p] ++ [q]).length - 1 = (qs ++ [p]).length := by simp
  have e2 : (qs ++ [p] ++ [q]).length - 2 = qs.length := by simp
  rw [e, e2, List.append_assoc, List.take_left, ← List.append_assoc, pg_snoc_eq, bits_snoc, pg_snoc_lt (by simp), pg_snoc_eq, Bool.or_comm]
theorem set_snoc {l : List Value} {x y : Value} : (l ++ [x]).set l.length y = l ++ [y] := by simp
theorem set_snoc2 {l : List Value} {x z y : Value} : (l ++ [x] ++ [z]).set l.length y = l ++ [y] ++ [z] := by
  rw [List.append_assoc, List.append_assoc, List.set_append_right _ _ (Nat.le_refl _)]
  simp
open Go.RowKit Pl Il
set_option maxRecDepth 100000 in
set_option maxHeartbeats 8000000 in
theorem l8Left_any (a : Option Addr) (N cap : Nat) (ts : List Tm) (k n : Int) (s : ByteArray) (w : World) (hI : TmAt w a N ts) (hok : okF ts = true) (hm : okB k n s = true) :
  Calls Tryz.prog 85 #[.slice a N cap, .agg #[.int .i64 k, .int .i64 n, .string s]] w fun e w' => e = .returned (.bool (passP ts (bdOf k n s))) ∧ Below w.heap.size w w' := by
 have hlen := hI.len
 have hN : N ≤ 12 := by rw [← hlen]; simp [okF] at hok; exact hok.1
 obtain ⟨W0, hW0⟩ : ∃ W, W = w.alloc (.cells #[.int .i64 k, .int .i64 n, .string s] 30) := ⟨_, rfl⟩
 have b0 : Below w.heap.size w W0 := by rw [hW0]; exact bl_alloc (Below.refl _ _) _
 have x0 : Box3 w.heap.size (.int .i64 k) (.int .i64 n) (.string s) W0 := by rw [hW0]; exact Box3.new w _ _ _ _
 have sW : W0.heap.size = w.heap.size + 1 := by rw [hW0]; simp
 obtain ⟨W1, hW1⟩ : ∃ W, W = W0.alloc (.cells #[] 4) := ⟨_, rfl⟩
 have b1 : Below W0.heap.size W0 W1 := by rw [hW1]; exact bl_alloc (Below.refl _ _) _
 have oW : W1.ownsRow W0.heap.size 4 1 (.slice (some ⟨W0.heap.size, 0, none⟩) 0 0) 0 [] := by rw [hW1]; exact World.ownsRow_made W0 #[] 0 (Nat.le_refl _) (by unfold maxLen; omega) (by simp)
 have HR := hidOf (hI.keep b0).row
 have HX := hidOf x0
 have HB0 := hidOf b0
 have HO := hidOf (And.intro oW b1)
 have HOK := hidOf hok
 have HM := hidOf hm
 have HL := hidOf hlen
 have HSW := hidOf sW
 generalize hbd : bdOf k n s = bd
 have HBD := hidOf hbd
 clear hI b0 x0 b1 oW hok hm hlen hbd sW
 go_enter Tryz.func85, Tryz.ntmps85
 go_wp2_with fail
 rw [← hW0, ← hW1, ← HSW.out]
 clear hW0 hW1
 go_loopw [5, 6] (fun v i wr => ∃ (j m : Nat) (g c : Nat), j ≤ N ∧ i = .int .i64 j ∧ v = .slice (some ⟨g, 0, none⟩) m c ∧ goN (ts.take j) 0 = some m ∧ wr.ownsRow W0.heap.size 4 1 (.slice (some ⟨g, 0, none⟩) m c) m (bitsV (runP (ts.take j)) bd) ∧ Below W0.heap.size W0 wr) (fun _ i _ => N - (intOf i).toNat)
 case atStart => exact ⟨0, 0, _, _, Nat.zero_le _, rfl, rfl, rfl, HO.out.1, HO.out.2⟩
 case round =>
  rename_i wr
  obtain ⟨j, m, g, c, hj, rfl, rfl, hgo, ho, hB⟩ := hrel
  have hw0 : w.heap.size < W0.heap.size := by rw [HSW.out]; omega
  have hpl := runP_len (f := ts) (k := j) (by rw [HL.out]; exact hj) hgo
  have hgc : W0.heap.size ≤ g ∧ g < wr.heap.size := ho.lt g rfl
  have hmc : m ≤ c := by
   obtain ⟨_, ⟨h0, _⟩ | ⟨g', cap', cur, hv, _, _, hc', _⟩⟩ := id ho
   ·cases h0
   ·cases hv; exact hc'
  clear HO
  by_cases hlt : j < N
  ·have hjl : j < ts.length := by rw [HL.out]; exact hlt
   obtain ⟨hok, hcn⟩ := okF_at HOK.out hjl hgo
   have hstep := goN_step hjl hgo hok hcn
   have hrun := runP_step hjl
   have hm12 : m ≤ 12 := by have := goN_le _ _ _ hgo; simp at this; omega
   obtain hr | ⟨b, off, rfl, hb, hcell⟩ := HR.out
   ·omega
   obtain ⟨q0, q1, q2⟩ := hcell j hlt
   obtain ⟨z, hz⟩ : ∃ z, qg ts j = z := ⟨_, rfl⟩
   rw [hz] at q0 q1 q2 hok hcn hstep hrun
   have hS0 : LeftS b (off + j * 3) w.heap.size z k n s W0 W0 := ⟨q0, q1, q2, HX.out.c0, HX.out.c1, HX.out.c2, Below.refl _ _⟩
   have hS := hS0.keep hB hb hw0
   obtain ⟨t0, t1, t2, y0, y1, y2, _⟩ := id hS
   have HGO := hidOf (And.intro hstep hrun)
   have Hz := hidOf hz
   clear hz hcell q0 q1 q2 hS0 hstep hrun
   obtain ⟨ps, hps⟩ : ∃ ps, runP (ts.take j) = ps := ⟨_, rfl⟩
   rw [hps] at ho hpl HGO
   by_cases h8 : z.1 = 8
   ·have hc1 : 1 ≤ m := by rw [h8] at hcn; have e : cntM 8 = 1 := rfl; omega
    obtain ⟨qs, p, rfl⟩ := pd_snoc (ps := ps) (by omega)
    have hql : m = qs.length + 1 := by rw [← hpl]; simp
    subst hql
    rw [bits_snoc] at ho
    have hx : wr.cell? ⟨g, qs.length, none⟩ = some (.bool (p bd)) := by rw [ho.cellAt qs.length (by omega)]; simp [bitsV]
    have hfx : ∀ o, wr.frozen? ⟨g, o, none⟩ = false := ho.frozenAt
    have ho2 := (ho.stored qs.length (.bool (!(p bd)))).1
    have e1 := set_snoc (l := bitsV qs bd) (x := .bool (p bd)) (y := .bool (!(p bd)))
    rw [bits_len] at e1
    rw [e1, ← step8 qs p bd h8] at ho2
    have hB2 : Below W0.heap.size W0 (wr.setCell ⟨g, qs.length, none⟩ (.bool (!(p bd)))) := hB.setCell (p := ⟨g, qs.length, none⟩) hgc.1 _
    have HO2 := hidOf (And.intro ho2 hB2)
    have e2 : ((qs.length + 1 : Nat) : Int) - 1 = (qs.length : Int) := by omega
    have hcz : cntM z.1 = 1 := by rw [h8]; rfl
    rw [hcz] at HGO
    rw [h8] at t0
    clear ho ho2 hB2 hB hS hcn hok h8 e1
    go_wp2
    go_roundw
    case rel => exact ⟨j + 1, qs.length + 1, g, c, by omega, by go_num, rfl, HGO.out.1, by rw [HGO.out.2]; exact HO2.out.1, HO2.out.2⟩
    case measure => simp [intOf]; omega
   by_cases h9 : z.1 = 9
   ·have hc1 : 2 ≤ m := by rw [h9] at hcn; have e : cntM 9 = 2 := rfl; omega
    obtain ⟨qs1, q, rfl⟩ := pd_snoc (ps := ps) (by omega)
    obtain ⟨qs, p, rfl⟩ := pd_snoc (ps := qs1) (by simp at hpl; omega)
    have hql : m = qs.length + 1 + 1 := by rw [← hpl]; simp
    subst hql
    rw [bits_snoc, bits_snoc] at ho
    have hx : wr.cell? ⟨g, qs.length, none⟩ = some (.bool (p bd)) := by rw [ho.cellAt qs.length (by omega)]; simp [bitsV]
    have hx2 : wr.cell? ⟨g, qs.length + 1, none⟩ = some (.bool (q bd)) := by rw [ho.cellAt (qs.length + 1) (by omega)]; simp [bitsV]
    have hfx : ∀ o, wr.frozen? ⟨g, o, none⟩ = false := ho.frozenAt
    have ho2 := (ho.stored qs.length (.bool (p bd && q bd))).1
    have e1 := set_snoc2 (l := bitsV qs bd) (x := .bool (p bd)) (z := .bool (q bd)) (y := .bool (p bd && q bd))
    rw [bits_len] at e1
    rw [e1, ← step9 qs p q bd h9] at ho2
    have hl3 : (bitsV (stepP z (qs ++ [p] ++ [q])) bd).length = (qs.length + 1) * 1 := by rw [step9 qs p q bd h9]; simp [bitsV]
    have ho3 := ownsRow_pop hl3 ho2
    have hB2 : Below W0.heap.size W0 (wr.setCell ⟨g, qs.length, none⟩ (.bool (p bd && q bd))) := hB.setCell (p := ⟨g, qs.length, none⟩) hgc.1 _
    have HO2 := hidOf (And.intro ho3 hB2)
    have e2 : ((qs.length + 1 + 1 : Nat) : Int) - 1 = ((qs.length + 1 : Nat) : Int) := by omega
    have e3 : ((qs.length + 1 + 1 : Nat) : Int) - 2 = (qs.length : Int) := by omega
    have hcz : cntM z.1 = 2 := by rw [h9]; rfl
    rw [hcz] at HGO
    rw [h9] at t0
    clear ho ho2 ho3 hB2 hB hS hcn hok h9 e1 hl3
    cases hpv : p bd
    all_goals rw [hpv] at hx HO2
    all_goals go_wp2
    all_goals go_roundw
    all_goals first
     | exact ⟨j + 1, qs.length + 1, g, c, by omega, by go_num, rfl, HGO.out.1, by rw [HGO.out.2]; exact HO2.out.1, HO2.out.2⟩
     | (simp [intOf]; omega)
   by_cases h10 : z.1 = 10
   ·have hc1 : 2 ≤ m := by rw [h10] at hcn; have e : cntM 10 = 2 := rfl; omega
    obtain ⟨qs1, q, rfl⟩ := pd_snoc (ps := ps) (by omega)
    obtain ⟨qs, p, rfl⟩ := pd_snoc (ps := qs1) (by simp at hpl; omega)
    have hql : m = qs.length + 1 + 1 := by rw [← hpl]; simp
    subst hql
    rw [bits_snoc, bits_snoc] at ho
    have hx : wr.cell? ⟨g, qs.length, none⟩ = some (.bool (p bd)) := by rw [ho.cellAt qs.length (by omega)]; simp [bitsV]
    have hx2 : wr.cell? ⟨g, qs.length + 1, none⟩ = some (.bool (q bd)) := by rw [ho.cellAt (qs.length + 1) (by omega)]; simp [bitsV]
    have hfx : ∀ o, wr.frozen? ⟨g, o, none⟩ = false := ho.frozenAt
    have ho2 := (ho.stored qs.length (.bool (p bd || q bd))).1
    have e1 := set_snoc2 (l := bitsV qs bd) (x := .bool (p bd)) (z := .bool (q bd)) (y := .bool (p bd || q bd))
    rw [bits_len] at e1
    rw [e1, ← step10 qs p q bd h10] at ho2
    have hl3 : (bitsV (stepP z (qs ++ [p] ++ [q])) bd).length = (qs.length + 1) * 1 := by rw [step10 qs p q bd h10]; simp [bitsV]
    have ho3 := ownsRow_pop hl3 ho2
    have hB2 : Below W0.heap.size W0 (wr.setCell ⟨g, qs.length, none⟩ (.bool (p bd || q bd))) := hB.setCell (p := ⟨g, qs.length, none⟩) hgc.1 _
    have HO2 := hidOf (And.intro ho3 hB2)
    have e2 : ((qs.length + 1 + 1 : Nat) : Int) - 1 = ((qs.length + 1 : Nat) : Int) := by omega
    have e3 : ((qs.length + 1 + 1 : Nat) : Int) - 2 = (qs.length : Int) := by omega
    have hcz : cntM z.1 = 2 := by rw [h10]; rfl
    rw [hcz] at HGO
    rw [h10] at t0
    clear ho ho2 ho3 hB2 hB hS hcn hok h10 e1 hl3
    cases hpv : p bd
    all_goals rw [hpv] at hx HO2
    all_goals go_wp2
    all_goals go_roundw
    all_goals first
     | exact ⟨j + 1, qs.length + 1, g, c, by omega, by go_num, rfl, HGO.out.1, by rw [HGO.out.2]; exact HO2.out.1, HO2.out.2⟩
     | (simp [intOf]; omega)
   have hc0 : cntM z.1 = 0 := by simp [cntM, h8, h9, h10]
   have e8 : (z.1 == 8) = false := by simp [h8]
   have e9 : (z.1 == 9) = false := by simp [h9]
   have e10 : (z.1 == 10) = false := by simp [h10]
   have HC := fun u => hidOf (l8Says_any z k n s u hok hc0 HM.out)
   rw [HBD.out] at HC
   rw [hc0] at HGO
   have HO1 := hidOf ho
   clear ho hok hcn h8 h9 h10
   go_wp2_with fail
   refine wp_region_noPanic ?_
   refine wp_region_held_drew (S := fun w' => LeftS b (off + j * 3) w.heap.size z k n s W0 w') (by kernel_rfl) (hS.keep (Below.refl _ _).drew hb hw0) (fun hHeld => ?_)
   refine tK 0 ?_ rfl (by kernel_rfl) (by rfl) ?_ (by assumption) (fun _ _ _ h => h) ?_
   case refine_2 => (intro w hSw; (try dsimp only at hSw); go_simp; try with_reducible rfl)
   simp only [Act.put, List.getElem_toArray, List.getElem_cons_zero, List.setIfInBounds_toArray, List.set_cons_zero, List.set_cons_succ]
   refine tR 1 ?_
   refine tR 2 ?_
   refine tR 3 ?_
   refine tR 4 ?_
   refine tR 5 ?_
   refine tW 6 (fun K hK => ?_)
   go_simp
   refine ((HC _).out).mono ?_
   rintro e w1 ⟨rfl, hb1⟩
   have hb1' : Below wr.heap.size wr w1 := (Below.refl _ _).drew.trans hb1
   have hS1 : LeftS b (off + j * 3) w.heap.size z k n s W0 w1 := hHeld.keep (hb1.mono hHeld.2.2.2.2.2.2.size) hb hw0
   have ho1 := rowB_keep HO1.out hb1'
   obtain ⟨g3, c3, w3, hr3, ho3, hg3⟩ := append_bit W0.heap.size m _ _ (leafP z bd) w1 ho1 hS1.2.2.2.2.2.2.size (by omega)
   have hB3 : Below W0.heap.size W0 w3 := hS1.2.2.2.2.2.2.grown hg3 hS1.2.2.2.2.2.2.size (fun q hq => (ho1.lt q hq).1)
   have hS3 : LeftS b (off + j * 3) w.heap.size z k n s W0 w3 := hS1.keep ((Below.refl W0.heap.size w1).grown hg3 hS1.2.2.2.2.2.2.size (fun q hq => (ho1.lt q hq).1)) hb hw0
   have hSa : LeftS b (off + j * 3) w.heap.size z k n s W0 (w1.alloc (.cells #[.bool (leafP z bd)] 4)) := hS1.keep ((Below.refl W0.heap.size w1).alloc hS1.2.2.2.2.2.2.size _) hb hw0
   rw [← bits_snoc, ← stepP_0 hc0] at ho3
   have HO3 := hidOf (And.intro ho3 hB3)
   go_wp2_with fail
   refine hK.out _ _ hS1 (fun hHeld => ?_)
   clear hK K
   refine tW 7 (fun K hK => ?_)
   go_simp
   refine hK.out _ _ hSa (fun hHeld => ?_)
   clear hK K
   refine tW 8 (fun K hK => ?_)
   refine fstep_append_run (by rfl) _ _ 162 (by rfl) (.slice (some ⟨g, 0, none⟩) m c) (.slice (some ⟨w1.heap.size, 0, none⟩) 1 1) _ (by rfl) (by rfl) hr3 ?_
   refine hK.out _ _ hS3 (fun hHeld => ?_)
   clear hK K
   simp only [Act.put, zGA, zG0, zGC, zSA, zS0, zSC]
   refine tR 9 ?_
   refine wpAnyH_done (by kernel_rfl) ?_ _
   refine NoPanic.normal ?_
   clear hHeld hS1 hS3 hSa ho1 ho3 hg3 hr3 hB3 hb1 hb1' HC HO1 t0 t1 t2 y0 y1 y2 hS
   go_wp2
   go_roundw
   case rel => exact ⟨j + 1, m + 1, g3, c3, by omega, by go_num, rfl, HGO.out.1, by rw [HGO.out.2]; exact HO3.out.1, HO3.out.2⟩
   case measure => simp [intOf]; omega
  ·obtain rfl : j = N := by omega
   have hT : ts.take j = ts := List.take_of_length_le (by rw [HL.out]; exact Nat.le_refl _)
   rw [hT] at ho hgo hpl
   have HBf := hidOf (HB0.out.trans (hB.mono (Nat.le_of_lt hw0)))
   by_cases h0 : j = 0
   ·subst h0
    obtain rfl : ts = [] := List.length_eq_zero_iff.1 HL.out
    clear ho hB
    go_wp2
    go_ret
    exact ⟨rfl, HBf.out⟩
   ·have hne : ts ≠ [] := by rintro rfl; have := HL.out; simp at this; omega
    have hpos : 1 ≤ m := goN_pos (f := ts) (k := j) (by omega) (by rw [HL.out]; exact Nat.le_refl _) (by rw [hT]; exact hgo)
    have e0 : ((j : Int) == 0) = false := by simp; omega
    have hx : wr.cell? ⟨g, 0, none⟩ = some (.bool (pg (runP ts) 0 bd)) := by
     rw [ho.cellAt 0 (by omega)]
     have : 0 < (runP ts).length := by omega
     simp [bitsV, pg, List.getD, List.getElem?_eq_getElem this]
    have HP := hidOf (passP_end hne)
    clear ho hB hT
    go_wp2
    go_ret
    exact ⟨rbool (by rw [HP.out]), HBf.out⟩
end Go.Proofs.YtdboaoejlkkoeaaGreat
namespace Go.Proofs.YtdboaoejlkkoeaaGreat
open Go.RowKit Go.Maps Pl Il
theorem trim_same (v : Rv) : (trimR v).cp = v.cp ∧ (trimR v).se = v.se ∧ (trimR v).nx = v.nx ∧ (trimR v).cl = v.cl := by
  unfold trimR
  split <;> exact ⟨rfl, rfl, rfl, rfl⟩
end Go.Proofs.YtdboaoejlkkoeaaGreat
