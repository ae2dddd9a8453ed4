/-
  The program's ring: a message is sent
-/
import Derived.Test.YtihdglmiecifjaaGreatZRn23
namespace Go.Proofs.YtihdglmiecifjaaGreat
open Go.RowKit Go.Maps Pl Il
abbrev MsS (N : Nat) (m1 m2 : Int) (m3 : ByteArray) (u : World) : Prop := u.cell? ⟨N, 0, none⟩ = some (.int .i64 m1) ∧ u.cell? ⟨N, 1, none⟩ = some (.int .i64 m2) ∧ u.cell? ⟨N, 2, none⟩ = some (.string m3)
theorem MsS.of {N : Nat} {m1 m2 : Int} {m3 : ByteArray} {u : World} (h : BoxL N [.int .i64 m1, .int .i64 m2, .string m3] u) : MsS N m1 m2 m3 u := ⟨h.cs 0 (by simp), h.cs 1 (by simp), h.cs 2 (by simp)⟩
theorem sndB_bd (sb : List Sb) (m : Tm) (x y : Int) (h : ∀ s, s ∈ sb → 0 ≤ s.cu ∧ s.cu ≤ x ∧ 0 ≤ s.pa ∧ s.pa ≤ y) : ∀ l : List Int, ∀ s, s ∈ sndB sb m l → 0 ≤ s.cu ∧ s.cu ≤ x + l.length ∧ 0 ≤ s.pa ∧ s.pa ≤ y + l.length := by
  suffices h' : ∀ (l : List Int) (t : List Sb) (n : Nat), (∀ s, s ∈ t → 0 ≤ s.cu ∧ s.cu ≤ x + n ∧ 0 ≤ s.pa ∧ s.pa ≤ y + n) → ∀ s, s ∈ l.foldl (fun s id => if pasR (flAt sb id) m = true then s else bump s (atR sb id).toNat) t → 0 ≤ s.cu ∧ s.cu ≤ x + (n + l.length : Nat) ∧ 0 ≤ s.pa ∧ s.pa ≤ y + (n + l.length : Nat) from fun l s hs => by
    have := h' l sb 0 (fun s hs => by have := h s hs; omega) s hs
    rw [Nat.zero_add] at this
    exact this
  intro l
  induction l with
  | nil => intro t n ht s hs; exact ht s hs
  | cons id l ih =>
    intro t n ht s hs
    rw [List.foldl_cons] at hs
    have := ih _ (n + 1) (fun s hs => by
      split at hs
      · have := ht s hs; omega
      · by_cases hk : (atR sb id).toNat < t.length
        · rcases List.mem_or_eq_of_mem_set hs with h2 | h2
          · have := ht s h2; omega
          · have h3 : t.getD (atR sb id).toNat Sb0 ∈ t := by
              rw [List.getD, List.getElem?_eq_getElem hk, Option.getD_some]; exact List.getElem_mem _
            have h4 := ht _ h3
            rw [h2]
            show 0 ≤ (t.getD (atR sb id).toNat Sb0).cu + 1 ∧ (t.getD (atR sb id).toNat Sb0).cu + 1 ≤ _ ∧ 0 ≤ (t.getD (atR sb id).toNat Sb0).pa + 1 ∧ (t.getD (atR sb id).toNat Sb0).pa + 1 ≤ _
            omega
        · unfold bump at hs
          rw [List.set_eq_of_length_le (by omega)] at hs
          have := ht s hs; omega) s hs
    rw [List.length_cons]
    omega
theorem bump_put {sb : List Sb} {k : Nat} (hk : k < sb.length) : putV (putV sb k 2 ((sb.getD k Sb0).cu + 1)) k 5 ((sb.getD k Sb0).pa + 1) = bump sb k := by
  have e : putV sb k 2 ((sb.getD k Sb0).cu + 1) = sb.set k (subPut (sb.getD k Sb0) 2 ((sb.getD k Sb0).cu + 1)) := rfl
  rw [e, putV_set hk]
  rfl
structure SdL (B b : Nat) (A : Na) (P : Nat → Tm) (f : Nat) (v : Rv) (sa : Option Addr) (s sc : Nat) (ys : List Sa) (m1 m2 : Int) (m3 : ByteArray) (w : World) (K : Nat) (l : List Int) (ta : Option Addr) (tn tc : Nat) (za : Option Addr) (zn zc : Nat) (u : World) : Prop where
  body : ∃ ys', RBody B b A P f { v with sb := sndB v.sb (m1, m2, m3) l } sa s sc ys' u ∧ ys'.length = ys.length ∧ ∀ y, y ∈ ys' → ∃ x, x ∈ ys ∧ y.a = x.a ∧ y.n = x.n ∧ y.c = x.c
  box : BoxL w.heap.size [.int .i64 m1, .int .i64 m2, .string m3] u
  told : u.ownsRow K 3 1 (.slice ta tn tc) tn (intsV (sndT v.sb (m1, m2, m3) l))
  stay : u.ownsRow K 3 1 (.slice za zn zc) zn (intsV (sndS v.sb (m1, m2, m3) l))
  ap : ∀ q, (Value.slice ta tn tc).ownBlock = some q → (Value.slice za zn zc).ownBlock ≠ some q
  bel : Below B w u
  ge : K ≤ u.heap.size
theorem SdL.keep {B b : Nat} {A : Na} {P : Nat → Tm} {f : Nat} {v : Rv} {sa : Option Addr} {s sc : Nat} {ys : List Sa} {m1 m2 : Int} {m3 : ByteArray} {w : World} {K : Nat} {l : List Int} {ta : Option Addr} {tn tc : Nat} {za : Option Addr} {zn zc : Nat} {u u' : World} (h : SdL B b A P f v sa s sc ys m1 m2 m3 w K l ta tn tc za zn zc u) (hB : B ≤ u.heap.size) (hb : Below u.heap.size u u') : SdL B b A P f v sa s sc ys m1 m2 m3 w K l ta tn tc za zn zc u' := by
  obtain ⟨ys', h1, h2, h3⟩ := h.body
  exact ⟨⟨ys', h1.keep hb, h2, h3⟩, h.box.keep hb, ownsRow_keep h.told hb, ownsRow_keep h.stay hb, h.ap, h.bel.trans (hb.mono hB), Nat.le_trans h.ge hb.size⟩
def BlkK (b : Nat) (A : Na) (sa : Option Addr) (s sc : Nat) (ys : List Sa) (K : Nat) : Prop := b < K ∧ (∀ q, (Value.slice A.a A.n A.c).ownBlock = some q → q < K) ∧ (∀ q, (Value.slice A.a' A.n' A.c').ownBlock = some q → q < K) ∧ (∀ q, (Value.slice sa s sc).ownBlock = some q → q < K) ∧ ∀ x, x ∈ ys → ∀ q, (Value.slice x.a x.n x.c).ownBlock = some q → q < K
theorem BlkK.names {b : Nat} {A : Na} {sa : Option Addr} {s sc : Nat} {ys ys' : List Sa} {K : Nat} (h : BlkK b A sa s sc ys K) (hn : ∀ y, y ∈ ys' → ∃ x, x ∈ ys ∧ y.a = x.a ∧ y.n = x.n ∧ y.c = x.c) : BlkK b A sa s sc ys' K := ⟨h.1, h.2.1, h.2.2.1, h.2.2.2.1, fun y hy q e => by
  obtain ⟨x, hx, e1, e2, e3⟩ := hn y hy
  rw [e1, e2, e3] at e
  exact h.2.2.2.2 x hx q e⟩
theorem SdL.tellOne {B b : Nat} {A : Na} {P : Nat → Tm} {f : Nat} {v : Rv} {sa : Option Addr} {s sc : Nat} {ys : List Sa} {m1 m2 : Int} {m3 : ByteArray} {w : World} {K : Nat} {l : List Int} {ta : Option Addr} {tn tc : Nat} {za : Option Addr} {zn zc : Nat} {u u' : World} {g6 c6 : Nat} {id : Int} (h : SdL B b A P f v sa s sc ys m1 m2 m3 w K l ta tn tc za zn zc u) (hk : BlkK b A sa s sc ys K) (hKw : w.heap.size < K) (hBK : B ≤ K) (hq : pasR (flAt v.sb id) (m1, m2, m3) = true) (hg : u.grownBy u' (Value.slice ta tn tc).ownBlock) (ho : u'.ownsRow K 3 1 (.slice (some ⟨g6, 0, none⟩) (tn + 1) c6) (tn + 1) (intsV (sndT v.sb (m1, m2, m3) l ++ [id]))) (hl : (Value.slice ta tn tc).ownBlock = some g6 ∨ u.heap.size ≤ g6) : SdL B b A P f v sa s sc ys m1 m2 m3 w K (l ++ [id]) (some ⟨g6, 0, none⟩) (tn + 1) c6 za zn zc u' := by
  obtain ⟨ys', h1, h2, h3⟩ := h.body
  have hB : Below K u u' := (Below.refl K u).grown hg h.ge (fun q e => (row_lt h.told e).1)
  refine ⟨⟨ys', ?_, h2, h3⟩, h.box.below hB hKw, ?_, ?_, fun q e e' => ?_, h.bel.trans (hB.mono hBK), Nat.le_trans h.ge hg.size⟩
  · rw [sndB_snoc, if_pos hq]
    exact h1.belowB hB (hk.names h3)
  · rw [sndT_snoc, if_pos hq]
    exact ho
  · rw [sndS_snoc, if_pos hq]
    exact rowG h.stay hg (fun q e => h.ap q e)
  · have e2 : g6 = q := by simpa [Value.ownBlock] using e
    subst e2
    rcases hl with k | k
    · exact h.ap _ k e'
    · have := (row_lt h.stay e').2; omega
theorem SdL.stayOne {B b : Nat} {A : Na} {P : Nat → Tm} {f : Nat} {v : Rv} {sa : Option Addr} {s sc : Nat} {ys : List Sa} {m1 m2 : Int} {m3 : ByteArray} {w : World} {K : Nat} {l : List Int} {ta : Option Addr} {tn tc : Nat} {za : Option Addr} {zn zc : Nat} {u u2 u' : World} {g6 c6 g k : Nat} {id : Int} {ys3 : List Sa} (h : SdL B b A P f v sa s sc ys m1 m2 m3 w K l ta tn tc za zn zc u) (hk : BlkK b A sa s sc ys K) (hKw : w.heap.size < K) (hBK : B ≤ K) (hq : pasR (flAt v.sb id) (m1, m2, m3) = false) (hkk : (atR v.sb id).toNat = k) (hR : RBody B b A P f { v with sb := bump (sndB v.sb (m1, m2, m3) l) k } sa s sc ys3 u2) (hl3 : ys3.length = ys.length) (hn3 : ∀ y, y ∈ ys3 → ∃ x, x ∈ ys ∧ y.a = x.a ∧ y.n = x.n ∧ y.c = x.c) (hg2 : u.grownBy u2 (some g)) (hgK : g < K) (hgB : B ≤ g) (hgw : g ≠ w.heap.size)
    (hg : u2.grownBy u' (Value.slice za zn zc).ownBlock) (ho : u'.ownsRow K 3 1 (.slice (some ⟨g6, 0, none⟩) (zn + 1) c6) (zn + 1) (intsV (sndS v.sb (m1, m2, m3) l ++ [id]))) (hl : (Value.slice za zn zc).ownBlock = some g6 ∨ u2.heap.size ≤ g6) : SdL B b A P f v sa s sc ys m1 m2 m3 w K (l ++ [id]) ta tn tc (some ⟨g6, 0, none⟩) (zn + 1) c6 u' := by
  have hB : Below K u2 u' := (Below.refl K u2).grown hg (Nat.le_trans h.ge hg2.size) (fun q e => (row_lt h.stay e).1)
  have told2 := rowG h.told hg2 (fun q e e' => by injection e with e; subst e; have := (row_lt h.told e').1; omega)
  have stay2 := rowG h.stay hg2 (fun q e e' => by injection e with e; subst e; have := (row_lt h.stay e').1; omega)
  refine ⟨⟨ys3, ?_, hl3, hn3⟩, (h.box.grown hg2 (fun e => hgw (by injection e))).below hB hKw, ?_, ?_, fun q e e' => ?_, (h.bel.grown hg2 (Nat.le_trans hBK h.ge) (fun q e => by injection e with e; rw [← e]; exact hgB)).trans (hB.mono hBK), Nat.le_trans h.ge (Nat.le_trans hg2.size hg.size)⟩
  · rw [sndB_snoc, if_neg (by rw [hq]; simp), hkk]
    exact hR.belowB hB (hk.names hn3)
  · rw [sndT_snoc, if_neg (by rw [hq]; simp)]
    exact rowG told2 hg (fun q e e' => h.ap q e' e)
  · rw [sndS_snoc, if_neg (by rw [hq]; simp)]
    exact ho
  · have e2 : g6 = q := by simpa [Value.ownBlock] using e'
    subst e2
    rcases hl with k | k
    · exact h.ap _ e k
    · have := (row_lt told2 e).2; omega
theorem int_cell {B : Nat} {w : World} {a : Option Addr} {n c j : Nat} {xs : List Int} (h : w.ownsRow B 3 1 (.slice a n c) n (intsV xs)) (hj : j < n) : ∃ lb, a = some ⟨lb, 0, none⟩ ∧ w.cell? ⟨lb, j, none⟩ = some (.int .i64 (xs.getD j 0)) ∧ j < xs.length := by
  obtain ⟨hl, ⟨e, _⟩ | ⟨g', c', cur, e, hB, hg, hc, hm, hs, ht⟩⟩ := h
  · have : n = 0 := by injection e
    omega
  · injection e with e1 e2 e3
    have hx : j < xs.length := by simp [intsV] at hl; omega
    refine ⟨g', e1, ?_, hx⟩
    rw [cell_of_row w g' j cur _ (0, 0) hg, ← Array.getElem?_toList, ← List.getElem?_take_of_lt (by omega : j < n * 1), ht]
    simp [intsV, hx]
theorem at_line {v : Rv} {j : Nat} (h : okR restR v = true) (hj : j < v.ln.length) : ¬ atR v.sb (v.ln.getD j 0) < 0 := by
  have hr := h
  simp only [okR, restR, Bool.and_eq_true] at hr
  have hw := hr.2.2.2.2
  unfold waitTo at hw
  rw [List.all_eq_true] at hw
  have h1 := hw j (List.mem_range.2 (by omega))
  unfold waitAt at h1
  simp only [Bool.and_eq_true, decide_eq_true_eq] at h1
  have e2 : (v.ln ++ v.gs).getD j 0 = v.ln.getD j 0 := by
    simp only [List.getD_eq_getElem?_getD]
    rw [List.getElem?_append_left hj]
  rw [e2] at h1
  omega
theorem take_getD {xs : List Int} {j : Nat} (hj : j < xs.length) : xs.take (j + 1) = xs.take j ++ [xs.getD j 0] := by
  rw [List.take_succ_eq_append_getElem hj, List.getD, List.getElem?_eq_getElem hj, Option.getD_some]
theorem GOk.belowB {w u : World} {B : Nat} (h : GOk w) (hb : Below B w u) (hl : 0 < B) : GOk u := by
  obtain ⟨m, hm⟩ := h
  exact ⟨m, by rw [hb.cell (p := ⟨0, 0, none⟩) hl]; exact hm⟩
theorem ints_row {B : Nat} {w : World} {a : Option Addr} {n c : Nat} {xs : List Int} (h : w.ownsRow B 3 1 (.slice a n c) n (intsV xs)) : IntsAt w a n xs := by
  obtain ⟨a', c', e, ho⟩ := own_of h xs rfl
  injection e with e1 e2 e3
  subst e1
  exact ho.ints
theorem RBody.lists {B b : Nat} {A A' : Na} {P : Nat → Tm} {f : Nat} {v : Rv} {sa : Option Addr} {s sc : Nat} {ys : List Sa} {w w' : World} {ln' gs' : List Int} (h : RBody B b A P f v sa s sc ys w) (hW : WSt B b A' ln' gs' w') (hT : WTo B b w w') (hS : Shp b w w')
    (hq : ∀ q, ((Value.slice sa s sc).ownBlock = some q ∨ ∃ x, x ∈ ys ∧ (Value.slice x.a x.n x.c).ownBlock = some q) → w'.heap[q]? = w.heap[q]?) (hap : ∀ q, ((Value.slice A'.a A'.n A'.c).ownBlock = some q ∨ (Value.slice A'.a' A'.n' A'.c').ownBlock = some q) → (Value.slice sa s sc).ownBlock ≠ some q ∧ ∀ x, x ∈ ys → (Value.slice x.a x.n x.c).ownBlock ≠ some q) : RBody B b A' P f { v with ln := ln', gs := gs' } sa s sc ys w' where
  wst := hW
  rnd := by
    refine ⟨?_, fun j hj => ?_⟩
    · obtain ⟨cur, t, hg, hs⟩ := h.rnd.blk
      obtain ⟨cur', hg', hs'⟩ := hS cur t hg
      exact ⟨cur', t, hg', by omega⟩
    · obtain ⟨h1, h2, h3⟩ := h.rnd.pl j hj
      exact ⟨by rw [hT.cells _ (by omega)]; exact h1, by rw [hT.cells _ (by omega)]; exact h2, by rw [hT.cells _ (by omega)]; exact h3⟩
  c2 := by rw [hT.cells _ (by omega)]; exact h.c2
  fst := by rw [hT.cells _ (by omega)]; exact h.fst
  nxt := by rw [hT.cells _ (by omega)]; exact h.nxt
  c56 := by rw [hT.cells _ (by omega)]; exact h.c56
  c57 := by rw [hT.cells _ (by omega)]; exact h.c57
  c58 := by rw [hT.cells _ (by omega)]; exact h.c58
  srow := ⟨rowQ h.srow.sb fun q e => hq q (.inl e), fun x hx => rowQ (h.srow.fl x hx) fun q e => hq q (.inr ⟨x, hx, e⟩), h.srow.fls, h.srow.apt⟩
  sv := h.sv
  its := h.its
  sh := h.sh
  se := h.se
  few := h.few
  nb := h.nb
  ap := hap
theorem sd_close {B b : Nat} {A : Na} {P : Nat → Tm} {f : Nat} {v : Rv} {sa : Option Addr} {s sc : Nat} {ys : List Sa} {u w3 : World} {K : Nat} {tn : Nat} {za : Option Addr} {zn zc : Nat} {ln' td : List Int} {a3 : Option Addr} {c3 : Nat} (R : RBody B b A P f v sa s sc ys u) (hk : BlkK b A sa s sc ys K) (hBK : B ≤ K)
  (hz : u.ownsRow K 3 1 (.slice za zn zc) zn (intsV ln')) (hg3 : (u.setCell ⟨b, 0, none⟩ (.slice za zn zc)).grownBy w3 (Value.slice A.a' A.n' A.c').ownBlock) (ho3 : w3.ownsRow B 3 1 (.slice a3 (A.n' + tn) c3) (A.n' + tn) (intsV (v.gs ++ td))) (hl3 : ∀ q, (Value.slice a3 (A.n' + tn) c3).ownBlock = some q → (Value.slice A.a' A.n' A.c').ownBlock = some q ∨ u.heap.size ≤ q) (hKu : K ≤ u.heap.size) :
  RBody B b ⟨za, zn, zc, a3, A.n' + tn, c3⟩ P f { v with ln := ln', gs := v.gs ++ td } sa s sc ys (w3.setCell ⟨b, 1, none⟩ (.slice a3 (A.n' + tn) c3)) ∧ w3.cell? ⟨b, 1, none⟩ = some (.slice A.a' A.n' A.c') ∧ (∀ o, w3.frozen? ⟨b, o, none⟩ = false) ∧ Below B u (w3.setCell ⟨b, 1, none⟩ (.slice a3 (A.n' + tn) c3)) := by
 obtain ⟨hb0, hb1, hb2, hb3, hb4⟩ := hk
 have hzb : (Value.slice za zn zc).ownBlock ≠ some b := fun e => by have := (row_lt hz e).1; omega
 have hS2 : WSt B b { A with a := za, n := zn, c := zc } ln' v.gs (u.setCell ⟨b, 0, none⟩ (.slice za zn zc)) := R.wst.line (rowM hz hBK) hzb (fun q e e' => by have h1 := (row_lt hz e).1; have h2 := hb2 q e'; omega)
 have hT2 : WTo B b u (u.setCell ⟨b, 0, none⟩ (.slice za zn zc)) := (WTo.refl B b u).set R.wst.ge 0 (by omega) _
 obtain ⟨W2, hW2⟩ : ∃ W, u.setCell ⟨b, 0, none⟩ (.slice za zn zc) = W := ⟨_, rfl⟩
 have hsz2 : W2.heap.size = u.heap.size := by rw [← hW2]; simp
 have hSh2 : Shp b u W2 := by rw [← hW2]; exact Shp.set b 0 u _
 have hbk2 : ∀ q, q ≠ b → W2.heap[q]? = u.heap[q]? := fun q hq => by rw [← hW2]; exact Below.heap_setCell _ _ _ _ hq
 rw [hW2] at hS2 hT2 hg3
 have hltb : b < W2.heap.size := hS2.lt
 have hblk : w3.heap[b]? = W2.heap[b]? := hg3.block b hltb (fun e => R.wst.ne2 e.symm)
 have hne3 : (Value.slice a3 (A.n' + tn) c3).ownBlock ≠ some b := fun e => by
  rcases hl3 b e with h | h
  ·exact R.wst.ne2 h
  ·omega
 have f0 : w3.cell? ⟨b, 0, none⟩ = some (.slice za zn zc) := by rw [← hS2.c0]; exact World.cell?_of_block hblk
 have f1 : w3.cell? ⟨b, 1, none⟩ = some (.slice A.a' A.n' A.c') := by rw [← hS2.c1]; exact World.cell?_of_block hblk
 have ff : ∀ o, w3.frozen? ⟨b, o, none⟩ = false := fun o => by rw [← hS2.fr o]; exact World.frozen?_of_block hblk
 have hlt3 := hg3.size
 have hone3 := rowG hS2.rows.one hg3 (fun q e e2 => hS2.rows.ne q e2 e)
 have hnn : ∀ q, (Value.slice za zn zc).ownBlock = some q → (Value.slice a3 (A.n' + tn) c3).ownBlock ≠ some q := fun q e e3 => by
  rcases hl3 q e3 with h | h
  ·exact hS2.rows.ne q e h
  ·have := (row_lt hz e).2; omega
 have hF : WSt B b ⟨za, zn, zc, a3, A.n' + tn, c3⟩ ln' (v.gs ++ td) (w3.setCell ⟨b, 1, none⟩ (.slice a3 (A.n' + tn) c3)) :=
  ⟨by simp; omega, R.wst.ge, by rw [World.cell?_setCell_other _ _ _ _ (by simp)]; exact f0, World.cell?_setCell_same _ _ _ f1, fun j => by simpa using ff j, ⟨row_set hone3 b 1 hS2.ne1 _, row_set ho3 b 1 hne3 _, hnn⟩, hS2.ne1, hne3⟩
 have hT3 : WTo B b u (w3.setCell ⟨b, 1, none⟩ (.slice a3 (A.n' + tn) c3)) :=
  (hT2.grown hg3 (by have := R.wst.ge; omega) hltb (fun q e => (row_lt hS2.rows.two e).1) R.wst.ne2).set R.wst.ge 1 (by omega) _
 have hSh3 : Shp b u (w3.setCell ⟨b, 1, none⟩ (.slice a3 (A.n' + tn) c3)) := (hSh2.trans (fun cur t hc => ⟨cur, by rw [hblk]; exact hc, rfl⟩)).trans (Shp.set b 1 w3 _)
 have hbq : ∀ q, q < u.heap.size → q ≠ b → (Value.slice A.a' A.n' A.c').ownBlock ≠ some q → (w3.setCell ⟨b, 1, none⟩ (.slice a3 (A.n' + tn) c3)).heap[q]? = u.heap[q]? := fun q hq hqb hqg => by
  rw [Below.heap_setCell _ _ _ _ hqb, hg3.block q (by omega) (fun e => hqg e.symm), hbk2 q hqb]
 refine ⟨R.lists hF hT3 hSh3 (fun q hq => ?_) (fun q hq => ?_), f1, ff, hT3.below⟩
 ·rcases hq with e | ⟨x, hx, e⟩
  ·exact hbq q (row_lt R.srow.sb e).2 (fun h => R.nb.1 (by rw [e, h])) (fun h => (R.ap q (.inr h)).1 e)
  ·exact hbq q (row_lt (R.srow.fl x hx) e).2 (fun h => R.nb.2 x hx (by rw [e, h])) (fun h => (R.ap q (.inr h)).2 x hx e)
 ·rcases hq with e | e
  ·have h1 := (row_lt hz e).1
   exact ⟨fun e' => by have := hb3 q e'; omega, fun x hx e' => by have := hb4 x hx q e'; omega⟩
  ·rcases hl3 q e with h | h
   ·exact R.ap q (.inr h)
   ·exact ⟨fun e' => by have := (row_lt R.srow.sb e').2; omega, fun x hx e' => by have := (row_lt (R.srow.fl x hx) e').2; omega⟩
def SndP (B b : Nat) (v : Rv) (sa : Option Addr) (s sc : Nat) (ys : List Sa) (m : Tm) (w : World) (e : Ending) (w' : World) : Prop :=
  ∃ (A' : Na) (P' : Nat → Tm) (f' : Nat) (ys' : List Sa) (ta : Option Addr) (tn tc : Nat), e = .returned (.slice ta tn tc) ∧ RBody B b A' P' f' (trimR (sndV v m)) sa s sc ys' w' ∧ (∀ y, y ∈ ys' → ∃ x, x ∈ ys ∧ y.n = x.n) ∧ w'.ownsRow w.heap.size 3 1 (.slice ta tn tc) tn (intsV (sndT v.sb m v.ln)) ∧ (∀ q, (Value.slice ta tn tc).ownBlock = some q → q ≠ b ∧ (Value.slice A'.a A'.n A'.c).ownBlock ≠ some q ∧ (Value.slice A'.a' A'.n' A'.c').ownBlock ≠ some q ∧ (Value.slice sa s sc).ownBlock ≠ some q ∧ ∀ y, y ∈ ys' → (Value.slice y.a y.n y.c).ownBlock ≠ some q) ∧ Below B w w'
set_option maxRecDepth 100000 in
set_option maxHeartbeats 16000000 in
theorem send_any (B b : Nat) (A : Na) (P : Nat → Tm) (f : Nat) (v : Rv) (sa : Option Addr) (s sc : Nat) (ys : List Sa) (m1 m2 : Int) (m3 : ByteArray) (w : World) (hR : RBody B b A P f v sa s sc ys w) (hok : okR restR v = true) (hm : okB m1 m2 m3 = true) (hm3 : m3.size ≤ maxLen) (hse : v.se ≤ 999999999) (hs : s ≤ 2097152) (hyn : ∀ y, y ∈ ys → y.n ≤ 2097152) (hG : GOk w) (hGg : 0 < B) :
  Calls Tryz.prog 81 #[.pointer (some ⟨b, 0, none⟩), .agg #[.int .i64 m1, .int .i64 m2, .string m3]] w fun e w' => SndP B b v sa s sc ys (m1, m2, m3) w e w' := by
 obtain ⟨W0, hW0⟩ : ∃ W, W = w.alloc (.cells #[.int .i64 m1, .int .i64 m2, .string m3] 30) := ⟨_, rfl⟩
 have B0 : Below w.heap.size w W0 := by rw [hW0]; exact bl_alloc (Below.refl _ _) _
 have X0 : BoxL w.heap.size [.int .i64 m1, .int .i64 m2, .string m3] W0 := by rw [hW0]; exact BoxL.new w [.int .i64 m1, .int .i64 m2, .string m3] _
 have hhd := ok_head hok
 have hfl : f + v.it.length ≤ 1000000000 := by have := hR.se; omega
 have HAd := hidOf (addM_any B b A P f v sa s sc ys m1 m2 m3 W0.drew ((hR.keep B0).keep (Below.refl _ _).drew) hhd.2.2.2.1 hfl hm3)
 have HBw := hidOf (And.intro hR.wst.lt hR.wst.ge)
 have HOk := hidOf hok
 have HHd := hidOf hhd
 have HRb := hidOf hR.blks
 have HR := hidOf hR
 have HM := hidOf (And.intro hm hm3)
 have HG := hidOf (And.intro hG hGg)
 have HS := hidOf (And.intro hs hyn)
 have HB0 := hidOf B0
 have HSe := hidOf hse
 have hS0 : MsS w.heap.size m1 m2 m3 W0 := MsS.of X0
 clear hR hok hm hm3 hse hs hyn hG hGg hhd hfl B0
 go_enter Tryz.func81, Tryz.ntmps81
 go_upto_region 1 with fail
 rw [← hW0]
 clear hW0
 refine wp_region_noPanic ?_
 refine wp_region_held_drew (S := fun u => MsS w.heap.size m1 m2 m3 u) (by kernel_rfl) hS0 (fun hHeld => ?_)
 refine tK 0 ?_ rfl (by kernel_rfl) (by rfl) ?_ (by assumption) (fun _ _ _ h => h) ?_
 case refine_2 => (intro w hSw; (try dsimp only at hSw); go_simp; try with_reducible rfl)
 simp only [Act.put, List.getElem_toArray, List.getElem_cons_zero, List.setIfInBounds_toArray, List.set_cons_zero, List.set_cons_succ]
 refine tR 1 ?_
 refine tR 2 ?_
 refine tR 3 ?_
 refine tW 4 (fun K hK => ?_)
 go_simp
 refine (HAd.out).mono ?_
 rintro e w1 ⟨rfl, R1, gr1⟩
 go_wp2_with fail
 have hS1 : MsS w.heap.size m1 m2 m3 w1 := MsS.of ((X0.keep (Below.refl _ _).drew).grown gr1 (fun e => by have h := HBw.out; injection e with e; omega))
 refine hK.out _ _ hS1 (fun hHeld => ?_)
 clear hK K
 refine wpAnyH_done (by kernel_rfl) ?_ _
 refine NoPanic.normal ?_
 have X1 : BoxL w.heap.size [.int .i64 m1, .int .i64 m2, .string m3] w1 := (X0.keep (Below.refl _ _).drew).grown gr1 (fun e => by have h := HBw.out; injection e with e; omega)
 have B1 : Below B w w1 := ((HB0.out.drew).mono (by have h := HBw.out; omega)).grown gr1 (by have h := HBw.out; have h2 := HB0.out.size; show B ≤ W0.heap.size; omega) (fun q e => by injection e with e; rw [← e]; exact HBw.out.2)
 obtain ⟨P1, hP1⟩ : ∃ P1, updP P ((f + v.it.length) % 17) (m1, m2, m3) = P1 := ⟨_, rfl⟩
 rw [hP1] at R1
 obtain ⟨v1, hv1⟩ : ∃ v1 : Rv, { v with it := v.it ++ [(m1, m2, m3)], se := v.se + 1 } = v1 := ⟨_, rfl⟩
 rw [hv1] at R1
 have HV1 := hidOf hv1
 have hv1p : v1.sb = v.sb ∧ v1.ln = v.ln ∧ v1.gs = v.gs := by rw [← hv1]; exact ⟨rfl, rfl, rfl⟩
 have HV1p := hidOf hv1p
 have hlen := R1.wst.rows.len.1
 have c0 := R1.wst.c0
 have HL0 := hidOf (show SdL B b A P1 f v1 sa s sc ys m1 m2 m3 w w1.heap.size [] none 0 0 none 0 0 w1 from ⟨⟨ys, R1, rfl, fun y hy => ⟨y, hy, rfl, rfl, rfl⟩⟩, X1, ⟨rfl, .inl ⟨rfl, rfl⟩⟩, ⟨rfl, .inl ⟨rfl, rfl⟩⟩, fun q e => by simp [Value.ownBlock] at e, B1, Nat.le_refl _⟩)
 have HBk := hidOf R1.blks
 have HLen := hidOf hlen
 have HKw0 := hidOf (And.intro X1.lt (show B ≤ w1.heap.size from Nat.le_trans (Nat.le_trans HBw.out.2 (Nat.le_of_lt HBw.out.1)) B1.size))
 have HNl := hidOf (show A.n ≤ 12 by rw [hv1p.2.1] at hlen; have h := HHd.out.2.2.2.2.2.1; omega)
 obtain ⟨la, hla⟩ : ∃ a, A.a = a := ⟨_, rfl⟩
 rw [hla] at c0
 have HLa := hidOf hla
 obtain ⟨K, hK⟩ : ∃ K, w1.heap.size = K := ⟨_, rfl⟩
 rw [hK] at HL0 HBk HKw0
 have HBkK := hidOf (show BlkK b A sa s sc ys K from HBk.out)
 clear hS1 hHeld hS0 X0 X1 B1 R1 gr1 hP1 hv1 hv1p hlen HAd hla hK
 go_wp2_with fail
 clear c0
 go_loopw [5, 6, 21] (fun t z i wr => ∃ (j : Nat) (ta : Option Addr) (tn tc : Nat) (za : Option Addr) (zn zc : Nat), j ≤ A.n ∧ t = .slice ta tn tc ∧ z = .slice za zn zc ∧ i = .int .i64 j ∧ SdL B b A P1 f v1 sa s sc ys m1 m2 m3 w K (v1.ln.take j) ta tn tc za zn zc wr) (fun _ _ i _ => A.n - (intOf i).toNat)
 case atStart => exact ⟨0, none, 0, 0, none, 0, 0, Nat.zero_le _, rfl, rfl, rfl, by rw [List.take_zero]; exact HL0.out⟩
 case round =>
  rename World => wr
  obtain ⟨j, ta, tn, tc, za, zn, zc, hj, rfl, rfl, rfl, hL⟩ := hrel
  clear HL0
  by_cases hlt : j < A.n
  ·have hlt' : (j : Int) < (A.n : Int) := by omega
   have hwj : IntKind.i64.wrap ((j : Int) + 1) = (j : Int) + 1 := by have h := HNl.out; rw [IntKind.wrap_i64]; omega
   obtain ⟨ys1, R1, hl1, hn1⟩ := hL.body
   obtain ⟨lb, hlb, cj, hjl⟩ := int_cell R1.wst.rows.one hlt
   rw [HLa.out] at hlb
   subst hlb
   obtain ⟨id, hid⟩ : ∃ id, v1.ln.getD j 0 = id := ⟨_, rfl⟩
   have hjl' : j < v1.ln.length := hjl
   have htk := take_getD hjl'
   have cj' : wr.cell? ⟨lb, j, none⟩ = some (.int .i64 id) := by rw [← hid]; exact cj
   rw [hid] at htk
   have hat := at_line HOk.out (j := j) (by rw [← HV1p.out.2.1]; exact hjl')
   rw [← HV1p.out.2.1, hid, ← HV1p.out.1] at hat
   obtain ⟨hk0, hkI⟩ := at_lt hat
   obtain ⟨k, hkk⟩ : ∃ k, (atR v1.sb id).toNat = k := ⟨_, rfl⟩
   rw [hkk] at hk0 hkI
   obtain ⟨g, rfl, hsl, hky⟩ := R1.sub_row (k := k) (by show k < (sndB v1.sb _ _).length; rw [sndB_len]; exact hk0)
   have HSu := hidOf (sub_any B b A P1 f _ g s sc ys1 id wr R1 HS.out.1 k (by show atR (sndB v1.sb _ _) id = _; rw [atR_ids (sndB_ids _ _ _)]; exact hkI) (by omega))
   have HT := hidOf htk
   have HKk := hidOf (And.intro hk0 (And.intro hkI (And.intro hkk hky)))
   have HL := hidOf hL
   clear hL R1 hl1 hn1 cj hjl hjl' htk hid hat hk0 hkI hkk hsl hky
   go_wp2_with fail
   refine (HSu.out).mono ?_
   rintro e w2 ⟨rfl, hb2⟩
   have L2 := HL.out.keep (Nat.le_trans HKw0.out.2 HL.out.ge) hb2
   obtain ⟨ys2, R2, hl2, hn2⟩ := L2.body
   obtain ⟨_, _, _, hky2⟩ := R2.sub_row (k := k) (by show k < (sndB v1.sb _ _).length; rw [sndB_len]; exact HKk.out.1)
   obtain ⟨y, hy⟩ : ∃ y, sg ys2 k = y := ⟨_, rfl⟩
   have hym : y ∈ ys2 := by rw [← hy]; exact sg_mem hky2
   have hsy : (sndB v1.sb (m1, m2, m3) (v1.ln.take j)).getD k Sb0 = y.s := by rw [← hy]; exact (by have h := sg_svs2 hky2; rw [R2.sv] at h; exact h)
   have hfl : y.s.fl = flAt v1.sb id := by rw [← hsy, sndB_fls]; unfold flAt; rw [HKk.out.2.2.1]
   have hokf : okF y.s.fl = true := by
    have h := ok_sub HOk.out (k := k) (by rw [← HV1p.out.1]; exact HKk.out.1)
    simp only [subR, Bool.and_eq_true] at h
    rw [hfl]; unfold flAt; rw [HKk.out.2.2.1, HV1p.out.1]
    exact h.2.2
   have hyb := sndB_bd v1.sb (m1, m2, m3) 1000000000 1000000000 (fun z hz => by
    rw [HV1p.out.1] at hz
    obtain ⟨i, hi, e⟩ := List.getElem_of_mem hz
    have h := ok_nums HOk.out hi
    rw [List.getD, List.getElem?_eq_getElem hi, Option.getD_some, e] at h
    have h2 := HHd.out.2.1
    omega) (v1.ln.take j) y.s (by rw [← hsy, List.getD, List.getElem?_eq_getElem (by rw [sndB_len]; exact HKk.out.1), Option.getD_some]; exact List.getElem_mem _)
   have htl : (v1.ln.take j).length ≤ 12 := by rw [List.length_take]; have h := HNl.out; omega
   have HCl := hidOf (implPasses_any y.a y.n y.c y.s.fl m1 m2 m3 w2.drew ((R2.keep (Below.refl _ _).drew).srow.sub.fil y hym) (by obtain ⟨x, hx, _, e, _⟩ := hn2 y hym; have h := HS.out.2 x hx; omega) HM.out.2 (HG.out.1.belowB L2.bel.drew HG.out.2))
   rw [passM_eq hokf HM.out.1, hfl] at HCl
   obtain ⟨q, hq⟩ : ∃ q, pasR (flAt v1.sb id) (m1, m2, m3) = q := ⟨_, rfl⟩
   rw [hq] at HCl
   have HQ := hidOf hq
   have hSm : FmS g k y w.heap.size m1 m2 m3 w2 := ⟨by rw [row_cell R2.srow.sb hky2 (by omega), hy]; rfl, L2.box.cs 0 (by simp), L2.box.cs 1 (by simp), L2.box.cs 2 (by simp)⟩
   have HLt := hidOf (show g < w2.drew.heap.size ∧ w.heap.size < w2.drew.heap.size from ⟨(row_lt (q := g) R2.srow.sb rfl).2, L2.box.lt⟩)
   have HY := hidOf (And.intro hy (And.intro hky2 (And.intro hsy (And.intro hl2 hn2))))
   have HYb := hidOf (And.intro hyb htl)
   have HR2 := hidOf R2
   have HL2 := hidOf L2
   clear hb2 L2 R2 hl2 hn2 hky2 hy hym hsy hfl hokf hyb htl hq HSu HL
   go_upto_region 7 with fail
   refine wp_region_noPanic ?_
   refine wp_region_held_drew (S := fun u => FmS g k y w.heap.size m1 m2 m3 u) (by kernel_rfl) hSm (fun hHeld => ?_)
   refine tK 0 ?_ rfl (by kernel_rfl) (by rfl) ?_ (by assumption) (fun _ _ _ h => h) ?_
   case refine_2 => (intro w hSw; (try dsimp only at hSw); go_simp; try with_reducible rfl)
   simp only [Act.put, List.getElem_toArray, List.getElem_cons_zero, List.setIfInBounds_toArray, List.set_cons_zero, List.set_cons_succ]
   refine tR 1 ?_
   refine tR 2 ?_
   refine tR 3 ?_
   refine tR 4 ?_
   refine tW 5 (fun K hK => ?_)
   go_simp
   refine (HCl.out).mono ?_
   rintro e w5 ⟨rfl, hb5⟩
   go_wp2_with fail
   have hS5 : FmS g k y w.heap.size m1 m2 m3 w5 := FmS.keep hHeld hb5 HLt.out
   refine hK.out _ _ hS5 (fun hHeld => ?_)
   clear hK K
   refine wpAnyH_done (by kernel_rfl) ?_ _
   refine NoPanic.normal ?_
   have HL5 := hidOf ((HL2.out.keep (Nat.le_trans HKw0.out.2 HL2.out.ge) (Below.refl _ _).drew).keep (Nat.le_trans HKw0.out.2 HL2.out.ge) hb5)
   have HR5 := hidOf ((HR2.out.keep (Below.refl _ _).drew).keep hb5)
   have HTn := hidOf (show tn ≤ 12 ∧ zn ≤ 12 by
    have h1 := HL2.out.told.1
    have h2 := HL2.out.stay.1
    have h3 : (sndT v1.sb (m1, m2, m3) (v1.ln.take j)).length ≤ (v1.ln.take j).length := List.length_filter_le _ _
    have h4 : (sndS v1.sb (m1, m2, m3) (v1.ln.take j)).length ≤ (v1.ln.take j).length := List.length_filter_le _ _
    have h5 := HYb.out.2
    simp only [intsV, List.length_map] at h1 h2
    omega)
   clear hS5 hHeld hSm hb5 HCl HL2 HR2
   cases q
   ·have hky2 := HY.out.2.1
    have s2 : w5.cell? ⟨g, k * 7 + 2, none⟩ = some (.int .i64 y.s.cu) := by rw [row_cell HR5.out.srow.sb hky2 (by omega), HY.out.1]; rfl
    have fr := fun o => World.ownsRow.frozenAt HR5.out.srow.sb o
    have hw2 : IntKind.i64.wrap (y.s.cu + 1) = y.s.cu + 1 := by have h := HYb.out; rw [IntKind.wrap_i64]; omega
    have hw5 : IntKind.i64.wrap (y.s.pa + 1) = y.s.pa + 1 := by have h := HYb.out; rw [IntKind.wrap_i64]; omega
    obtain ⟨U1, hU1⟩ : ∃ U, w5.setCell ⟨g, k * 7 + 2, none⟩ (.int .i64 (y.s.cu + 1)) = U := ⟨_, rfl⟩
    have R6 := HR5.out.put hky2 (by omega) (by omega) (r := 2) (y.s.cu + 1)
    rw [hU1] at R6
    have hk6 : k < (putS ys2 k 2 (y.s.cu + 1)).length := by rw [putS_len]; exact hky2
    have hg6 : sg (putS ys2 k 2 (y.s.cu + 1)) k = putA y 2 (y.s.cu + 1) := by rw [putS_get hky2, if_pos rfl, HY.out.1]
    have s5 : U1.cell? ⟨g, k * 7 + 5, none⟩ = some (.int .i64 y.s.pa) := by rw [row_cell R6.srow.sb hk6 (by omega), hg6]; rfl
    have fr1 := fun o => World.ownsRow.frozenAt R6.srow.sb o
    obtain ⟨U2, hU2⟩ : ∃ U, U1.setCell ⟨g, k * 7 + 5, none⟩ (.int .i64 (y.s.pa + 1)) = U := ⟨_, rfl⟩
    have R7 := R6.put hk6 (by omega) (by omega) (r := 5) (y.s.pa + 1)
    rw [hU2] at R7
    simp only at R7
    have hsb : putV (putV (sndB v1.sb (m1, m2, m3) (v1.ln.take j)) k 2 (y.s.cu + 1)) k 5 (y.s.pa + 1) = bump (sndB v1.sb (m1, m2, m3) (v1.ln.take j)) k := by
     have h := bump_put (sb := sndB v1.sb (m1, m2, m3) (v1.ln.take j)) (k := k) (by rw [sndB_len]; exact HKk.out.1)
     rw [HY.out.2.2.1] at h
     exact h
    rw [hsb] at R7
    have hn7 : ∀ z, z ∈ putS (putS ys2 k 2 (y.s.cu + 1)) k 5 (y.s.pa + 1) → ∃ x, x ∈ ys ∧ z.a = x.a ∧ z.n = x.n ∧ z.c = x.c := fun z hz => by
     obtain ⟨a1, h1, e1, n1, c1, _⟩ := putS_mem hk6 z hz
     obtain ⟨a2, h2, e2, n2, c2, _⟩ := putS_mem hky2 a1 h1
     obtain ⟨a3, h3, e3, n3, c3⟩ := HY.out.2.2.2.2 a2 h2
     exact ⟨a3, h3, by rw [e1, e2, e3], by rw [n1, n2, n3], by rw [c1, c2, c3]⟩
    have hl7 : (putS (putS ys2 k 2 (y.s.cu + 1)) k 5 (y.s.pa + 1)).length = ys.length := by rw [putS_len, putS_len]; exact HY.out.2.2.2.1
    have gr2 : w5.grownBy U2 (some g) := by rw [← hU2, ← hU1]; exact (grown_setC _ _ _ _).trans (grown_setC _ _ _ _)
    have hgg := row_lt (q := g) HR5.out.srow.sb rfl
    have hgK := HBkK.out.2.2.2.1 g rfl
    have hgw := HRb.out.2.2.2.1 g rfl
    have stay2 := rowG HL5.out.stay gr2 (fun q e e' => by injection e with e; subst e; have := (row_lt HL5.out.stay e').1; omega)
    obtain ⟨g6, c6, w6, hr6, ho6, hg6b, hl6⟩ := append_own1 K zn _ (sndS v1.sb (m1, m2, m3) (v1.ln.take j)) id U2 stay2 (Nat.le_trans HL5.out.ge gr2.size) (by have h := HTn.out; omega)
    have HL6 := hidOf (HL5.out.stayOne HBkK.out HKw0.out.1 HKw0.out.2 HQ.out HKk.out.2.2.1 R7 hl7 hn7 gr2 hgK hgg.1 (by omega) hg6b ho6 hl6)
    rw [← HT.out] at HL6
    have Hr6 := hidOf hr6
    clear hr6 ho6 hg6b hl6 stay2 gr2 hl7 hn7 hsb R7 R6 hgg hgK hgw hg6 hk6 hky2
    go_upto_region 10 with fail
    try rw [hU1]
    clear hU1 s2 fr hw2
    go_upto_region 11 with fail
    try rw [hU2]
    clear hU2 s5 fr1 hw5
    go_wp2_with (at_builtin; refine wpList_append_run rfl _ _ 26 rfl _ _ _ rfl rfl Hr6.out ?_)
    go_roundw
    case rel => exact ⟨j + 1, _, _, _, _, _, _, hlt, rfl, rfl, by simp, HL6.out⟩
    case measure => simp [intOf]; omega
   ·obtain ⟨g6, c6, w6, hr6, ho6, hg6, hl6⟩ := append_own1 K tn _ (sndT v1.sb (m1, m2, m3) (v1.ln.take j)) id w5 HL5.out.told HL5.out.ge (by have h := HTn.out; omega)
    have HL6 := hidOf (HL5.out.tellOne HBkK.out HKw0.out.1 HKw0.out.2 HQ.out hg6 ho6 hl6)
    rw [← HT.out] at HL6
    have Hr6 := hidOf hr6
    clear hr6 ho6 hg6 hl6
    go_wp2_with (at_builtin; refine wpList_append_run rfl _ _ 26 rfl _ _ _ rfl rfl Hr6.out ?_)
    go_roundw
    case rel => exact ⟨j + 1, _, _, _, _, _, _, hlt, rfl, rfl, by simp, HL6.out⟩
    case measure => simp [intOf]; omega
  ·have hje : j = A.n := by omega
   have hnlt : ¬ (j : Int) < (A.n : Int) := by omega
   have hln : v1.ln.take j = v1.ln := List.take_of_length_le (by have h := HLen.out; omega)
   rw [hln] at hL
   obtain ⟨ys1, R1, hl1, hn1⟩ := hL.body
   obtain ⟨d, hd, ho, htr⟩ := snd_first (m := (m1, m2, m3)) HOk.out HR.out.se
   have hKk := HBkK.out
   have fr := R1.wst.fr
   have c0 := R1.wst.c0
   rw [HLa.out] at c0
   obtain ⟨U1, hU1⟩ : ∃ U, wr.setCell ⟨b, 0, none⟩ (.slice za zn zc) = U := ⟨_, rfl⟩
   have hu1 : U1.heap.size = wr.heap.size := by rw [← hU1]; simp
   have g01 : wr.grownBy U1 (some b) := by rw [← hU1]; exact grown_setC _ _ _ _
   have told1 := rowG hL.told g01 (fun q e e' => by injection e with e; subst e; have := (row_lt hL.told e').1; have := hKk.1; omega)
   have gr1 := rowG R1.wst.rows.two g01 (fun q e e' => by injection e with e; subst e; exact R1.wst.ne2 e')
   have c1 : U1.cell? ⟨b, 1, none⟩ = some (.slice A.a' A.n' A.c') := by rw [← hU1, World.cell?_setCell_other _ _ _ _ (by simp)]; exact R1.wst.c1
   have fr1 : ∀ o, U1.frozen? ⟨b, o, none⟩ = false := fun o => by rw [← hU1]; simpa using fr o
   have htn : tn ≤ 12 := by
    have h1 := hL.told.1
    have h3 : (sndT v1.sb (m1, m2, m3) v1.ln).length ≤ v1.ln.length := List.length_filter_le _ _
    have h5 := HNl.out
    have h6 := HLen.out
    simp only [intsV, List.length_map] at h1
    omega
   have hgn : A.n' ≤ 12 := by
    have h1 := R1.wst.rows.len.2
    have h2 := HHd.out.2.2.2.2.2.2
    have h3 : v1.gs.length ≤ 12 := by rw [HV1p.out.2.2]; exact h2
    simp only at h1
    omega
   obtain ⟨a3, c3, w3, hr3, ho3, hg3, hl3⟩ := append_ownS B A.n' _ v1.gs ta tn tc (sndT v1.sb (m1, m2, m3) v1.ln) U1 gr1 (by rw [hu1]; exact Nat.le_trans HKw0.out.2 hL.ge) (ints_row told1) (by omega)
   have hcl := sd_close (K := K) R1 (hKk.names hn1) HKw0.out.2 hL.stay (by rw [hU1]; exact hg3) ho3 (by rw [← hu1]; exact hl3) hL.ge
   obtain ⟨R3, f1, ff, B3⟩ := hcl
   obtain ⟨U3, hU3⟩ : ∃ U, w3.setCell ⟨b, 1, none⟩ (.slice a3 (A.n' + tn) c3) = U := ⟨_, rfl⟩
   rw [hU3] at R3 B3
   have hvv : ({ v1 with sb := sndB v1.sb (m1, m2, m3) v1.ln, ln := sndS v1.sb (m1, m2, m3) v1.ln, gs := v1.gs ++ sndT v1.sb (m1, m2, m3) v1.ln } : Rv) = sndV v (m1, m2, m3) := by rw [← HV1.out]; rfl
   have R3' : RBody B b ⟨za, zn, zc, a3, A.n' + tn, c3⟩ P1 f (sndV v (m1, m2, m3)) sa s sc ys1 U3 := by rw [← hvv]; exact R3
   have HDr := hidOf (dropOld_any B b ⟨za, zn, zc, a3, A.n' + tn, c3⟩ P1 f (sndV v (m1, m2, m3)) sa s sc ys1 U3 R3' HS.out.1 (by have h := HHd.out.2.1; have h2 := HSe.out; show 0 ≤ v.se + 1 ∧ v.se + 1 ≤ 1000000000; omega) HHd.out.1 d (by show d ≤ (v.it ++ [(m1, m2, m3)]).length; simp; omega) ho)
   have htold3 := rowG told1 hg3 (fun q e e' => by have h1 := (row_lt told1 e').1; have h2 := hKk.2.2.1 q e; omega)
   have told3 := rowG htold3 (grown_setC w3 b 1 (.slice a3 (A.n' + tn) c3)) (fun q e e' => by injection e with e; subst e; have h1 := (row_lt told1 e').1; have := hKk.1; omega)
   rw [hU3] at told3
   have hapt : ∀ q, (Value.slice ta tn tc).ownBlock = some q → q ≠ b ∧ (Value.slice za zn zc).ownBlock ≠ some q ∧ (Value.slice a3 (A.n' + tn) c3).ownBlock ≠ some q ∧ (Value.slice sa s sc).ownBlock ≠ some q ∧ ∀ y, y ∈ ys1 → (Value.slice y.a y.n y.c).ownBlock ≠ some q := fun q e => by
    have h1 := row_lt hL.told e
    have hk2 := hKk.names hn1
    refine ⟨by have := hKk.1; omega, hL.ap q e, fun e' => ?_, fun e' => by have := hk2.2.2.2.1 q e'; omega, fun y hy e' => by have := hk2.2.2.2.2 y hy q e'; omega⟩
    rcases hl3 q e' with h | h
    ·have := hKk.2.2.1 q h; omega
    ·omega
   have HApt := hidOf hapt
   have HT3 := hidOf told3
   have HB3 := hidOf (hL.bel.trans B3)
   have HNn := hidOf (show ∀ y, y ∈ ys1 → ∃ x, x ∈ ys ∧ y.n = x.n from fun y hy => by obtain ⟨x, hx, _, e, _⟩ := hn1 y hy; exact ⟨x, hx, e⟩)
   have HTr := hidOf htr
   have HKb := hidOf hKk.1
   have Hr3 := hidOf hr3
   clear hr3 ho3 hg3 hl3 R3 R3' B3 hvv htold3 told3 hapt hKk R1 hl1 hn1 hL htr ho hd told1 gr1 g01 hu1 hln htn hgn
   go_upto_region 14 with fail
   try rw [hU1]
   clear hU1 c0 fr
   go_upto_region 15 with (at_builtin; refine wpList_append_run rfl _ _ 26 rfl _ _ _ rfl rfl Hr3.out ?_)
   try rw [hU3]
   clear hU3 c1 fr1 f1 ff
   go_wp2_with fail
   refine (HDr.out).mono ?_
   rintro e w7 ⟨rfl, P7, R7, gr7⟩
   have HF := hidOf (show SndP B b v sa s sc ys (m1, m2, m3) w (.returned (.slice ta tn tc)) w7 from ⟨_, P7, f + d, ys1, ta, tn, tc, rfl, by rw [HTr.out]; exact R7, HNn.out, by
    have h := rowG HT3.out gr7 (fun q e e' => by injection e with e; subst e; have h1 := (HApt.out b e').1; exact h1 rfl)
    rw [HV1p.out.1, HV1p.out.2.1] at h
    exact rowM h (Nat.le_of_lt HKw0.out.1), HApt.out, HB3.out.grown gr7 (by have h1 := HB3.out.size; have h2 := HBw.out; omega) (fun q e => by injection e with e; rw [← e]; exact HBw.out.2)⟩)
   clear R7 gr7 HDr
   go_wp2
   go_ret
   exact HF.out
end Go.Proofs.YtihdglmiecifjaaGreat
