/-
  The program's ring: a subscriber reads, and waits where nothing is the
-/
import Derived.Test.YtihdglmiecifjaaGreatZRs24
namespace Go.Proofs.YtihdglmiecifjaaGreat
open Go.RowKit Go.Maps Pl Il
theorem wait_tf (B b : Nat) (A : Na) (ln gs : List Int) (who : Int) (w : World) (hS : WSt B b A ln gs w) (hn : A.n ≤ 2097152) (hf : ¬ A.n = 32) :
  Calls Tryz.prog 158 #[.pointer (some ⟨b, 0, none⟩), .int .i64 who] w fun e w' => ∃ (g' c' : Nat), e = .returned (.int .i64 4) ∧ WSt B b { A with a := some ⟨g', 0, none⟩, n := A.n + 1, c := c' } (ln ++ [who]) gs w' ∧ WTo B b w w' ∧ (Shp b w w' ∧ (∀ q, q < w.heap.size → q ≠ b → (Value.slice A.a A.n A.c).ownBlock ≠ some q → w'.heap[q]? = w.heap[q]?) ∧ ((Value.slice A.a A.n A.c).ownBlock = some g' ∨ w.heap.size ≤ g')) := by
 have c0 := hS.c0
 have hlen := hS.rows.len.1
 have hf' : ((A.n : Int) == 32) = false := by simp; omega
 obtain ⟨g', c', w', hr, ho', hg, hl⟩ := append_own1 B A.n _ ln who w hS.rows.one (Nat.le_trans hS.ge (Nat.le_of_lt hS.lt)) (by omega)
 have hlt := hS.lt
 have hge := hS.ge
 have hsz := hg.size
 have hblk : w'.heap[b]? = w.heap[b]? := hg.block b hlt (fun e => hS.ne1 e.symm)
 have hS1 : WSt B b A ln gs w → True := fun _ => trivial
 have d0 : w'.cell? ⟨b, 0, none⟩ = some (.slice A.a A.n A.c) := by rw [← hS.c0]; exact World.cell?_of_block hblk
 have d1 : w'.cell? ⟨b, 1, none⟩ = some (.slice A.a' A.n' A.c') := by rw [← hS.c1]; exact World.cell?_of_block hblk
 have df : ∀ o, w'.frozen? ⟨b, o, none⟩ = false := fun o => by rw [← hS.fr o]; exact World.frozen?_of_block hblk
 have hneb : (Value.slice (some ⟨g', 0, none⟩) (A.n + 1) c').ownBlock ≠ some b := fun e => by
  have e' : g' = b := by simpa [Value.ownBlock] using e
  rcases hl with hl | hl
  ·exact hS.ne1 (by rw [hl, e'])
  ·omega
 have htwo := row_grown hS.rows.two hg (fun q e => hS.rows.ne q e)
 have hn2 : ∀ q, (Value.slice (some ⟨g', 0, none⟩) (A.n + 1) c').ownBlock = some q → (Value.slice A.a' A.n' A.c').ownBlock ≠ some q := fun q e e2 => by
  have e' : g' = q := by simpa [Value.ownBlock] using e
  subst e'
  rcases hl with hl | hl
  ·exact hS.rows.ne _ hl e2
  ·have := (hS.rows.two.lt _ e2).2; omega
 have hF : WSt B b { A with a := some ⟨g', 0, none⟩, n := A.n + 1, c := c' } (ln ++ [who]) gs (w'.setCell ⟨b, 0, none⟩ (.slice (some ⟨g', 0, none⟩) (A.n + 1) c')) :=
  ⟨by simp; omega, hge, World.cell?_setCell_same _ _ _ d0, by rw [World.cell?_setCell_other _ _ _ _ (by simp)]; exact d1, fun k => by simpa using df k, ⟨row_set ho' b 0 hneb _, row_set htwo b 0 hS.ne2 _, hn2⟩, hneb, hS.ne2⟩
 have hT : WTo B b w (w'.setCell ⟨b, 0, none⟩ (.slice (some ⟨g', 0, none⟩) (A.n + 1) c')) :=
  ((WTo.refl B b w).grown hg (by omega) hlt (fun q e => (hS.rows.one.lt q e).1) hS.ne1).set hge 0 (by omega) _
 have HW := hidOf (show Shp b w (w'.setCell ⟨b, 0, none⟩ (.slice (some ⟨g', 0, none⟩) (A.n + 1) c')) ∧ (∀ q, q < w.heap.size → q ≠ b → (Value.slice A.a A.n A.c).ownBlock ≠ some q → (w'.setCell ⟨b, 0, none⟩ (.slice (some ⟨g', 0, none⟩) (A.n + 1) c')).heap[q]? = w.heap[q]?) ∧ ((Value.slice A.a A.n A.c).ownBlock = some g' ∨ w.heap.size ≤ g') from
  ⟨(show Shp b w w' from fun cur t hc => ⟨cur, by rw [hblk]; exact hc, rfl⟩).trans (Shp.set b 0 w' _), fun q hq hb hn => by rw [Below.heap_setCell _ _ _ _ hb]; exact hg.block q hq (fun e => hn e.symm), hl⟩)
 have HF := hidOf hF
 have HT := hidOf hT
 have Hr := hidOf hr
 clear hF hT hr hS hS1 d1 htwo hn2 hneb hblk ho' hg hl hlen hf
 go_enter Tryz.func158, Tryz.ntmps158
 go_wp2_with (at_builtin; refine wpList_append_run rfl _ _ 26 rfl _ _ _ rfl rfl Hr.out ?_)
 go_ret
 exact ⟨_, _, rfl, HF.out, HT.out, HW.out⟩
theorem rowQ {B : Nat} {w w' : World} {t : TypeId} {s : Nat} {v : Value} {n : Nat} {xs : List Value} (h : w.ownsRow B t s v n xs) (hq : ∀ q, v.ownBlock = some q → w'.heap[q]? = w.heap[q]?) : w'.ownsRow B t s v n xs := by
  obtain ⟨hl, hn | ⟨g, cap, cur, rfl, hB, hg, hr⟩⟩ := h
  · exact ⟨hl, .inl hn⟩
  · exact ⟨hl, .inr ⟨g, cap, cur, rfl, hB, by rw [hq g rfl]; exact hg, hr⟩⟩
theorem RBody.waits {B b : Nat} {A : Na} {P : Nat → Tm} {f : Nat} {v : Rv} {sa : Option Addr} {s sc : Nat} {ys : List Sa} {w w' : World} (id : Int) {g' c' : Nat} (h : RBody B b A P f v sa s sc ys w) (hW : WSt B b { A with a := some ⟨g', 0, none⟩, n := A.n + 1, c := c' } (v.ln ++ [id]) v.gs w') (hT : WTo B b w w')
    (ht : Shp b w w' ∧ (∀ q, q < w.heap.size → q ≠ b → (Value.slice A.a A.n A.c).ownBlock ≠ some q → w'.heap[q]? = w.heap[q]?) ∧ ((Value.slice A.a A.n A.c).ownBlock = some g' ∨ w.heap.size ≤ g')) : RBody B b { A with a := some ⟨g', 0, none⟩, n := A.n + 1, c := c' } P f { v with ln := v.ln ++ [id] } sa s sc ys w' where
  wst := hW
  rnd := by
    refine ⟨?_, fun j hj => ?_⟩
    · obtain ⟨cur, t, hg, hs⟩ := h.rnd.blk
      obtain ⟨cur', hg', hs'⟩ := ht.1 cur t hg
      exact ⟨cur', t, hg', by omega⟩
    · obtain ⟨h1, h2, h3⟩ := h.rnd.pl j hj
      exact ⟨by rw [hT.cells _ (by omega)]; exact h1, by rw [hT.cells _ (by omega)]; exact h2, by rw [hT.cells _ (by omega)]; exact h3⟩
  c2 := by rw [hT.cells _ (by omega)]; exact h.c2
  fst := by rw [hT.cells _ (by omega)]; exact h.fst
  nxt := by rw [hT.cells _ (by omega)]; exact h.nxt
  c56 := by rw [hT.cells _ (by omega)]; exact h.c56
  c57 := by rw [hT.cells _ (by omega)]; exact h.c57
  c58 := by rw [hT.cells _ (by omega)]; exact h.c58
  srow := ⟨rowQ h.srow.sb fun q e => ht.2.1 q (row_lt h.srow.sb e).2 (fun e' => h.nb.1 (by rw [e, e'])) (fun e' => (h.ap q (.inl e')).1 e), fun x hx => rowQ (h.srow.fl x hx) fun q e => ht.2.1 q (row_lt (h.srow.fl x hx) e).2 (fun e' => h.nb.2 x hx (by rw [e, e'])) (fun e' => (h.ap q (.inl e')).2 x hx e), h.srow.fls, h.srow.apt⟩
  sv := h.sv
  its := h.its
  sh := h.sh
  se := h.se
  few := h.few
  nb := h.nb
  ap := fun q hq => by
    rcases hq with e | e
    · have e' : g' = q := by simpa [Value.ownBlock] using e
      subst e'
      rcases ht.2.2 with k | k
      · exact h.ap _ (.inl k)
      · exact ⟨fun e => by have := (row_lt h.srow.sb e).2; omega, fun x hx e => by have := (row_lt (h.srow.fl x hx) e).2; omega⟩
    · exact h.ap q (.inr e)
theorem RBody.grownN {B b : Nat} {A : Na} {P : Nat → Tm} {f : Nat} {v : Rv} {sa : Option Addr} {s sc : Nat} {ys : List Sa} {u u' : World} {N : Nat} (h : RBody B b A P f v sa s sc ys u) (hg : u.grownBy u' (some N)) (hb : b ≠ N) (h1 : ∀ q, (Value.slice A.a A.n A.c).ownBlock = some q → q ≠ N) (h2 : ∀ q, (Value.slice A.a' A.n' A.c').ownBlock = some q → q ≠ N) (h3 : ∀ q, (Value.slice sa s sc).ownBlock = some q → q ≠ N) (h4 : ∀ x, x ∈ ys → ∀ q, (Value.slice x.a x.n x.c).ownBlock = some q → q ≠ N) : RBody B b A P f v sa s sc ys u' := by
  have key := hg.block b h.wst.lt (fun e => hb (by injection e))
  have ct : ∀ j, u'.cell? ⟨b, j, none⟩ = u.cell? ⟨b, j, none⟩ := fun j => World.cell?_of_block key
  have rg : ∀ {z : Value}, (∀ q, z.ownBlock = some q → q ≠ N) → ∀ q, some N = some q → z.ownBlock ≠ some q := fun hz q e e' => hz q e' (by injection e with e; exact e.symm)
  refine ⟨⟨Nat.lt_of_lt_of_le h.wst.lt hg.size, h.wst.ge, by rw [ct]; exact h.wst.c0, by rw [ct]; exact h.wst.c1, fun o => by rw [← h.wst.fr o]; exact World.frozen?_of_block key, ⟨rowG h.wst.rows.one hg (rg h1), rowG h.wst.rows.two hg (rg h2), h.wst.rows.ne⟩, h.wst.ne1, h.wst.ne2⟩, ⟨?_, fun j hj => ?_⟩, by rw [ct]; exact h.c2, by rw [ct]; exact h.fst, by rw [ct]; exact h.nxt, by rw [ct]; exact h.c56, by rw [ct]; exact h.c57, by rw [ct]; exact h.c58, ⟨rowG h.srow.sb hg (rg h3), fun x hx => rowG (h.srow.fl x hx) hg (rg (h4 x hx)), h.srow.fls, h.srow.apt⟩, h.sv, h.its, h.sh, h.se, h.few, h.nb, h.ap⟩
  · obtain ⟨cur, t, hc, hs1⟩ := h.rnd.blk
    exact ⟨cur, t, by rw [key]; exact hc, hs1⟩
  · obtain ⟨q1, q2, q3⟩ := h.rnd.pl j hj
    exact ⟨by rw [ct]; exact q1, by rw [ct]; exact q2, by rw [ct]; exact q3⟩
def RecP (B b : Nat) (A : Na) (v : Rv) (g s sc : Nat) (ys : List Sa) (k : Nat) (id : Int) (w : World) (e : Ending) (w' : World) : Prop :=
  e = .returned (.tuple #[.agg #[.int .i64 (readT v (v.sb.getD k Sb0)).kd, .int .i64 (readT v (v.sb.getD k Sb0)).ms.1, .int .i64 (readT v (v.sb.getD k Sb0)).ms.2.1, .string (readT v (v.sb.getD k Sb0)).ms.2.2, .int .i64 (readT v (v.sb.getD k Sb0)).ix, .int .i64 (readT v (v.sb.getD k Sb0)).n], .int .i64 (readC v (v.sb.getD k Sb0))]) ∧
  ∃ (A' : Na) (P' : Nat → Tm) (f' : Nat), RBody B b A' P' f' (trimR (waitV v k id)) (some ⟨g, 0, none⟩) s sc (ysS ys k (readS v (v.sb.getD k Sb0))) w' ∧ A'.n ≤ A.n + 1 ∧ A'.n' = A.n' ∧ Below B w w'
set_option maxRecDepth 100000 in
set_option maxHeartbeats 16000000 in
theorem receive_any (B b : Nat) (A : Na) (P : Nat → Tm) (f : Nat) (v : Rv) (g s sc : Nat) (ys : List Sa) (k : Nat) (id : Int) (w : World) (hR : RBody B b A P f v (some ⟨g, 0, none⟩) s sc ys w) (hs : s ≤ 2097152) (hks : k < s) (hat : atR v.sb id = (k : Int)) (hok : RdOk v k) (hky : k < ys.length) (hyn : ∀ y, y ∈ ys → y.n ≤ 2097152) (hG : GOk w) (hGg : 0 < B) (hA : A.n ≤ 20) :
    Calls Tryz.prog 105 #[.pointer (some ⟨b, 0, none⟩), .int .i64 id] w fun e w' => RecP B b A v g s sc ys k id w e w' := by
  have hgl := row_lt (q := g) hR.srow.sb rfl
  obtain ⟨W0, hW0⟩ : ∃ W, W = w.alloc (.cells #[.int .i64 0, .int .i64 0, .int .i64 0, .string ⟨#[]⟩, .int .i64 0, .int .i64 0] 53) := ⟨_, rfl⟩
  have B0 : Below w.heap.size w W0 := by rw [hW0]; exact bl_alloc (Below.refl _ _) _
  have T0 : BoxL w.heap.size [.int .i64 0, .int .i64 0, .int .i64 0, .string ⟨#[]⟩, .int .i64 0, .int .i64 0] W0 := by rw [hW0]; exact BoxL.new w [.int .i64 0, .int .i64 0, .int .i64 0, .string ⟨#[]⟩, .int .i64 0, .int .i64 0] _
  have R0 := hR.keep B0
  have HSu := hidOf (sub_any B b A P f v g s sc ys id W0 R0 hs k hat hks)
  have HR0 := hidOf R0
  have HG := hidOf (hG.keep B0)
  have HOK := hidOf hok
  have HGl := hidOf hgl
  have HB0 := hidOf B0
  have HKY := hidOf hky
  have HYN := hidOf hyn
  have hbw := hR.wst.lt
  have hBb := hR.wst.ge
  obtain ⟨d, hd, ho, htr⟩ := rd_first hok hR.se
  have HDd := hidOf (And.intro hd (And.intro ho htr))
  have HCp := hidOf (And.intro hok.se hok.cp)
  have HS := hidOf (And.intro hs hA)
  have HBw := hidOf (And.intro hbw hBb)
  have HAl := hidOf hR.blks.2.1
  have HAl2 := hidOf (show (∀ q, (Value.slice A.a' A.n' A.c').ownBlock = some q → q < w.heap.size) ∧ ∀ y, y ∈ ysS ys k (readS v (v.sb.getD k Sb0)) → ∀ q, (Value.slice y.a y.n y.c).ownBlock = some q → q < w.heap.size from ⟨hR.blks.2.2.1, fun y hy q e => by
    rcases List.mem_or_eq_of_mem_set hy with h' | h'
    · exact hR.blks.2.2.2.2 y h' q e
    · rw [h'] at e
      exact hR.blks.2.2.2.2 (sg ys k) (sg_mem hky) q e⟩)
  clear hR hok hat hyn hG hgl R0 hd ho htr hs hA B0 hbw hBb hky hks
  go_enter Tryz.func105, Tryz.ntmps105
  go_upto_region 1 with fail
  rw [← hW0]
  clear hW0
  go_wp2_with fail
  refine (HSu.out).mono ?_
  rintro e w1 ⟨rfl, hb1⟩
  have HRd := hidOf (read_any B b A P f v g s sc ys k w1 (HR0.out.keep hb1) HOK.out HKY.out HYN.out (HG.out.keep hb1) hGg)
  have T1 := T0.keep hb1
  have b01 := bl_trans HB0.out hb1
  clear HSu hb1 T0
  go_wp2_with fail
  refine (HRd.out).mono ?_
  rintro e w2 ⟨rfl, R2, gr2⟩
  obtain ⟨td, htd⟩ : ∃ td, readT v (v.sb.getD k Sb0) = td := ⟨_, rfl⟩
  obtain ⟨cd, hcd⟩ : ∃ cd, readC v (v.sb.getD k Sb0) = cd := ⟨_, rfl⟩
  rw [htd, hcd]
  have HTd := hidOf htd
  have HCd := hidOf hcd
  have hTg : w.heap.size ≠ g := by have h := HGl.out; omega
  have T2 := T1.grown gr2 (fun e => hTg (by injection e with e; exact e.symm))
  have B2 : Below B w w2 := (b01.mono (by have h := HBw.out; omega)).grown gr2 (by have h := HBw.out; have h2 := b01.size; omega) (fun q e => by injection e with e; rw [← e]; exact HGl.out.1)
  obtain ⟨V2, hV2⟩ : ∃ V, V = w2.alloc (.cells #[.int .i64 td.kd, .int .i64 td.ms.1, .int .i64 td.ms.2.1, .string td.ms.2.2, .int .i64 td.ix, .int .i64 td.n] 53) := ⟨_, rfl⟩
  have bV2 : Below w2.heap.size w2 V2 := by rw [hV2]; exact bl_alloc (Below.refl _ _) _
  have N2 : BoxL w2.heap.size [.int .i64 td.kd, .int .i64 td.ms.1, .int .i64 td.ms.2.1, .string td.ms.2.2, .int .i64 td.ix, .int .i64 td.n] V2 := by rw [hV2]; exact BoxL.new w2 [.int .i64 td.kd, .int .i64 td.ms.1, .int .i64 td.ms.2.1, .string td.ms.2.2, .int .i64 td.ix, .int .i64 td.n] _
  have T3 := T2.keep bV2
  have B3 : Below B w V2 := B2.trans (bV2.mono (by have h := HBw.out; have h2 := B2.size; omega))
  have R3 := R2.keep bV2
  have hws : w.heap.size ≤ w2.heap.size := B2.size
  have hgs2 := gr2.size
  clear htd hcd T1 T2 gr2 R2 B2 b01 HRd
  go_upto_region 2 with fail
  rw [← hV2]
  clear hV2
  generalize hNT : w2.heap.size = NT at N2 ⊢
  have HNT := hidOf (show w.heap.size ≤ NT ∧ b < NT by have h := HBw.out; omega)
  clear hNT hws hgs2 bV2
  by_cases hc4 : cd = 4
  · subst hc4
    have HWt := hidOf (wait_tf B b A v.ln v.gs id V2 R3.wst (by have h := HS.out; omega) (by have h := HS.out; omega))
    go_wp2_with fail
    refine (HWt.out).mono ?_
    rintro e w4 ⟨g', c', rfl, hW4, hT4, ht4⟩
    have R4 := R3.waits id hW4 hT4 ht4
    have T4 := T3.of_block (ht4.2.1 w.heap.size T3.lt (by have h := HBw.out; omega) (fun e => by have h := HAl.out _ e; omega)) (Nat.lt_of_lt_of_le T3.lt hT4.below.size)
    have N4 := N2.of_block (ht4.2.1 NT N2.lt (by have h := HNT.out; omega) (fun e => by have h := HAl.out _ e; have h2 := HNT.out; omega)) (Nat.lt_of_lt_of_le N2.lt hT4.below.size)
    have B4 : Below B w w4 := B3.trans hT4.below
    have HLn := hidOf (show ∀ q, (Value.slice (some ⟨g', 0, none⟩) (A.n + 1) c').ownBlock = some q → q ≠ w.heap.size from fun q e => by
      have e' : g' = q := by simpa [Value.ownBlock] using e
      rcases ht4.2.2 with h | h
      · have h2 := HAl.out _ h
        omega
      · have h2 := T3.lt
        omega)
    clear HWt hW4 hT4 ht4 R3 T3 N2 B3
    have HDr := hidOf (dropOld_any B b { A with a := some ⟨g', 0, none⟩, n := A.n + 1, c := c' } P f ({ rdV v k with ln := v.ln ++ [id] } : Rv) (some ⟨g, 0, none⟩) s sc (ysS ys k (readS v (v.sb.getD k Sb0))) w4 R4 HS.out.1 HCp.out.1 HCp.out.2 d HDd.out.1 HDd.out.2.1)
    clear R4
    go_wp2_with fail
    refine (HDr.out).mono ?_
    rintro e w5 ⟨rfl, P', R5, gr5⟩
    have T5 := T4.grown gr5 (fun e => by have h := HBw.out; injection e with e; omega)
    have N5 := N4.grown gr5 (fun e => by have h := HNT.out; injection e with e; omega)
    have B5 : Below B w w5 := B4.grown gr5 (by have h1 := B4.size; have h2 := HBw.out; omega) (fun q e => by injection e with e; rw [← e]; exact HBw.out.2)
    have HR5 := hidOf R5
    have HB5 := hidOf B5
    clear T4 N4 B4 R5 B5 gr5 HDr
    obtain ⟨u0, u1, u2, u3, u4, u5⟩ := box6 T5
    have uf := T5.fr
    obtain ⟨n0, n1, n2, n3, n4, n5⟩ := box6 N5
    obtain ⟨Zz, hZ⟩ : ∃ Z, ((((((w5.setCell ⟨w.heap.size, 0, none⟩ (.int .i64 td.kd)).setCell ⟨w.heap.size, 1, none⟩ (.int .i64 td.ms.1)).setCell ⟨w.heap.size, 2, none⟩ (.int .i64 td.ms.2.1)).setCell ⟨w.heap.size, 3, none⟩ (.string td.ms.2.2)).setCell ⟨w.heap.size, 4, none⟩ (.int .i64 td.ix)).setCell ⟨w.heap.size, 5, none⟩ (.int .i64 td.n)) = Z := ⟨_, rfl⟩
    have hZ2 : Zz = setL w5 w.heap.size 0 [.int .i64 td.kd, .int .i64 td.ms.1, .int .i64 td.ms.2.1, .string td.ms.2.2, .int .i64 td.ix, .int .i64 td.n] := by rw [← hZ]; rfl
    have TZ : BoxL w.heap.size [.int .i64 td.kd, .int .i64 td.ms.1, .int .i64 td.ms.2.1, .string td.ms.2.2, .int .i64 td.ix, .int .i64 td.n] Zz := by rw [hZ2]; exact T5.setAll rfl
    have bZ : Below w.heap.size w5 Zz := by rw [hZ2]; exact setL_below (Nat.le_refl _) (Below.refl _ _)
    obtain ⟨t0, t1, t2, t3, t4, t5⟩ := box6 TZ
    have hV : trimR (waitV v k id) = { ({ rdV v k with ln := v.ln ++ [id] } : Rv) with it := v.it.drop d } := by
      unfold waitV
      rw [HCd.out, if_pos rfl, trim_ln, HDd.out.2.2]
    have gZ : w5.grownBy Zz (some w.heap.size) := by rw [hZ2]; exact setL_grown ⟨rfl, rfl, rfl, Nat.le_refl _, fun _ _ _ => rfl⟩
    have HD := hidOf (show RecP B b A v g s sc ys k id w (.returned (.tuple #[.agg #[.int .i64 td.kd, .int .i64 td.ms.1, .int .i64 td.ms.2.1, .string td.ms.2.2, .int .i64 td.ix, .int .i64 td.n], .int .i64 4])) Zz from ⟨by rw [HTd.out, HCd.out], { A with a := some ⟨g', 0, none⟩, n := A.n + 1, c := c' }, P', f + d, by
      rw [hV]
      exact HR5.out.grownN gZ (by have h := HBw.out; omega) HLn.out (fun q e => by have h := HAl2.out.1 q e; omega) (fun q e => by have h := HGl.out; have e' : g = q := by simpa [Value.ownBlock] using e
                                                                                                                                   omega) (fun y hy q e => by have h := HAl2.out.2 y hy q e; omega), Nat.le_refl _, rfl, by rw [hZ2]; exact setL_below (by have h := HBw.out; omega) HB5.out⟩)
    clear hV gZ
    clear hZ2 TZ bZ T5 N5
    go_wp2_with fail
    clear hZ
    exact bodyPost_ret (v := .tuple #[.agg #[.int .i64 td.kd, .int .i64 td.ms.1, .int .i64 td.ms.2.1, .string td.ms.2.2, .int .i64 td.ix, .int .i64 td.n], .int .i64 4]) (by simp [results, Tryz.results105, go_sem, t0, t1, t2, t3, t4, t5]) rfl HD.out
  · have hc4b : (cd == 4) = false := by simp [hc4]
    have R4 := R3
    have T4 := T3
    have N4 := N2
    have B4 := B3
    have HLn := hidOf (show ∀ q, (Value.slice A.a A.n A.c).ownBlock = some q → q ≠ w.heap.size from fun q e => by have h := HAl.out _ e; omega)
    clear R3 T3 N2 B3
    have HDr := hidOf (dropOld_any B b A P f (rdV v k) (some ⟨g, 0, none⟩) s sc (ysS ys k (readS v (v.sb.getD k Sb0))) V2 R4 HS.out.1 HCp.out.1 HCp.out.2 d HDd.out.1 HDd.out.2.1)
    clear R4
    go_wp2_with fail
    refine (HDr.out).mono ?_
    rintro e w5 ⟨rfl, P', R5, gr5⟩
    have T5 := T4.grown gr5 (fun e => by have h := HBw.out; injection e with e; omega)
    have N5 := N4.grown gr5 (fun e => by have h := HNT.out; injection e with e; omega)
    have B5 : Below B w w5 := B4.grown gr5 (by have h1 := B4.size; have h2 := HBw.out; omega) (fun q e => by injection e with e; rw [← e]; exact HBw.out.2)
    have HR5 := hidOf R5
    have HB5 := hidOf B5
    clear T4 N4 B4 R5 B5 gr5 HDr
    obtain ⟨u0, u1, u2, u3, u4, u5⟩ := box6 T5
    have uf := T5.fr
    obtain ⟨n0, n1, n2, n3, n4, n5⟩ := box6 N5
    obtain ⟨Zz, hZ⟩ : ∃ Z, ((((((w5.setCell ⟨w.heap.size, 0, none⟩ (.int .i64 td.kd)).setCell ⟨w.heap.size, 1, none⟩ (.int .i64 td.ms.1)).setCell ⟨w.heap.size, 2, none⟩ (.int .i64 td.ms.2.1)).setCell ⟨w.heap.size, 3, none⟩ (.string td.ms.2.2)).setCell ⟨w.heap.size, 4, none⟩ (.int .i64 td.ix)).setCell ⟨w.heap.size, 5, none⟩ (.int .i64 td.n)) = Z := ⟨_, rfl⟩
    have hZ2 : Zz = setL w5 w.heap.size 0 [.int .i64 td.kd, .int .i64 td.ms.1, .int .i64 td.ms.2.1, .string td.ms.2.2, .int .i64 td.ix, .int .i64 td.n] := by rw [← hZ]; rfl
    have TZ : BoxL w.heap.size [.int .i64 td.kd, .int .i64 td.ms.1, .int .i64 td.ms.2.1, .string td.ms.2.2, .int .i64 td.ix, .int .i64 td.n] Zz := by rw [hZ2]; exact T5.setAll rfl
    have bZ : Below w.heap.size w5 Zz := by rw [hZ2]; exact setL_below (Nat.le_refl _) (Below.refl _ _)
    obtain ⟨t0, t1, t2, t3, t4, t5⟩ := box6 TZ
    have hV : trimR (waitV v k id) = { (rdV v k) with it := v.it.drop d } := by
      unfold waitV
      rw [HCd.out, if_neg hc4, HDd.out.2.2]
    have gZ : w5.grownBy Zz (some w.heap.size) := by rw [hZ2]; exact setL_grown ⟨rfl, rfl, rfl, Nat.le_refl _, fun _ _ _ => rfl⟩
    have HD := hidOf (show RecP B b A v g s sc ys k id w (.returned (.tuple #[.agg #[.int .i64 td.kd, .int .i64 td.ms.1, .int .i64 td.ms.2.1, .string td.ms.2.2, .int .i64 td.ix, .int .i64 td.n], .int .i64 cd])) Zz from ⟨by rw [HTd.out, HCd.out], A, P', f + d, by
      rw [hV]
      exact HR5.out.grownN gZ (by have h := HBw.out; omega) HLn.out (fun q e => by have h := HAl2.out.1 q e; omega) (fun q e => by have h := HGl.out; have e' : g = q := by simpa [Value.ownBlock] using e
                                                                                                                                   omega) (fun y hy q e => by have h := HAl2.out.2 y hy q e; omega), Nat.le_succ _, rfl, by rw [hZ2]; exact setL_below (by have h := HBw.out; omega) HB5.out⟩)
    clear hV gZ
    clear hZ2 TZ bZ T5 N5
    go_wp2_with fail
    clear hZ
    exact bodyPost_ret (v := .tuple #[.agg #[.int .i64 td.kd, .int .i64 td.ms.1, .int .i64 td.ms.2.1, .string td.ms.2.2, .int .i64 td.ix, .int .i64 td.n], .int .i64 cd]) (by simp [results, Tryz.results105, go_sem, t0, t1, t2, t3, t4, t5]) rfl HD.out
end Go.Proofs.YtihdglmiecifjaaGreat
