/-
  The program's pulling: its states; what the reader does
  The program's pulling: what the reader does, whatever a round does
-/
import Derived.Test.YtdboaoejlkkoeaaGreatZPu37
namespace Go.Proofs.YtdboaoejlkkoeaaGreat
open Go.RowKit Go.Maps Pl Il Go.Shelf
attribute [local go_sem] Oper.semAt_some
structure PSt where
  j : Nat
  u : Rv
  l : List Td
  c : Int
structure PCn where
  w : World
  B : Nat
  b : Nat
  A : Na
  g : Nat
  sz : Nat
  sc : Nat
  k : Nat
  most : Nat
  v : Rv
def PgB (C : PCn) (u : Rv) (W : World) : Prop := ∃ (P : Nat → Tm) (f : Nat) (ys : List Sa), RBody C.B C.b C.A P f u (some ⟨C.g, 0, none⟩) C.sz C.sc ys W ∧ (∀ y, y ∈ ys → y.n ≤ 2097152) ∧ C.k < ys.length ∧ (∀ y, y ∈ ys → ∀ q, (Value.slice y.a y.n y.c).ownBlock = some q → q < C.w.heap.size)
structure PgF (C : PCn) (l : List Td) (c : Int) (W : World) : Prop where
  mo : BoxL C.w.heap.size [.int .i64 (C.most : Int)] W
  li : ∃ (la : Option Addr) (lc : Nat), BoxL (C.w.heap.size + 1) [.slice la l.length lc] W ∧ W.ownsRow (C.w.heap.size + 5) 53 6 (.slice la l.length lc) l.length (dflat l)
  la : BoxL (C.w.heap.size + 2) [.int .i64 c] W
  rb : BoxL (C.w.heap.size + 3) [.pointer (some ⟨C.b, 0, none⟩)] W
  rs : BoxL (C.w.heap.size + 4) [.pointer (some ⟨C.g, C.k * 7, none⟩)] W
  bel : Below C.B C.w W
structure PCk (C : PCn) : Prop where
  bB : C.B ≤ C.b ∧ C.b < C.w.heap.size
  gB : C.B ≤ C.g ∧ C.g < C.w.heap.size
  Al : (∀ q, (Value.slice C.A.a C.A.n C.A.c).ownBlock = some q → q < C.w.heap.size) ∧ (∀ q, (Value.slice C.A.a' C.A.n' C.A.c').ownBlock = some q → q < C.w.heap.size)
  sz : C.sz ≤ 2097152
  gl : GOk C.w ∧ 0 < C.B
  mo : C.most ≤ 50
def PgI (C : PCn) (s : PSt) (W : World) : Prop := PulI C.most C.v C.k s.j s.u s.l s.c ∧ RdOk s.u C.k ∧ PgB C s.u W ∧ PgF C s.l s.c W ∧ (s.c = 0 → s.l.length < C.most)
def PgM (C : PCn) (s : PSt) (args : Array Value) (W : World) : Prop := PulI C.most C.v C.k s.j s.u s.l s.c ∧ RdOk s.u C.k ∧ PgB C s.u W ∧ ∃ (l0 : List Td) (t : Td), args = #[.agg #[.int .i64 t.kd, .int .i64 t.ms.1, .int .i64 t.ms.2.1, .string t.ms.2.2, .int .i64 t.ix, .int .i64 t.n], .int .i64 s.c] ∧ s.l = (if s.c = 0 then l0 ++ [t] else l0) ∧ l0.length < C.most ∧ PgF C l0 0 W
def PgX (C : PCn) (c : Code) (s : PSt) (W : World) : Prop := c = .exit 0 ∧ PulI C.most C.v C.k s.j s.u s.l s.c ∧ RdOk s.u C.k ∧ PgB C s.u W ∧ PgF C s.l s.c W ∧ s.c = 0 ∧ s.l.length = C.most
theorem GOk.belowB {w w' : World} {B : Nat} (h : GOk w) (hb : Below B w w') (hg : 0 < B) : GOk w' := by
  obtain ⟨m, hm⟩ := h
  exact ⟨m, by rw [hb.cell (p := ⟨0, 0, none⟩) hg]; exact hm⟩
theorem PgF.grown {C : PCn} {l : List Td} {c : Int} {W W' : World} (h : PgF C l c W) (hC : PCk C) {q : Option Nat} (hg : W.grownBy W' q) (hq : ∀ r, q = some r → C.B ≤ r ∧ (r < C.w.heap.size ∨ C.w.heap.size + 5 ≤ r)) (hl : ∀ r, q = some r → ∀ la lc, W.ownsRow (C.w.heap.size + 5) 53 6 (.slice la l.length lc) l.length (dflat l) → (Value.slice la l.length lc).ownBlock ≠ some r) : PgF C l c W' := by
  have ne : ∀ i, i < 5 → q ≠ some (C.w.heap.size + i) := fun i hi e => by have := hq _ e; omega
  obtain ⟨la, lc, h1, h2⟩ := h.li
  exact ⟨h.mo.grown hg (ne 0 (by omega)), ⟨la, lc, h1.grown hg (ne 1 (by omega)), rowG h2 hg fun r e => hl r e la lc h2⟩, h.la.grown hg (ne 2 (by omega)), h.rb.grown hg (ne 3 (by omega)), h.rs.grown hg (ne 4 (by omega)), h.bel.grown hg (by have := h.bel.size; have := hC.bB; omega) fun r e => (hq r e).1⟩
theorem PgF.low {C : PCn} {l : List Td} {c : Int} {W W' : World} (h : PgF C l c W) (hC : PCk C) {r : Nat} (hg : W.grownBy W' (some r)) (h1 : C.B ≤ r) (h2 : r < C.w.heap.size) : PgF C l c W' :=
  h.grown hC hg (fun q e => by injection e with e; subst e; exact ⟨h1, .inl h2⟩) (fun q e la lc ho e2 => by injection e with e; subst e; have := (row_lt ho e2).1; omega)
theorem PgF.keep {C : PCn} {l : List Td} {c : Int} {W W' : World} (h : PgF C l c W) (hC : PCk C) (hb : Below W.heap.size W W') : PgF C l c W' := by
  obtain ⟨la, lc, h1, h2⟩ := h.li
  exact ⟨h.mo.keep hb, ⟨la, lc, h1.keep hb, ownsRow_keep h2 hb⟩, h.la.keep hb, h.rb.keep hb, h.rs.keep hb, h.bel.trans (hb.mono (by have := h.bel.size; have := hC.bB; omega))⟩
theorem PgB.keep {C : PCn} {u : Rv} {W W' : World} (h : PgB C u W) (hb : Below W.heap.size W W') : PgB C u W' := by
  obtain ⟨P, f, ys, h1, h2⟩ := h
  exact ⟨P, f, ys, h1.keep hb, h2⟩
open Go.RowKit Go.Maps Pl Il Go.Shelf
attribute [local go_sem] Oper.semAt_some
def lenAt (N : Nat) (w : World) : Nat := match w.cell? ⟨N, 0, none⟩ with | some (.slice _ n _) => n | _ => 0
theorem PgF.lenAt {C : PCn} {l : List Td} {c : Int} {W : World} (h : PgF C l c W) : lenAt (C.w.heap.size + 1) W = l.length := by
  obtain ⟨la, lc, h1, _⟩ := h.li
  have := h1.cs 0 (by simp)
  simp at this
  unfold Go.Proofs.YtdboaoejlkkoeaaGreat.lenAt
  rw [this]
set_option maxRecDepth 100000 in
set_option maxHeartbeats 8000000 in
theorem reader1_any (C : PCn) (hC : PCk C) (n : Nat) (s0 : PSt) (hs0 : s0.c = 0) :
  SeqSt Fence.wide n Tryz.prog 180 #[.pointer (some ⟨C.w.heap.size + 3, 0, none⟩), .pointer (some ⟨C.w.heap.size + 4, 0, none⟩)] (C.w.heap.size + 5) (PgI C) (PgM C) (fun s => s.c ≠ 0) s0 := by
 intro l J K Z W hJI hK hJJ hY h0
 obtain ⟨N3, hN3⟩ : ∃ N, C.w.heap.size + 3 = N := ⟨_, rfl⟩
 obtain ⟨N4, hN4⟩ : ∃ N, C.w.heap.size + 4 = N := ⟨_, rfl⟩
 rw [hN3, hN4]
 have HN := hidOf (And.intro hN3 hN4)
 have HC := hidOf hC
 have HJI := hidOf hJI
 have HK := hidOf hK
 have HJJ := hidOf hJJ
 have HY := hidOf hY
 clear hC hJI hK hJJ hY hN3 hN4
 refine callsIn_of_wp Tryz.func180 rfl trivial ?_ rfl
 simp only [Tryz.ntmps180, List.size_toArray, List.length_cons, List.length_nil, Nat.reduceAdd, Nat.reduceSub, Array.replicate_succ, Array.replicate_zero, List.push_toArray, List.append_toArray, List.nil_append, List.cons_append]
 gi_wp2_with fail
 gi_loopw [] (fun wr => ∃ s, J s wr ∧ s.c = 0) (fun wr => C.most - lenAt (C.w.heap.size + 1) wr)
 case atStart => exact ⟨s0, h0, hs0⟩
 case round =>
  rename_i wr
  clear h0 hs0
  obtain ⟨s, hJ, hc⟩ := hrel
  obtain ⟨hin, hrd, ⟨P, f, ys, hR, hyn, hky, hlow⟩, hF, hnf⟩ := HJI.out s wr hJ
  have hC := HC.out
  have p3 : wr.cell? ⟨N3, 0, none⟩ = some (.pointer (some ⟨C.b, 0, none⟩)) := by rw [← HN.out.1]; simpa using hF.rb.cs 0 (by simp)
  have p4 : wr.cell? ⟨N4, 0, none⟩ = some (.pointer (some ⟨C.g, C.k * 7, none⟩)) := by rw [← HN.out.2]; simpa using hF.rs.cs 0 (by simp)
  have HRd := hidOf (read_any C.B C.b C.A P f s.u C.g C.sz C.sc ys C.k wr hR hrd hky hyn (hC.gl.1.belowB hF.bel hC.gl.2) hC.gl.2)
  obtain ⟨d, hd, ho, htr⟩ := rd_first hrd hR.se
  have HD := hidOf (And.intro hd (And.intro ho htr))
  have HS := hidOf (And.intro hin (And.intro hrd (And.intro hyn (And.intro hky (And.intro hlow (And.intro hF (And.intro (hnf hc) (And.intro hc hJ))))))))
  clear hin hrd hyn hky hlow hF hnf hC hd ho htr hR hc hJ
  gi_wp2_with fail
  refine ⟨trivial, (fun h => by cases h), (callsIn_wide.2 HRd.out).mono ?_⟩
  rintro e w2 ⟨rfl, R2, gr2⟩
  have hC := HC.out
  have HS' := HS.out
  have F2 := HS'.2.2.2.2.2.1.low hC gr2 hC.gB.1 hC.gB.2
  clear HS'
  obtain ⟨td, htd⟩ : ∃ td, readT s.u (s.u.sb.getD C.k Sb0) = td := ⟨_, rfl⟩
  obtain ⟨cd, hcd⟩ : ∃ cd, readC s.u (s.u.sb.getD C.k Sb0) = cd := ⟨_, rfl⟩
  rw [htd, hcd]
  have HT := hidOf (And.intro htd hcd)
  clear htd hcd HRd p3 p4
  obtain ⟨V2, hV2⟩ : ∃ V, V = w2.alloc (.cells #[.int .i64 td.kd, .int .i64 td.ms.1, .int .i64 td.ms.2.1, .string td.ms.2.2, .int .i64 td.ix, .int .i64 td.n] 53) := ⟨_, rfl⟩
  have b2 : Below w2.heap.size w2 V2 := by rw [hV2]; exact bl_alloc (Below.refl _ _) _
  have T2 : BoxL w2.heap.size [.int .i64 td.kd, .int .i64 td.ms.1, .int .i64 td.ms.2.1, .string td.ms.2.2, .int .i64 td.ix, .int .i64 td.n] V2 := by rw [hV2]; exact BoxL.new w2 [.int .i64 td.kd, .int .i64 td.ms.1, .int .i64 td.ms.2.1, .string td.ms.2.2, .int .i64 td.ix, .int .i64 td.n] _
  have F3 := F2.keep hC b2
  have q3 : V2.cell? ⟨N3, 0, none⟩ = some (.pointer (some ⟨C.b, 0, none⟩)) := by rw [← HN.out.1]; simpa using F3.rb.cs 0 (by simp)
  have R3 := R2.keep b2
  have HDr := hidOf (dropOld_any C.B C.b C.A P f (rdV s.u C.k) (some ⟨C.g, 0, none⟩) C.sz C.sc (ysS ys C.k (readS s.u (s.u.sb.getD C.k Sb0))) V2 R3 hC.sz HS.out.2.1.se HS.out.2.1.cp d HD.out.1 HD.out.2.1)
  rw [hV2] at q3
  have hsz : wr.heap.size ≤ w2.heap.size := gr2.size
  have HV := hidOf hV2
  have HF3 := hidOf F3
  have HT2 := hidOf T2
  have HG2 := hidOf (And.intro gr2 b2)
  have HWs := hidOf (show C.w.heap.size + 5 ≤ w2.heap.size by have := HS.out.2.2.2.2.2.1.rs.lt; omega)
  clear F2 R2 gr2 hC b2 T2 F3 R3 hsz
  gi_wp2_with fail
  rw [← HV.out]
  refine ⟨trivial, (fun h => by cases h), (callsIn_wide.2 HDr.out).mono ?_⟩
  rintro e w5 ⟨rfl, P', R5, gr5⟩
  have hC := HC.out
  have hbw : C.b < w2.heap.size := by have := HWs.out; have := hC.bB; omega
  have T5 := HT2.out.grown gr5 (fun e => by injection e with e; omega)
  have F5 := HF3.out.low hC gr5 hC.bB.1 hC.bB.2
  obtain ⟨u0, u1, u2, u3, u4, u5⟩ := box6 T5
  have hstp : StpF (C.w.heap.size + 5) wr w5 := by
   refine ⟨Nat.le_trans HG2.out.1.size (Nat.le_trans HG2.out.2.size gr5.size), fun i hi hl => ?_⟩
   have e1 := HG2.out.1.block i hl (fun e => by injection e with e; have := hC.gB; omega)
   have e2 := HG2.out.2.block i (Nat.lt_of_lt_of_le hl HG2.out.1.size)
   have e3 := gr5.block i (Nat.lt_of_lt_of_le hl (Nat.le_trans HG2.out.1.size HG2.out.2.size)) (fun e => by injection e with e; have := hC.bB; omega)
   rw [e3, e2, e1]
  obtain ⟨hin, hrd, hyn, hky, hlow, hF, hlt, hc, hJ⟩ := HS.out
  obtain ⟨s', hs'⟩ : ∃ s' : PSt, s' = ⟨s.j + 1, trimR (rdV s.u C.k), if cd = 0 then s.l ++ [td] else s.l, cd⟩ := ⟨_, rfl⟩
  have hM : PgM C s' #[.agg #[.int .i64 td.kd, .int .i64 td.ms.1, .int .i64 td.ms.2.1, .string td.ms.2.2, .int .i64 td.ix, .int .i64 td.n], .int .i64 cd] w5 := by
   rw [hs']
   refine ⟨?_, rd_again hrd, ⟨P', f + d, ysS ys C.k (readS s.u (s.u.sb.getD C.k Sb0)), ?_, ?_, ?_, ?_⟩, s.l, td, rfl, rfl, hlt, ?_⟩
   ·have h := (show PulI C.most C.v C.k s.j s.u s.l 0 by rw [hc] at hin; exact hin).next (by have := hin.len; have := (hin.go hc).1; omega)
    rw [HT.out.1, HT.out.2] at h
    exact h
   ·rw [HD.out.2.2]; exact R5
   ·intro y hy; obtain ⟨x, hx, e⟩ := ysS_mem hky y hy; rw [e]; exact hyn x hx
   ·rw [ysS_len]; exact hky
   ·intro y hy q e
    rcases List.mem_or_eq_of_mem_set hy with h' | h'
    ·exact hlow y h' q e
    ·rw [h'] at e; exact hlow (sg ys C.k) (sg_mem hky) q e
   ·rw [hc] at F5; exact F5
  obtain ⟨fn, tmps, assign, body, hy, hRd⟩ := HY.out s' _ w5 (HK.out s wr s' _ w5 hJ hM hstp)
  have HM2 := hidOf (And.intro hM (And.intro hstp (And.intro hs' hlt)))
  have HLen := hidOf hF.lenAt
  clear hM hstp hs' hin hrd hyn hky hlow hF hlt hc hJ F5 T5 gr5 R5 hC hbw HDr q3
  gi_wp2_with fail
  refine ⟨fun h => (by cases h), hRd.mono ?_⟩
  clear hRd hy
  rintro e W3 (⟨rfl, hJ3⟩ | ⟨rfl, hZ3⟩)
  ·by_cases hcd : cd = 0
   ·subst hcd
    gi_wp2_with fail
    go_roundw
    case rel => exact ⟨s', hJ3, by rw [HM2.out.2.2.1]⟩
    case measure =>
     have h3 := (HJI.out s' W3 hJ3).2.2.2.1.lenAt
     have h1 := HLen.out
     have h4 := HM2.out.2.2.2
     rw [h3, h1, HM2.out.2.2.1]
     simp
     omega
   ·gi_wp2_with fail
    refine bodyPost_ret (results_none rfl _ _ _) rfl ?_
    exact ⟨⟨_, rfl⟩, .inl ⟨s', by rw [HM2.out.2.2.1]; exact hcd, hJ3⟩⟩
  ·gi_wp2_with fail
   refine bodyPost_ret (results_none rfl _ _ _) rfl ?_
   exact ⟨⟨_, rfl⟩, .inr ⟨s', hZ3⟩⟩
end Go.Proofs.YtdboaoejlkkoeaaGreat
