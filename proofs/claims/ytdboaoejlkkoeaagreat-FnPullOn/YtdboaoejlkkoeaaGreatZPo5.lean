/-
  The specification's copy of a ring
-/
import Derived.Test.YtdboaoejlkkoeaaGreatZPo3
import Derived.Deep.CutRange
namespace Go.Proofs.YtdboaoejlkkoeaaGreat
open Go.RowKit Pl Il
theorem row_empty (w : World) (t : TypeId) (s : Nat) : (w.alloc (.cells #[] t)).ownsRow w.heap.size t s (.slice (some ⟨w.heap.size, 0, none⟩) 0 0) 0 [] := World.ownsRow_made w #[] 0 (Nat.le_refl _) (by unfold maxLen; omega) (by simp)
theorem bl_trans2 {B B' : Nat} {w w1 w2 : World} (h : Below B w w1) (h' : Below B' w1 w2) (hB : B ≤ B') : Below B w w2 :=
  ⟨h'.os.trans h.os, h'.tape.trans h.tape, h'.output.trans h.output, Nat.le_trans h.size h'.size, fun k hk => (h'.block k (by omega)).trans (h.block k hk)⟩
def CpR (w : World) (M : Rm) (v : Rv) (e : Ending) (w' : World) : Prop := ∃ M' : Rm, e = .returned (.agg #[.int .i64 v.cp, .int .i64 v.se, .slice M'.ia M'.i M'.ic, .int .i64 v.nx, .slice M'.sa M'.s M'.sc, .slice M'.la M'.l M'.lc, .slice M'.ga M'.g M'.gc, .bool v.cl]) ∧ RRow w.heap.size w' M' v ∧ (∀ k, RLe M k → RLe M' k) ∧ Below w.heap.size w w'
structure CpS (w : World) (M : Rm) (v : Rv) (M' : Rm) (v' : Rv) (u : World) : Prop where
  arg : BoxL w.heap.size (rC M v) u
  res : BoxL (w.heap.size + 1) [.int .i64 0, .int .i64 0, .slice none 0 0, .int .i64 0, .slice none 0 0, .slice none 0 0, .slice none 0 0, .bool false] u
  out : BoxL (w.heap.size + 2) (rC M' v') u
  rin : RIn u M v
  row : RRow (w.heap.size + 3) u M' v'
  below : Below w.heap.size w u
theorem CpS.keep {w : World} {M : Rm} {v : Rv} {M' : Rm} {v' : Rv} {u u' : World} (h : CpS w M v M' v' u) (hb : Below u.heap.size u u') : CpS w M v M' v' u' := ⟨h.arg.keep hb, h.res.keep hb, h.out.keep hb, h.rin.keep hb, h.row.keep hb, bl_trans h.below hb⟩
theorem CpS.push {w : World} {M : Rm} {v : Rv} {M' : Rm} {v' : Rv} {u w' : World} {x : Sa} {a' : Option Addr} {c' : Nat} (h : CpS w M v M' v' u) (hx : u.ownsRow (w.heap.size + 3) 132 3 (.slice x.a x.n x.c) x.n (qflat x.s.fl)) (hxs : ∀ p, p ∈ x.s.fl → p.2.2.size ≤ maxLen)
    (hxb : ∀ q, (Value.slice x.a x.n x.c).ownBlock = some q → some q ∉ blkR M') (ho : w'.ownsRow (w.heap.size + 3) 41 7 (.slice a' (M'.s + 1) c') (M'.s + 1) (sflat (M'.xs ++ [x]))) (hg : u.grownBy w' (Value.slice M'.sa M'.s M'.sc).ownBlock)
    (hl : ∀ q, (Value.slice a' (M'.s + 1) c').ownBlock = some q → (Value.slice M'.sa M'.s M'.sc).ownBlock = some q ∨ u.heap.size ≤ q) (hI : RIn w M v) :
    CpS w M v { M' with sa := a', s := M'.s + 1, sc := c', xs := M'.xs ++ [x] } { v' with sb := v'.sb ++ [x.s] } (w'.setCell ⟨w.heap.size + 1 + 1, 4, none⟩ (.slice a' (M'.s + 1) c')) := by
  have ge : ∀ q, (Value.slice M'.sa M'.s M'.sc).ownBlock = some q → w.heap.size + 3 ≤ q := fun q e => (row_lt h.row.sb e).1
  have ne : ∀ N, N < w.heap.size + 3 → (Value.slice M'.sa M'.s M'.sc).ownBlock ≠ some N := fun N hN e => by have := ge N e; omega
  have b1 : Below w.heap.size w w' := h.below.grown hg h.below.size (fun k hk => by have := ge k hk; omega)
  have b2 : Below w.heap.size w (w'.setCell ⟨w.heap.size + 1 + 1, 4, none⟩ (.slice a' (M'.s + 1) c')) := bl_setB b1 _ _ (by omega) _
  have hr := h.row.push hx hxs hxb ho hg hl
  exact ⟨(h.arg.grown hg (ne _ (by omega))).far _ _ (by omega) _, (h.res.grown hg (ne _ (by omega))).far _ _ (by omega) _, (h.out.grown hg (ne _ (by omega))).set 4 (by simp) _, hI.keep b2, hr.grown (grown_setC _ _ _ _) (hr.out (by omega)), b2⟩
set_option maxRecDepth 100000 in
set_option maxHeartbeats 8000000 in
theorem l9Copy_any (M : Rm) (v : Rv) (w : World) (hI : RIn w M v) (hm : RLe M 2097152) :
    Calls Tryz.prog 83 #[.agg #[.int .i64 v.cp, .int .i64 v.se, .slice M.ia M.i M.ic, .int .i64 v.nx, .slice M.sa M.s M.sc, .slice M.la M.l M.lc, .slice M.ga M.g M.gc, .bool v.cl]] w fun e w' => CpR w M v e w' := by
  obtain ⟨W2, hW2⟩ : ∃ W, W = ((w.alloc (.cells #[.int .i64 v.cp, .int .i64 v.se, .slice M.ia M.i M.ic, .int .i64 v.nx, .slice M.sa M.s M.sc, .slice M.la M.l M.lc, .slice M.ga M.g M.gc, .bool v.cl] 28)).alloc (.cells #[.int .i64 0, .int .i64 0, .slice none 0 0, .int .i64 0, .slice none 0 0, .slice none 0 0, .slice none 0 0, .bool false] 28)).alloc (.cells #[.int .i64 v.cp, .int .i64 v.se, .slice M.ia M.i M.ic, .int .i64 v.nx, .slice M.sa M.s M.sc, .slice M.la M.l M.lc, .slice M.ga M.g M.gc, .bool v.cl] 28) := ⟨_, rfl⟩
  have b2 : Below w.heap.size w W2 := by rw [hW2]; exact bl_alloc (bl_alloc (bl_alloc (Below.refl _ _) _) _) _
  have s2 : W2.heap.size = w.heap.size + 3 := by rw [hW2]; simp
  have A2 : BoxL w.heap.size (rC M v) W2 := by rw [hW2]; exact ((BoxL.new w (rC M v) _).alloc _).alloc _
  have R2 : BoxL (w.heap.size + 1) [.int .i64 0, .int .i64 0, .slice none 0 0, .int .i64 0, .slice none 0 0, .slice none 0 0, .slice none 0 0, .bool false] W2 := by
    rw [hW2]
    have h := (BoxL.new (w.alloc (.cells (rC M v).toArray 28)) [.int .i64 0, .int .i64 0, .slice none 0 0, .int .i64 0, .slice none 0 0, .slice none 0 0, .slice none 0 0, .bool false] 28).alloc (.cells (rC M v).toArray 28)
    simpa using h
  have O2 : BoxL (w.heap.size + 2) (rC M v) W2 := by
    rw [hW2]
    have h := BoxL.new ((w.alloc (.cells (rC M v).toArray 28)).alloc (.cells #[.int .i64 0, .int .i64 0, .slice none 0 0, .int .i64 0, .slice none 0 0, .slice none 0 0, .slice none 0 0, .bool false] 28)) (rC M v) 28
    simpa using h
  have hI2 := hI.keep b2
  have hmi := hm.i
  have hml := hm.l
  have hmg := hm.g
  have hms := hm.s
  obtain ⟨a3, c3, w3, hr3, ho3, hg3, hl3⟩ := append_msgR W2.heap.size 0 (.slice (some ⟨W2.heap.size, 0, none⟩) 0 0) [] M.ia M.i M.ic v.it (W2.alloc (.cells #[] 30)) (row_empty W2 _ 3) (by simp) (hI2.it.keep (bl_alloc (Below.refl _ _) _)) (by omega)
  rw [Nat.zero_add] at hr3 ho3 hl3
  rw [List.nil_append] at ho3
  have p2 : ∀ o, (W2.alloc o).cell? ⟨w.heap.size, 2, none⟩ = some (.slice M.ia M.i M.ic) := fun o => (A2.alloc o).cs 2 (by simp)
  have hg3' : (W2.alloc (.cells #[] 30)).grownBy w3 (some W2.heap.size) := hg3
  have A3 := (A2.alloc (.cells #[] 30)).grown hg3' (by simp; omega)
  have R3 := (R2.alloc (.cells #[] 30)).grown hg3' (by simp; omega)
  have O3 := (O2.alloc (.cells #[] 30)).grown hg3' (by simp; omega)
  have f3 := O3.fr
  have q3 := O3.cs 2 (by simp)
  simp at q3
  have b3 : Below W2.heap.size W2 w3 := (bl_alloc (Below.refl _ _) _).grown hg3' (by simp) (fun k hk => by injection hk with hk; omega)
  have Hr3 := hidOf hr3
  have HS2 := hidOf s2
  clear s2 hr3 hg3 hg3'
  go_enter Tryz.func83, Tryz.ntmps83
  go_upto_region 2 with fail
  rw [← hW2]
  clear hW2
  go_upto_region 3 with (at_builtin; refine wpList_append_run rfl _ _ 24 rfl _ _ _ rfl rfl Hr3.out ?_)
  have bw3 : Below w.heap.size w w3 := bl_trans2 b2 b3 (by have := HS2.out; omega)
  have it3 := ho3
  -- U1
  obtain ⟨U1, hU1⟩ : ∃ U, U = w3.setCell ⟨w.heap.size + 1 + 1, 2, none⟩ (.slice a3 M.i c3) := ⟨_, rfl⟩
  rw [← hU1]
  have A4 : BoxL w.heap.size (rC M v) U1 := by rw [hU1]; exact A3.far _ _ (by omega) _
  have R4 : BoxL (w.heap.size + 1) [.int .i64 0, .int .i64 0, .slice none 0 0, .int .i64 0, .slice none 0 0, .slice none 0 0, .slice none 0 0, .bool false] U1 := by rw [hU1]; exact R3.far _ _ (by omega) _
  have O4 : BoxL (w.heap.size + 2) [.int .i64 v.cp, .int .i64 v.se, .slice a3 M.i c3, .int .i64 v.nx, .slice M.sa M.s M.sc, .slice M.la M.l M.lc, .slice M.ga M.g M.gc, .bool v.cl] U1 := by rw [hU1]; exact O3.set 2 (by simp) _
  have it4 : U1.ownsRow W2.heap.size 30 3 (.slice a3 M.i c3) M.i (qflat v.it) := by rw [hU1]; exact rowG it3 (grown_setC _ _ _ _) (fun q e e' => by injection e with e; have := (row_lt it3 e').1; have := HS2.out; omega)
  have bw4 : Below w.heap.size w U1 := by rw [hU1]; exact bl_setB bw3 _ _ (by omega) _
  have hz4 : U1.heap.size = w3.heap.size := by rw [hU1]; simp
  have HZ4 := hidOf hz4
  have IT3 := hidOf (fun q (e : (Value.slice a3 M.i c3).ownBlock = some q) => (row_lt it4 e).2)
  have HI0 := hidOf hI
  have HC4 := hidOf (l2Copy_any M.la M.l M.lc v.ln U1 (hI.keep bw4).ln hml)
  have p5 := A4.cs 5 (by simp)
  simp at p5
  clear hU1 A3 R3 O3 f3 q3 ho3 it3 p2 Hr3 hI2 b2 A2 R2 O2 hz4 hI bw3
  go_wp2_with fail
  refine (HC4.out).mono ?_
  rintro e w4 ⟨g4, c4, rfl, ho4, b4⟩
  have A5 := A4.keep b4
  have R5 := R4.keep b4
  have O5 := O4.keep b4
  have it5 := ownsRow_keep it4 b4
  have bw5 := bl_trans bw4 b4
  have hs4 := b4.size
  clear A4 R4 O4 it4 HC4 p5
  have f5 := O5.fr
  have q5 := O5.cs 5 (by simp)
  simp at q5
  go_upto_region 4 with fail
  -- U2
  obtain ⟨U2, hU2⟩ : ∃ U, U = w4.setCell ⟨w.heap.size + 1 + 1, 5, none⟩ (.slice (some ⟨g4, 0, none⟩) M.l c4) := ⟨_, rfl⟩
  rw [← hU2]
  have A6 : BoxL w.heap.size (rC M v) U2 := by rw [hU2]; exact A5.far _ _ (by omega) _
  have R6 : BoxL (w.heap.size + 1) [.int .i64 0, .int .i64 0, .slice none 0 0, .int .i64 0, .slice none 0 0, .slice none 0 0, .slice none 0 0, .bool false] U2 := by rw [hU2]; exact R5.far _ _ (by omega) _
  have O6 : BoxL (w.heap.size + 2) [.int .i64 v.cp, .int .i64 v.se, .slice a3 M.i c3, .int .i64 v.nx, .slice M.sa M.s M.sc, .slice (some ⟨g4, 0, none⟩) M.l c4, .slice M.ga M.g M.gc, .bool v.cl] U2 := by rw [hU2]; exact O5.set 5 (by simp) _
  have low : ∀ q : Nat, W2.heap.size ≤ q → w.heap.size + 1 + 1 ≠ q := fun q h => by have := HS2.out; omega
  have hw3 : W2.heap.size ≤ w3.heap.size := b3.size
  have g4ge : U1.heap.size ≤ g4 := (owns_parts ho4).2.1
  have g4lt : g4 < w4.heap.size := (owns_parts ho4).2.2.1
  have it6 : U2.ownsRow W2.heap.size 30 3 (.slice a3 M.i c3) M.i (qflat v.it) := by rw [hU2]; exact rowG it5 (grown_setC _ _ _ _) (fun q e e' => by injection e with e; exact low _ (row_lt it5 e').1 e)
  have ln6 : U2.ownsRow W2.heap.size 3 1 (.slice (some ⟨g4, 0, none⟩) M.l c4) M.l (intsV v.ln) := by
    rw [hU2]
    exact rowG (rowM ho4 (by have := HZ4.out; omega)) (grown_setC _ _ _ _) (fun q e e' => by injection e with e; have e2 : g4 = q := by simpa [Value.ownBlock] using e'
                                                                                             exact low _ (by have := HZ4.out; omega) e)
  have bw6 : Below w.heap.size w U2 := by rw [hU2]; exact bl_setB bw5 _ _ (by omega) _
  have HZ6 := hidOf (show U2.heap.size = w4.heap.size by rw [hU2]; simp)
  have HC6 := hidOf (l2Copy_any M.ga M.g M.gc v.gs U2 (HI0.out.keep bw6).gs hmg)
  have p6 := A6.cs 6 (by simp)
  simp at p6
  have LOW := hidOf low
  clear hU2 A5 R5 O5 f5 q5 it5 ho4 bw5 b4 low
  go_wp2_with fail
  refine (HC6.out).mono ?_
  rintro e w5 ⟨g5, c5, rfl, ho5, b5⟩
  have A7 := A6.keep b5
  have R7 := R6.keep b5
  have O7 := O6.keep b5
  have it7 := ownsRow_keep it6 b5
  have ln7 := ownsRow_keep ln6 b5
  have bw7 := bl_trans bw6 b5
  have hs5 := b5.size
  clear A6 R6 O6 it6 ln6 HC6 p6
  have f7 := O7.fr
  have q7 := O7.cs 6 (by simp)
  simp at q7
  go_upto_region 5 with fail
  -- U3
  obtain ⟨U3, hU3⟩ : ∃ U, U = w5.setCell ⟨w.heap.size + 1 + 1, 6, none⟩ (.slice (some ⟨g5, 0, none⟩) M.g c5) := ⟨_, rfl⟩
  rw [← hU3]
  have A8 : BoxL w.heap.size (rC M v) U3 := by rw [hU3]; exact A7.far _ _ (by omega) _
  have R8 : BoxL (w.heap.size + 1) [.int .i64 0, .int .i64 0, .slice none 0 0, .int .i64 0, .slice none 0 0, .slice none 0 0, .slice none 0 0, .bool false] U3 := by rw [hU3]; exact R7.far _ _ (by omega) _
  have O8 : BoxL (w.heap.size + 2) [.int .i64 v.cp, .int .i64 v.se, .slice a3 M.i c3, .int .i64 v.nx, .slice M.sa M.s M.sc, .slice (some ⟨g4, 0, none⟩) M.l c4, .slice (some ⟨g5, 0, none⟩) M.g c5, .bool v.cl] U3 := by rw [hU3]; exact O7.set 6 (by simp) _
  have g5ge : U2.heap.size ≤ g5 := (owns_parts ho5).2.1
  have g5lt : g5 < w5.heap.size := (owns_parts ho5).2.2.1
  have it8 : U3.ownsRow W2.heap.size 30 3 (.slice a3 M.i c3) M.i (qflat v.it) := by rw [hU3]; exact rowG it7 (grown_setC _ _ _ _) (fun q e e' => by injection e with e; exact LOW.out _ (row_lt it7 e').1 e)
  have ln8 : U3.ownsRow W2.heap.size 3 1 (.slice (some ⟨g4, 0, none⟩) M.l c4) M.l (intsV v.ln) := by rw [hU3]; exact rowG ln7 (grown_setC _ _ _ _) (fun q e e' => by injection e with e; exact LOW.out _ (row_lt ln7 e').1 e)
  have gs8 : U3.ownsRow W2.heap.size 3 1 (.slice (some ⟨g5, 0, none⟩) M.g c5) M.g (intsV v.gs) := by
    have ho5' := rowM ho5 (show W2.heap.size ≤ U2.heap.size by have := HZ4.out; have := HZ6.out; omega)
    rw [hU3]
    exact rowG ho5' (grown_setC _ _ _ _) (fun q e e' => by injection e with e; exact LOW.out _ (row_lt ho5' e').1 e)
  have bw8 : Below w.heap.size w U3 := by rw [hU3]; exact bl_setB bw7 _ _ (by omega) _
  have HZ8 := hidOf (show U3.heap.size = w5.heap.size by rw [hU3]; simp)
  clear hU3 A7 R7 O7 f7 q7 it7 ln7 ho5 bw7 b5
  have f8 : ∀ o p, (U3.alloc o).frozen? ⟨w.heap.size + 1 + 1, p, none⟩ = false := fun o p => (O8.alloc o).fr p
  have q8 : ∀ o, (U3.alloc o).cell? ⟨w.heap.size + 1 + 1, 4, none⟩ = some (.slice M.sa M.s M.sc) := fun o => (O8.alloc o).cs 4 (by simp)
  have hn8 : ¬ U3.heap.size = w.heap.size + 1 + 1 := fun h => by have := O8.lt; omega
  have hn8' : ¬ w.heap.size + 1 + 1 = U3.heap.size := fun h => hn8 h.symm
  go_upto_region 6 with fail
  obtain ⟨M4, hM4⟩ : ∃ M4 : Rm, M4 = ⟨a3, M.i, c3, some ⟨U3.heap.size, 0, none⟩, 0, 0, [], some ⟨g4, 0, none⟩, M.l, c4, some ⟨g5, 0, none⟩, M.g, c5⟩ := ⟨_, rfl⟩
  obtain ⟨U4, hU4⟩ : ∃ U, U = (U3.alloc (.cells #[] 41)).setCell ⟨w.heap.size + 1 + 1, 4, none⟩ (.slice (some ⟨U3.heap.size, 0, none⟩) 0 0) := ⟨_, rfl⟩
  rw [← hU4]
  have hS4 : CpS w M v M4 { v with sb := v.sb.take 0 } U4 := by
    have ba := bl_alloc (Below.refl U3.heap.size U3) (.cells #[] 41)
    have sb9 := row_empty U3 41 7
    have it9 := ownsRow_keep it8 ba
    have ln9 := ownsRow_keep ln8 ba
    have gs9 := ownsRow_keep gs8 ba
    have hz := HS2.out
    have hU3g : w.heap.size + 3 ≤ U3.heap.size := by have := O8.lt; have := (row_lt ln8 (q := g4) rfl).2; have := (row_lt ln8 (q := g4) rfl).1; omega
    have fw : ∀ q, U3.heap.size ≤ q → w.heap.size + 1 + 1 ≠ q := fun q h => by omega
    rw [hU4, hM4]
    refine ⟨(A8.alloc _).far _ _ (by omega) _, (R8.alloc _).far _ _ (by omega) _, (O8.alloc _).set 4 (by simp) _, HI0.out.keep (bl_setB (bl_alloc bw8 _) _ _ (by omega) _), ?_, bl_setB (bl_alloc bw8 _) _ _ (by omega) _⟩
    rw [← hz]
    refine ⟨rowG it9 (grown_setC _ _ _ _) (fun q e e' => by injection e with e; exact LOW.out _ (row_lt it9 e').1 e), HI0.out.it.short, ?_, fun x hx => (by cases hx), fun x hx => (by cases hx), rfl, rowG ln9 (grown_setC _ _ _ _) (fun q e e' => by injection e with e; exact LOW.out _ (row_lt ln9 e').1 e), rowG gs9 (grown_setC _ _ _ _) (fun q e e' => by injection e with e; exact LOW.out _ (row_lt gs9 e').1 e), ?_⟩
    · exact rowG (rowM sb9 (by have := HZ4.out; have := HZ6.out; have := HZ8.out; omega)) (grown_setC _ _ _ _) (fun q e e' => by
        injection e with e
        have e2 : U3.heap.size = q := by simpa [Value.ownBlock] using e'
        exact fw q (by omega) e)
    · refine apt_iff.2 ?_
      have lti : ∀ q, (Value.slice a3 M.i c3).ownBlock = some q → q < U1.heap.size := IT3.out
      have z4 := HZ4.out
      have z6 := HZ6.out
      have z8 := HZ8.out
      refine ⟨fun b e e' => ?_, fun b e e' => ?_, fun b e e' => ?_, fun x hx => (by cases hx), fun b e e' => ?_, fun b e e' => ?_, fun x hx => (by cases hx), fun b e e' => ?_, fun x hx => (by cases hx), fun x hx => (by cases hx), List.Pairwise.nil⟩
      · have e2 : U3.heap.size = b := by simpa [Value.ownBlock] using e'
        have := lti b e; omega
      · have e2 : g4 = b := by simpa [Value.ownBlock] using e'
        have := lti b e; omega
      · have e2 : g5 = b := by simpa [Value.ownBlock] using e'
        have := lti b e; omega
      · have e1 : U3.heap.size = b := by simpa [Value.ownBlock] using e
        have e2 : g4 = b := by simpa [Value.ownBlock] using e'
        omega
      · have e1 : U3.heap.size = b := by simpa [Value.ownBlock] using e
        have e2 : g5 = b := by simpa [Value.ownBlock] using e'
        omega
      · have e1 : g4 = b := by simpa [Value.ownBlock] using e
        have e2 : g5 = b := by simpa [Value.ownBlock] using e'
        omega
  have HS4 := hidOf hS4
  have HL4 := hidOf (show M4.s = 0 ∧ ∀ q, RLe M q → RLe M4 q by rw [hM4]; exact ⟨rfl, fun q h => ⟨h.i, Nat.zero_le _, fun x hx => (by cases hx), h.l, h.g⟩⟩)
  have HMF := hidOf hm.f
  clear hS4 hM4 hU4 A8 R8 O8 it8 ln8 gs8 bw8 f8 q8 hn8 hn8' HZ4 HZ6 HZ8 IT3 HS2 LOW b3 hl3 g4ge g4lt g5ge g5lt hs4 hs5 hw3 bw6 bw4
  go_wp2_with fail
  go_loopw [4] (fun i wr => ∃ (k : Nat) (M' : Rm), k ≤ M.s ∧ i = .int .i64 k ∧ CpS w M v M' { v with sb := v.sb.take k } wr ∧ M'.s = k ∧ (∀ q, RLe M q → RLe M' q)) (fun i _ => M.s - (intOf i).toNat)
  case atStart => exact ⟨0, M4, Nat.zero_le _, rfl, HS4.out, HL4.out.1, HL4.out.2⟩
  case round =>
    rename World => wr
    obtain ⟨k, M', hk, rfl, hS, hs', hle⟩ := hrel
    clear HS4 HL4
    have HLe := hidOf hle
    have Hs' := hidOf hs'
    have p4 := hS.arg.cs 4 (by simp)
    simp at p4
    by_cases hlt : k < M.s
    · have hkl : k < M.xs.length := by rw [hS.rin.sb.len]; exact hlt
      obtain hr | ⟨b, off, ea, hb, hcell⟩ := hS.rin.sb.row
      · omega
      obtain ⟨c0, c1, c2, c3', c4', c5', c6⟩ := hcell k hlt
      have hfx := hS.rin.sb.fil _ (sg_mem hkl)
      have hxn := HMF.out _ (sg_mem hkl)
      have HTk := hidOf (show v.sb.take (k + 1) = v.sb.take k ++ [(sg M.xs k).s] by
        have hkv : k < v.sb.length := by rw [← hS.rin.sv]; simpa [svs] using hkl
        rw [List.take_succ_eq_append_getElem hkv]
        have e2 := sg_svs hkl
        simp only [hS.rin.sv] at e2
        rw [e2])
      have HMem := hidOf (sg_mem hkl)
      obtain ⟨x, hx⟩ : ∃ x, sg M.xs k = x := ⟨_, rfl⟩
      rw [hx] at c0 c1 c2 c3' c4' c5' c6 hfx hxn HTk HMem
      rw [ea] at p4
      obtain ⟨V1, hV1⟩ : ∃ V, V = wr.alloc (.cells #[.int .i64 x.s.id, .int .i64 x.s.st, .int .i64 x.s.cu, .int .i64 x.s.gt, .int .i64 x.s.lo, .int .i64 x.s.pa, .slice x.a x.n x.c] 41) := ⟨_, rfl⟩
      have bV1 : Below wr.heap.size wr V1 := by rw [hV1]; exact bl_alloc (Below.refl _ _) _
      have sV1 : V1.heap.size = wr.heap.size + 1 := by rw [hV1]; simp
      have X1 : BoxL wr.heap.size (sC x) V1 := by rw [hV1]; exact BoxL.new wr (sC x) _
      obtain ⟨a6, c6', w6, hr6, ho6, hg6, hl6⟩ := append_tmR V1.heap.size 0 (.slice (some ⟨V1.heap.size, 0, none⟩) 0 0) [] x.a x.n x.c x.s.fl (V1.alloc (.cells #[] 132)) (row_empty V1 _ 3) (by simp) ((hfx.keep bV1).keep (bl_alloc (Below.refl _ _) _)) (by omega)
      rw [Nat.zero_add] at hr6 ho6 hl6
      rw [List.nil_append] at ho6
      have hg6' : (V1.alloc (.cells #[] 132)).grownBy w6 (some V1.heap.size) := hg6
      have X6 := (X1.alloc (.cells #[] 132)).grown hg6' (by simp; omega)
      have bV6 : Below V1.heap.size V1 w6 := (bl_alloc (Below.refl _ _) _).grown hg6' (by simp) (fun k hk => by injection hk with hk; omega)
      have s6 : ∀ o, (V1.alloc o).cell? ⟨wr.heap.size, 6, none⟩ = some (.slice x.a x.n x.c) := fun o => (X1.alloc o).cs 6 (by simp)
      have f6 := X6.fr
      have s6' := X6.cs 6 (by simp)
      simp at s6'
      have Hr6 := hidOf hr6
      have HV1 := hidOf (And.intro bV1 sV1)
      have HS := hidOf hS
      have HX6 := hidOf X6
      have HO6 := hidOf ho6
      have HB6 := hidOf bV6
      have HSh := hidOf hfx.short
      clear hS hs' hle hcell hx ea hkl hfx bV1 sV1 X1 hr6 ho6 hg6 hg6' hl6 X6 bV6 hb
      go_upto_region 10 with fail
      rw [← hV1]
      clear hV1 c0 c1 c2 c3' c4' c5' c6 p4
      go_upto_region 11 with (at_builtin; refine wpList_append_run rfl _ _ 39 rfl _ _ _ rfl rfl Hr6.out ?_)
      obtain ⟨V3, hV3⟩ : ∃ V, V = w6.setCell ⟨wr.heap.size, 6, none⟩ (.slice a6 x.n c6') := ⟨_, rfl⟩
      rw [← hV3]
      have hvs := HV1.out.2
      have X3 : BoxL wr.heap.size (sC ⟨x.s, a6, x.n, c6'⟩) V3 := by rw [hV3]; exact HX6.out.set 6 (by simp) _
      have b36 : Below wr.heap.size wr w6 := bl_trans2 HV1.out.1 HB6.out (by omega)
      have b3 : Below wr.heap.size wr V3 := by rw [hV3]; exact bl_setB b36 _ _ (Nat.le_refl _) _
      have hS3 := HS.out.keep b3
      have fl3 : V3.ownsRow V1.heap.size 132 3 (.slice a6 x.n c6') x.n (qflat x.s.fl) := by
        rw [hV3]
        exact rowG HO6.out (grown_setC _ _ _ _) (fun q e e' => by injection e with e; have := (row_lt HO6.out e').1; omega)
      have xnb : ∀ q, (Value.slice a6 x.n c6').ownBlock = some q → some q ∉ blkR M' := fun q e hm => by
        have h1 := (row_lt fl3 e).1
        have h2 := (HS.out.row.blk q hm).2
        omega
      have szw : w.heap.size + 3 ≤ wr.heap.size := HS.out.out.lt
      -- the one-element list
      have b4 : Below V3.heap.size V3 (V3.alloc (.cells #[.int .i64 x.s.id, .int .i64 x.s.st, .int .i64 x.s.cu, .int .i64 x.s.gt, .int .i64 x.s.lo, .int .i64 x.s.pa, .slice a6 x.n c6'] 41)) := bl_alloc (Below.refl _ _) _
      have hS4 := hS3.keep b4
      have fl4 := ownsRow_keep fl3 b4
      have one : SubAt (V3.alloc (.cells #[.int .i64 x.s.id, .int .i64 x.s.st, .int .i64 x.s.cu, .int .i64 x.s.gt, .int .i64 x.s.lo, .int .i64 x.s.pa, .slice a6 x.n c6'] 41)) (some ⟨V3.heap.size, 0, none⟩) 1 [⟨x.s, a6, x.n, c6'⟩] := by
        obtain ⟨a1, c1, e1, _, h1⟩ := ownF_of fl4 x.s.fl rfl HSh.out
        cases e1
        have X4 := BoxL.new V3 (sC ⟨x.s, a6, x.n, c6'⟩) 41
        refine ⟨rfl, fun y hy => by rw [List.mem_singleton.1 hy]; exact h1.tm, .inr ⟨V3.heap.size, 0, rfl, X4.lt, fun i hi => ?_⟩⟩
        obtain rfl : i = 0 := by omega
        exact ⟨X4.cs 0 (by simp), X4.cs 1 (by simp), X4.cs 2 (by simp), X4.cs 3 (by simp), X4.cs 4 (by simp), X4.cs 5 (by simp), X4.cs 6 (by simp)⟩
      have hsk := Hs'.out
      obtain ⟨a7, c7, w7, hr7, ho7, hg7, hl7⟩ := append_subR (w.heap.size + 3) M'.s (.slice M'.sa M'.s M'.sc) M'.xs (some ⟨V3.heap.size, 0, none⟩) 1 1 [⟨x.s, a6, x.n, c6'⟩] _ hS4.row.sb (by have := hS4.out.lt; omega) one (by omega)
      have hP := hS4.push (x := ⟨x.s, a6, x.n, c6'⟩) (rowM fl4 (by omega)) HSh.out xnb ho7 hg7 hl7 HI0.out
      have HP := hidOf hP
      have ge : ∀ q, (Value.slice M'.sa M'.s M'.sc).ownBlock = some q → w.heap.size + 3 ≤ q := fun q e => (row_lt hS4.row.sb e).1
      have O7 := hS4.out.grown hg7 (fun e => by have := ge _ e; omega)
      have q7 := O7.cs 4 (by simp)
      have f7 := O7.fr
      simp at q7
      have r4 := hS3.out.cs 4 (by simp)
      simp at r4
      have y0 := X3.cs 0 (by simp)
      have y1 := X3.cs 1 (by simp)
      have y2 := X3.cs 2 (by simp)
      have y3 := X3.cs 3 (by simp)
      have y4 := X3.cs 4 (by simp)
      have y5 := X3.cs 5 (by simp)
      have y6 := X3.cs 6 (by simp)
      simp at y0 y1 y2 y3 y4 y5 y6
      rw [hsk] at hr7 HP r4
      have Hr7 := hidOf hr7
      have hTk := HTk.out
      have HP2 := hidOf (show CpS w M v { M' with sa := a7, s := k + 1, sc := c7, xs := M'.xs ++ [⟨x.s, a6, x.n, c6'⟩] } { v with sb := v.sb.take (k + 1) } (w7.setCell ⟨w.heap.size + 1 + 1, 4, none⟩ (.slice a7 (k + 1) c7)) by rw [hTk]; exact HP.out)
      have HL2 := hidOf (show ∀ q, RLe M q → RLe { M' with sa := a7, s := k + 1, sc := c7, xs := M'.xs ++ [⟨x.s, a6, x.n, c6'⟩] } q from fun q h => by
        have h' := HLe.out q h
        refine ⟨h'.i, ?_, fun y hy => ?_, h'.l, h'.g⟩
        · have := h.s
          show k + 1 ≤ q
          omega
        · rcases List.mem_append.1 hy with hy | hy
          · exact h'.f y hy
          · rw [List.mem_singleton.1 hy]
            exact h.f x HMem.out)
      clear hV3 X3 b36 b3 hS3 fl3 xnb b4 hS4 fl4 one hsk hr7 ho7 hg7 hl7 hP HP ge O7 hTk hvs HX6 HO6 HB6 HS HTk s6 s6' f6 szw
      go_wp2_with (at_builtin; refine wpList_append_run rfl _ _ 25 rfl _ _ _ rfl rfl Hr7.out ?_)
      exact ⟨⟨k + 1, _, by omega, by go_num, HP2.out, rfl, HL2.out⟩, by simp [intOf]; omega⟩
    · have HE := hidOf (show v.sb.take k = v.sb from List.take_of_length_le (by rw [← hS.rin.sv]; have := hS.rin.sb.len; simp [svs]; omega))
      have hS2 : CpS w M v M' v wr := by
        have := hS
        rw [HE.out] at this
        exact this
      have HS2 := hidOf hS2
      clear hS
      have o0 := hS2.out.cs 0 (by simp)
      have o1 := hS2.out.cs 1 (by simp)
      have o2 := hS2.out.cs 2 (by simp)
      have o3 := hS2.out.cs 3 (by simp)
      have o4 := hS2.out.cs 4 (by simp)
      have o5 := hS2.out.cs 5 (by simp)
      have o6 := hS2.out.cs 6 (by simp)
      have o7 := hS2.out.cs 7 (by simp)
      have r0 := hS2.res.cs 0 (by simp)
      have r1 := hS2.res.cs 1 (by simp)
      have r2 := hS2.res.cs 2 (by simp)
      have r3 := hS2.res.cs 3 (by simp)
      have r4 := hS2.res.cs 4 (by simp)
      have r5 := hS2.res.cs 5 (by simp)
      have r6 := hS2.res.cs 6 (by simp)
      have r7 := hS2.res.cs 7 (by simp)
      have rf := hS2.res.fr
      simp at o0 o1 o2 o3 o4 o5 o6 o7 r0 r1 r2 r3 r4 r5 r6 r7
      clear hS2 hs' hle
      obtain ⟨Z, hZ⟩ : ∃ Z, ((((((((wr.setCell ⟨w.heap.size + 1, 0, none⟩ (.int .i64 v.cp)).setCell ⟨w.heap.size + 1, 1, none⟩ (.int .i64 v.se)).setCell ⟨w.heap.size + 1, 2, none⟩ (.slice M'.ia M'.i M'.ic)).setCell ⟨w.heap.size + 1, 3, none⟩ (.int .i64 v.nx)).setCell ⟨w.heap.size + 1, 4, none⟩ (.slice M'.sa M'.s M'.sc)).setCell ⟨w.heap.size + 1, 5, none⟩ (.slice M'.la M'.l M'.lc)).setCell ⟨w.heap.size + 1, 6, none⟩ (.slice M'.ga M'.g M'.gc)).setCell ⟨w.heap.size + 1, 7, none⟩ (.bool v.cl)) = Z := ⟨_, rfl⟩
      have hZ2 : Z = setL wr (w.heap.size + 1) 0 (rC M' v) := by rw [← hZ]; rfl
      have XZ : BoxL (w.heap.size + 1) (rC M' v) Z := by
        rw [← hZ]
        exact ((((((((HS2.out.res.set 0 (by simp) _).set 1 (by simp) _).set 2 (by simp) _).set 3 (by simp) _).set 4 (by simp) _).set 5 (by simp) _).set 6 (by simp) _).set 7 (by simp) _)
      have HRZ := hidOf (show RRow w.heap.size Z M' v by
        rw [hZ2]
        exact (HS2.out.row.grown (setL_grown ⟨rfl, rfl, rfl, Nat.le_refl _, fun _ _ _ => rfl⟩) (HS2.out.row.out (by omega))).mono (by omega))
      have HBZ := hidOf (show Below w.heap.size w Z by rw [hZ2]; exact setL_below (by omega) HS2.out.below)
      have t0 := XZ.cs 0 (by simp)
      have t1 := XZ.cs 1 (by simp)
      have t2 := XZ.cs 2 (by simp)
      have t3 := XZ.cs 3 (by simp)
      have t4 := XZ.cs 4 (by simp)
      have t5 := XZ.cs 5 (by simp)
      have t6 := XZ.cs 6 (by simp)
      have t7 := XZ.cs 7 (by simp)
      simp at t0 t1 t2 t3 t4 t5 t6 t7
      clear hZ2 XZ
      go_wp2_with fail
      clear hZ
      exact bodyPost_ret (v := .agg #[.int .i64 v.cp, .int .i64 v.se, .slice M'.ia M'.i M'.ic, .int .i64 v.nx, .slice M'.sa M'.s M'.sc, .slice M'.la M'.l M'.lc, .slice M'.ga M'.g M'.gc, .bool v.cl]) (by simp [results, Tryz.results83, go_sem, t0, t1, t2, t3, t4, t5, t6, t7]) rfl ⟨_, rfl, HRZ.out, HLe.out, HBZ.out⟩
end Go.Proofs.YtdboaoejlkkoeaaGreat
