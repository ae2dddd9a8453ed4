/-
  The specification says of two rings that read the same that they are t
-/
import Derived.Test.YtdboaoejlkkoeaaGreatZPo21
namespace Go.Proofs.YtdboaoejlkkoeaaGreat
open Go.RowKit Pl Il
theorem neqMq (k n : Int) (s : ByteArray) (w : World) : (binOp .neq 30 (.agg #[.int .i64 k, .int .i64 n, .string s]) (.agg #[.int .i64 k, .int .i64 n, .string s])).run Tryz.prog w = .ok (.bool false) w := by
  have u3 := Tryz.underlying3
  have a3 := Tryz.isAgg3
  have z3 := Tryz.sizeOf3
  have u9 := Tryz.underlying9
  have a9 := Tryz.isAgg9
  have z9 := Tryz.sizeOf9
  have hS : Tryz.prog.underlying 30 = some (.struct (Tryz.prog.fieldsOf 30)) := by kernel_rfl
  have hp : Tryz.prog.stoodInHeld 30 = false := by kernel_rfl
  have e : (Op.equalIn 10000 30 (.agg #[.int .i64 k, .int .i64 n, .string s]) (.agg #[.int .i64 k, .int .i64 n, .string s])).run Tryz.prog w = .ok true w := by
    rw [show (10000 : Nat) = 9999 + 1 from rfl, run_equalIn_agg w 9999 30 _ _ hS hp]
    simp only [Program.fieldsOf, Tryz.underlying30]
    go_simp
  rw [run_neq_struct, e]; rfl
theorem neqTq (o n : Int) (s : ByteArray) (w : World) : (binOp .neq 132 (.agg #[.int .i64 o, .int .i64 n, .string s]) (.agg #[.int .i64 o, .int .i64 n, .string s])).run Tryz.prog w = .ok (.bool false) w := by
  have u3 := Tryz.underlying3
  have a3 := Tryz.isAgg3
  have z3 := Tryz.sizeOf3
  have u9 := Tryz.underlying9
  have a9 := Tryz.isAgg9
  have z9 := Tryz.sizeOf9
  have hS : Tryz.prog.underlying 132 = some (.struct (Tryz.prog.fieldsOf 132)) := by kernel_rfl
  have hp : Tryz.prog.stoodInHeld 132 = false := by kernel_rfl
  have e : (Op.equalIn 10000 132 (.agg #[.int .i64 o, .int .i64 n, .string s]) (.agg #[.int .i64 o, .int .i64 n, .string s])).run Tryz.prog w = .ok true w := by
    rw [show (10000 : Nat) = 9999 + 1 from rfl, run_equalIn_agg w 9999 132 _ _ hS hp]
    simp only [Program.fieldsOf, Tryz.underlying132]
    go_simp
  rw [run_neq_struct, e]; rfl
theorem cellQ {w w' : World} {p : Addr} {x : Value} (h : w.cell? p = some x) (hb : Below w.heap.size w w') : w'.cell? p = some x := by
  rw [hb.cell (World.block_lt_of_cell? w _ h)]; exact h
theorem termsSameQ_any (a a' : Option Addr) (n cap cap' : Nat) (xs : List Tm) (w : World) (hI : TmAt w a n xs) (hJ : TmAt w a' n xs) (hn : n ≤ 2097152) :
    Calls Tryz.prog 150 #[.slice a n cap, .slice a' n cap'] w fun e w' => e = .returned (.bool true) ∧ Below w.heap.size w w' := by
  have HI := hidOf hI
  have HJ := hidOf hJ
  clear hI hJ
  go_enter Tryz.func150, Tryz.ntmps150
  go_wp2
  go_loopw [5] (fun i wr => ∃ k : Nat, k ≤ n ∧ i = .int .i64 (k : Int) ∧ Below w.heap.size w wr) (fun i _ => n - (intOf i).toNat)
  case atStart => exact ⟨0, Nat.zero_le _, rfl, Below.refl _ _⟩
  case round =>
    rename_i wr
    obtain ⟨k, hk, rfl, hB⟩ := hrel
    by_cases hlt : k < n
    · obtain hr | ⟨b, off, rfl, hb, hcell⟩ := HI.out.row
      · omega
      obtain hr' | ⟨b', off', rfl, hb', hcell'⟩ := HJ.out.row
      · omega
      obtain ⟨q0, q1, q2⟩ := hcell k hlt
      obtain ⟨p0, p1, p2⟩ := hcell' k hlt
      obtain ⟨z, hz⟩ : ∃ z, qg xs k = z := ⟨_, rfl⟩
      rw [hz] at q0 q1 q2 p0 p1 p2
      have c0 := cellQ q0 hB
      have c1 := cellQ q1 hB
      have c2 := cellQ q2 hB
      have d0 := cellQ p0 hB
      have d1 := cellQ p1 hB
      have d2 := cellQ p2 hB
      have hs : (z.2.2.toList == z.2.2.toList) = true := by simp
      have HB := hidOf hB
      have hq := fun w => neqTq z.1 z.2.1 z.2.2 w
      clear hcell hcell' q0 q1 q2 p0 p1 p2 hz hB
      go_wp2_with fail
      go_quiet (fail)
      go_wp2_with fail
      go_roundw
      case rel => exact ⟨k + 1, hlt, by go_num, bl_drewN HB.out _⟩
      case measure => simp [intOf]; omega
    · obtain rfl : k = n := by omega
      go_wp2
      go_ret
      exact ⟨rfl, hB⟩
theorem box7q {N : Nat} {a0 a1 a2 a3 a4 a5 a6 : Value} {w : World} (h : BoxL N [a0, a1, a2, a3, a4, a5, a6] w) : w.cell? ⟨N, 0, none⟩ = some a0 ∧ w.cell? ⟨N, 1, none⟩ = some a1 ∧ w.cell? ⟨N, 2, none⟩ = some a2 ∧ w.cell? ⟨N, 3, none⟩ = some a3 ∧ w.cell? ⟨N, 4, none⟩ = some a4 ∧ w.cell? ⟨N, 5, none⟩ = some a5 ∧ w.cell? ⟨N, 6, none⟩ = some a6 := ⟨h.cs 0 (by simp), h.cs 1 (by simp), h.cs 2 (by simp), h.cs 3 (by simp), h.cs 4 (by simp), h.cs 5 (by simp), h.cs 6 (by simp)⟩
theorem twoBox (w : World) (xs ys : List Value) (t : TypeId) : BoxL w.heap.size xs ((w.alloc (.cells xs.toArray t)).alloc (.cells ys.toArray t)).drew ∧ BoxL (w.heap.size + 1) ys ((w.alloc (.cells xs.toArray t)).alloc (.cells ys.toArray t)).drew ∧ Below w.heap.size w ((w.alloc (.cells xs.toArray t)).alloc (.cells ys.toArray t)).drew := by
  have h := (BoxL.new (w.alloc (.cells xs.toArray t)) ys t).keep (Below.refl _ _).drew
  have e : (w.alloc (.cells xs.toArray t)).heap.size = w.heap.size + 1 := by simp
  rw [e] at h
  exact ⟨((BoxL.new w xs t).alloc _).keep (Below.refl _ _).drew, h, (bl_alloc (bl_alloc (Below.refl _ _) _) _).drew⟩
set_option maxRecDepth 100000 in
set_option maxHeartbeats 8000000 in
theorem l15Rings_same (M M' : Rm) (v : Rv) (w : World) (hI : RIn w M v) (hJ : RIn w M' v) (hm : RLe M 2097152) (hm' : RLe M' 2097152) :
  Calls Tryz.prog 88 #[.agg #[.int .i64 v.cp, .int .i64 v.se, .slice M.ia M.i M.ic, .int .i64 v.nx, .slice M.sa M.s M.sc, .slice M.la M.l M.lc, .slice M.ga M.g M.gc, .bool v.cl], .agg #[.int .i64 v.cp, .int .i64 v.se, .slice M'.ia M'.i M'.ic, .int .i64 v.nx, .slice M'.sa M'.s M'.sc, .slice M'.la M'.l M'.lc, .slice M'.ga M'.g M'.gc, .bool v.cl]] w fun e w' => e = .returned (.bool true) ∧ Below w.heap.size w w' := by
 obtain ⟨ia', i', ic', sa', s', sc', xs', la', l', lc', ga', g', gc'⟩ := M'
 have hs1 := hI.sb.len
 have hs2 := hJ.sb.len
 have hsv := hI.sv.trans hJ.sv.symm
 simp only at hs2 hsv hJ hm'
 obtain rfl : i' = M.i := by have h1 := hI.it.len; have h2 := hJ.it.len; simp only at h2; omega
 obtain rfl : s' = M.s := by have h3 := congrArg List.length hsv; simp [svs] at h3; omega
 obtain ⟨W0, hW0⟩ : ∃ W, W = (w.alloc (.cells #[.int .i64 v.cp, .int .i64 v.se, .slice M.ia M.i M.ic, .int .i64 v.nx, .slice M.sa M.s M.sc, .slice M.la M.l M.lc, .slice M.ga M.g M.gc, .bool v.cl] 28)).alloc (.cells #[.int .i64 v.cp, .int .i64 v.se, .slice ia' M.i ic', .int .i64 v.nx, .slice sa' M.s sc', .slice la' l' lc', .slice ga' g' gc', .bool v.cl] 28) := ⟨_, rfl⟩
 have b0 : Below w.heap.size w W0 := by rw [hW0]; exact bl_alloc (bl_alloc (Below.refl _ _) _) _
 have X0 : BoxL w.heap.size (rC M v) W0 := by rw [hW0]; exact (BoxL.new w (rC M v) _).alloc _
 have Y0 : BoxL (w.heap.size + 1) [.int .i64 v.cp, .int .i64 v.se, .slice ia' M.i ic', .int .i64 v.nx, .slice sa' M.s sc', .slice la' l' lc', .slice ga' g' gc', .bool v.cl] W0 := by
  rw [hW0]
  have h := BoxL.new (w.alloc (.cells #[.int .i64 v.cp, .int .i64 v.se, .slice M.ia M.i M.ic, .int .i64 v.nx, .slice M.sa M.s M.sc, .slice M.la M.l M.lc, .slice M.ga M.g M.gc, .bool v.cl] 28)) [.int .i64 v.cp, .int .i64 v.se, .slice ia' M.i ic', .int .i64 v.nx, .slice sa' M.s sc', .slice la' l' lc', .slice ga' g' gc', .bool v.cl] 28
  simpa using h
 have HI := hidOf (hI.keep b0)
 have HJ := hidOf (hJ.keep b0)
 have HM := hidOf hm
 have HM' := hidOf hm'
 have HSv := hidOf hsv
 have HL1 := hidOf hs1
 have HL2 := hidOf hs2
 obtain ⟨p0, p1, p2, p3, p4, p5, p6, p7⟩ := box8 X0
 obtain ⟨q0, q1, q2, q3, q4, q5, q6, q7⟩ := box8 Y0
 have hmi := hm.i
 have hms := hm.s
 clear hI hJ hm hm' hsv hs1 hs2
 go_enter Tryz.func88, Tryz.ntmps88
 go_wp2_with fail
 rw [← hW0]
 clear hW0
 refine (l15Ints_any M.la la' M.l l' M.lc lc' v.ln v.ln _ HI.out.ln HJ.out.ln HM.out.l HM'.out.l).mono ?_
 rintro e w1 ⟨rfl, hb1⟩
 rw [eqLR_self]
 have x1 := X0.keep hb1
 have y1 := Y0.keep hb1
 have B1 := bl_trans b0 hb1
 have HI1 := hidOf (HI.out.keep hb1)
 have HJ1 := hidOf (HJ.out.keep hb1)
 clear X0 Y0 hb1 b0 HI HJ p0 p1 p2 p3 p4 p5 p6 p7 q0 q1 q2 q3 q4 q5 q6 q7
 obtain ⟨p0, p1, p2, p3, p4, p5, p6, p7⟩ := box8 x1
 obtain ⟨q0, q1, q2, q3, q4, q5, q6, q7⟩ := box8 y1
 go_wp2_with fail
 refine (l15Ints_any M.ga ga' M.g g' M.gc gc' v.gs v.gs _ HI1.out.gs HJ1.out.gs HM.out.g HM'.out.g).mono ?_
 rintro e w2 ⟨rfl, hb2⟩
 rw [eqLR_self]
 have x2 := x1.keep hb2
 have y2 := y1.keep hb2
 have HB2 := hidOf (bl_trans B1 hb2)
 have HI2 := hidOf (HI1.out.keep hb2)
 have HJ2 := hidOf (HJ1.out.keep hb2)
 clear x1 y1 hb2 B1 HI1 HJ1 p0 p1 p2 p3 p4 p5 p6 p7 q0 q1 q2 q3 q4 q5 q6 q7
 have HX2 := hidOf x2
 have HY2 := hidOf y2
 obtain ⟨p0, p1, p2, p3, p4, p5, p6, p7⟩ := box8 x2
 obtain ⟨q0, q1, q2, q3, q4, q5, q6, q7⟩ := box8 y2
 clear x2 y2
 go_wp2_with fail
 go_loopw [5] (fun i wr => ∃ k : Nat, k ≤ M.i ∧ i = .int .i64 (k : Int) ∧ Below w2.heap.size w2 wr) (fun i _ => M.i - (intOf i).toNat)
 case atStart => exact ⟨0, Nat.zero_le _, rfl, Below.refl _ _⟩
 case round =>
  rename_i wr
  obtain ⟨k, hk, rfl, hB⟩ := hrel
  clear p0 p1 p2 p3 p4 p5 p6 p7 q0 q1 q2 q3 q4 q5 q6 q7
  by_cases hlt : k < M.i
  ·have hki : (k : Int) < (M.i : Int) := by omega
   have p2 := (HX2.out.keep hB).cs 2 (by simp)
   have q2 := (HY2.out.keep hB).cs 2 (by simp)
   simp only [List.getElem_cons_succ, List.getElem_cons_zero] at p2 q2
   obtain hr | ⟨b, off, e1, hb, hcell⟩ := HI2.out.it.row
   ·omega
   obtain hr' | ⟨b', off', e2, hb', hcell'⟩ := HJ2.out.it.row
   ·simp only at hr'; omega
   simp only at e2
   subst e2
   rw [e1] at p2
   obtain ⟨t0, t1, t2⟩ := hcell k hlt
   obtain ⟨r0, r1, r2⟩ := hcell' k hlt
   obtain ⟨z, hz⟩ : ∃ z, qg v.it k = z := ⟨_, rfl⟩
   rw [hz] at t0 t1 t2 r0 r1 r2
   have c0 := cellQ t0 hB
   have c1 := cellQ t1 hB
   have c2 := cellQ t2 hB
   have d0 := cellQ r0 hB
   have d1 := cellQ r1 hB
   have d2 := cellQ r2 hB
   have HB := hidOf hB
   have hq := fun w => neqMq z.1 z.2.1 z.2.2 w
   clear hcell hcell' t0 t1 t2 r0 r1 r2 hz hB e1 hb hb'
   go_wp2_with fail
   go_quiet (fail)
   go_wp2_with fail
   go_roundw
   case rel => exact ⟨k + 1, hlt, by go_num, bl_drewN HB.out _⟩
   case measure => simp [intOf]; omega
  ·have hki : ¬ (k : Int) < (M.i : Int) := by omega
   have p2 := (HX2.out.keep hB).cs 2 (by simp)
   simp only [List.getElem_cons_succ, List.getElem_cons_zero] at p2
   have HBw := hidOf hB
   clear hB hk
   go_wp2_with fail
   go_loopw [6] (fun i wx => ∃ k : Nat, k ≤ M.s ∧ i = .int .i64 (k : Int) ∧ Below w2.heap.size w2 wx) (fun i _ => M.s - (intOf i).toNat)
   case atStart => exact ⟨0, Nat.zero_le _, rfl, HBw.out⟩
   case round =>
    skip
    obtain ⟨k2, hk2, rfl, hB⟩ := hrel
    clear p2 hki hlt HBw
    by_cases hlt2 : k2 < M.s
    ·have hki : (k2 : Int) < (M.s : Int) := by omega
     have p4 := (HX2.out.keep hB).cs 4 (by simp)
     have q4 := (HY2.out.keep hB).cs 4 (by simp)
     simp only [List.getElem_cons_succ, List.getElem_cons_zero] at p4 q4
     obtain hr | ⟨b, off, e1, hb, hcell⟩ := HI2.out.sb.row
     ·omega
     obtain hr' | ⟨b', off', e2, hb', hcell'⟩ := HJ2.out.sb.row
     ·simp only at hr'; omega
     simp only at e2
     subst e2
     rw [e1] at p4
     have hc := (hcell k2 hlt2).below hB hb
     have hc' := (hcell' k2 hlt2).below hB hb'
     have hse := svs_at HSv.out (k := k2) (by rw [HL1.out]; exact hlt2)
     have hm := sg_mem (l := M.xs) (k := k2) (by rw [HL1.out]; exact hlt2)
     have hm' := sg_mem (l := xs') (k := k2) (by rw [HL2.out]; exact hlt2)
     have t1 := HI2.out.sb.fil _ hm
     have t2 := HJ2.out.sb.fil _ hm'
     have n1 := HM.out.f _ hm
     have n2 := HM'.out.f _ hm'
     obtain ⟨x, hx⟩ : ∃ x, sg M.xs k2 = x := ⟨_, rfl⟩
     obtain ⟨y, hy⟩ : ∃ y, sg xs' k2 = y := ⟨_, rfl⟩
     rw [hx] at hc t1 n1 hse
     rw [hy] at hc' t2 n2 hse
     obtain ⟨ys, ya, yn, yc⟩ := y
     obtain ⟨xs0, xa, xn, xc⟩ := x
     simp only at hse
     subst hse
     simp only at hc hc' t1 t2 n1 n2
     have hnn : yn = xn := by have h1 := t1.len; have h2 := t2.len; omega
     subst hnn
     obtain ⟨u0, u1, u2, u3, u4, u5, u6⟩ := hc
     obtain ⟨v0, v1, v2, v3, v4, v5, v6⟩ := hc'
     obtain ⟨i0, i1, i2, i3, i4, i5, fl⟩ := ys
     simp only at u0 u1 u2 u3 u4 u5 u6 v0 v1 v2 v3 v4 v5 v6 t1 t2
     have HT1 := hidOf (t1.keep hB)
     have HT2 := hidOf (t2.keep hB)
     have HN1 := hidOf n1
     have HB := hidOf hB
     clear hcell hcell' hx hy hB e1 hb hb' hm hm' t1 t2 n1 n2
     have p4a : ∀ o o', ((wr.alloc o).alloc o').cell? _ = some _ := fun o o' => cellQ (cellQ p4 (bl_alloc (Below.refl _ _) o)) (bl_alloc (Below.refl _ _) o')
     have q4a : ∀ o o', ((wr.alloc o).alloc o').cell? _ = some _ := fun o o' => cellQ (cellQ q4 (bl_alloc (Below.refl _ _) o)) (bl_alloc (Below.refl _ _) o')
     have u0a : ∀ o o', ((wr.alloc o).alloc o').cell? _ = some _ := fun o o' => cellQ (cellQ u0 (bl_alloc (Below.refl _ _) o)) (bl_alloc (Below.refl _ _) o')
     have u1a : ∀ o o', ((wr.alloc o).alloc o').cell? _ = some _ := fun o o' => cellQ (cellQ u1 (bl_alloc (Below.refl _ _) o)) (bl_alloc (Below.refl _ _) o')
     have u2a : ∀ o o', ((wr.alloc o).alloc o').cell? _ = some _ := fun o o' => cellQ (cellQ u2 (bl_alloc (Below.refl _ _) o)) (bl_alloc (Below.refl _ _) o')
     have u3a : ∀ o o', ((wr.alloc o).alloc o').cell? _ = some _ := fun o o' => cellQ (cellQ u3 (bl_alloc (Below.refl _ _) o)) (bl_alloc (Below.refl _ _) o')
     have u4a : ∀ o o', ((wr.alloc o).alloc o').cell? _ = some _ := fun o o' => cellQ (cellQ u4 (bl_alloc (Below.refl _ _) o)) (bl_alloc (Below.refl _ _) o')
     have u5a : ∀ o o', ((wr.alloc o).alloc o').cell? _ = some _ := fun o o' => cellQ (cellQ u5 (bl_alloc (Below.refl _ _) o)) (bl_alloc (Below.refl _ _) o')
     have u6a : ∀ o o', ((wr.alloc o).alloc o').cell? _ = some _ := fun o o' => cellQ (cellQ u6 (bl_alloc (Below.refl _ _) o)) (bl_alloc (Below.refl _ _) o')
     have v0a : ∀ o o', ((wr.alloc o).alloc o').cell? _ = some _ := fun o o' => cellQ (cellQ v0 (bl_alloc (Below.refl _ _) o)) (bl_alloc (Below.refl _ _) o')
     have v1a : ∀ o o', ((wr.alloc o).alloc o').cell? _ = some _ := fun o o' => cellQ (cellQ v1 (bl_alloc (Below.refl _ _) o)) (bl_alloc (Below.refl _ _) o')
     have v2a : ∀ o o', ((wr.alloc o).alloc o').cell? _ = some _ := fun o o' => cellQ (cellQ v2 (bl_alloc (Below.refl _ _) o)) (bl_alloc (Below.refl _ _) o')
     have v3a : ∀ o o', ((wr.alloc o).alloc o').cell? _ = some _ := fun o o' => cellQ (cellQ v3 (bl_alloc (Below.refl _ _) o)) (bl_alloc (Below.refl _ _) o')
     have v4a : ∀ o o', ((wr.alloc o).alloc o').cell? _ = some _ := fun o o' => cellQ (cellQ v4 (bl_alloc (Below.refl _ _) o)) (bl_alloc (Below.refl _ _) o')
     have v5a : ∀ o o', ((wr.alloc o).alloc o').cell? _ = some _ := fun o o' => cellQ (cellQ v5 (bl_alloc (Below.refl _ _) o)) (bl_alloc (Below.refl _ _) o')
     have v6a : ∀ o o', ((wr.alloc o).alloc o').cell? _ = some _ := fun o o' => cellQ (cellQ v6 (bl_alloc (Below.refl _ _) o)) (bl_alloc (Below.refl _ _) o')
     have p4b : ∀ o, (wr.alloc o).cell? _ = some _ := fun o => cellQ p4 (bl_alloc (Below.refl _ _) o)
     have q4b : ∀ o, (wr.alloc o).cell? _ = some _ := fun o => cellQ q4 (bl_alloc (Below.refl _ _) o)
     have u0b : ∀ o, (wr.alloc o).cell? _ = some _ := fun o => cellQ u0 (bl_alloc (Below.refl _ _) o)
     have u1b : ∀ o, (wr.alloc o).cell? _ = some _ := fun o => cellQ u1 (bl_alloc (Below.refl _ _) o)
     have u2b : ∀ o, (wr.alloc o).cell? _ = some _ := fun o => cellQ u2 (bl_alloc (Below.refl _ _) o)
     have u3b : ∀ o, (wr.alloc o).cell? _ = some _ := fun o => cellQ u3 (bl_alloc (Below.refl _ _) o)
     have u4b : ∀ o, (wr.alloc o).cell? _ = some _ := fun o => cellQ u4 (bl_alloc (Below.refl _ _) o)
     have u5b : ∀ o, (wr.alloc o).cell? _ = some _ := fun o => cellQ u5 (bl_alloc (Below.refl _ _) o)
     have u6b : ∀ o, (wr.alloc o).cell? _ = some _ := fun o => cellQ u6 (bl_alloc (Below.refl _ _) o)
     have v0b : ∀ o, (wr.alloc o).cell? _ = some _ := fun o => cellQ v0 (bl_alloc (Below.refl _ _) o)
     have v1b : ∀ o, (wr.alloc o).cell? _ = some _ := fun o => cellQ v1 (bl_alloc (Below.refl _ _) o)
     have v2b : ∀ o, (wr.alloc o).cell? _ = some _ := fun o => cellQ v2 (bl_alloc (Below.refl _ _) o)
     have v3b : ∀ o, (wr.alloc o).cell? _ = some _ := fun o => cellQ v3 (bl_alloc (Below.refl _ _) o)
     have v4b : ∀ o, (wr.alloc o).cell? _ = some _ := fun o => cellQ v4 (bl_alloc (Below.refl _ _) o)
     have v5b : ∀ o, (wr.alloc o).cell? _ = some _ := fun o => cellQ v5 (bl_alloc (Below.refl _ _) o)
     have v6b : ∀ o, (wr.alloc o).cell? _ = some _ := fun o => cellQ v6 (bl_alloc (Below.refl _ _) o)
     go_upto_region 11 with fail
     go_cut [7, 8] from 87 to 151 (fun s7 s8 wz => ∃ P Q : Nat, s7 = .pointer (some ⟨P, 0, none⟩) ∧ s8 = .pointer (some ⟨Q, 0, none⟩) ∧ BoxL P [.int .i64 i0, .int .i64 i1, .int .i64 i2, .int .i64 i3, .int .i64 i4, .int .i64 i5, .slice xa yn xc] wz ∧ BoxL Q [.int .i64 i0, .int .i64 i1, .int .i64 i2, .int .i64 i3, .int .i64 i4, .int .i64 i5, .slice ya yn yc] wz ∧ Below wr.heap.size wr wz)
     case first =>
      go_big_region
      ·go_wp2_with fail
       go_meet
       obtain ⟨h1, h2, h3⟩ := twoBox wr [.int .i64 i0, .int .i64 i1, .int .i64 i2, .int .i64 i3, .int .i64 i4, .int .i64 i5, .slice xa yn xc] [.int .i64 i0, .int .i64 i1, .int .i64 i2, .int .i64 i3, .int .i64 i4, .int .i64 i5, .slice ya yn yc] 41
       exact ⟨_, _, rfl, rfl, h1, h2, h3⟩
      ·go_wp2_with fail
       go_meet
       obtain ⟨h1, h2, h3⟩ := twoBox wr [.int .i64 i0, .int .i64 i1, .int .i64 i2, .int .i64 i3, .int .i64 i4, .int .i64 i5, .slice ya yn yc] [.int .i64 i0, .int .i64 i1, .int .i64 i2, .int .i64 i3, .int .i64 i4, .int .i64 i5, .slice xa yn xc] 41
       exact ⟨_, _, rfl, rfl, h2, h1, h3⟩
     case rest =>
      obtain ⟨P, Q, rfl, rfl, hP, hQ, hB3⟩ := hcut
      obtain ⟨u0, u1, u2, u3, u4, u5, u6⟩ := box7q hP
      obtain ⟨v0, v1, v2, v3, v4, v5, v6⟩ := box7q hQ
      have HB3 := hidOf hB3
      clear p4 q4 hP hQ hB3 p4a q4a u0a u1a u2a u3a u4a u5a u6a v0a v1a v2a v3a v4a v5a v6a p4b q4b u0b u1b u2b u3b u4b u5b u6b v0b v1b v2b v3b v4b v5b v6b
      go_wp2_with fail
      refine (termsSameQ_any xa ya yn xc yc fl _ (HT1.out.keep HB3.out) (HT2.out.keep HB3.out) HN1.out).mono ?_
      rintro e w5 ⟨rfl, hb5⟩
      have HB5 := hidOf (bl_trans HB.out (bl_trans HB3.out hb5))
      clear hb5 u0 u1 u2 u3 u4 u5 u6 v0 v1 v2 v3 v4 v5 v6
      go_wp2_with fail
      go_roundw
      case rel => exact ⟨k2 + 1, hlt2, by go_num, HB5.out⟩
      case measure => simp [intOf]; omega
    ·have hki : ¬ (k2 : Int) < (M.s : Int) := by omega
     have p4 := (HX2.out.keep hB).cs 4 (by simp)
     simp only [List.getElem_cons_succ, List.getElem_cons_zero] at p4
     have HBe := hidOf (bl_trans HB2.out hB)
     clear hB
     go_wp2
     go_ret
     exact ⟨rfl, HBe.out⟩
theorem ringSame_any (M M' : Rm) (v : Rv) (w : World) (hI : RIn w M v) (hJ : RIn w M' v) (hm : RLe M 2097152) (hm' : RLe M' 2097152) :
    Calls Tryz.prog 22 #[.agg #[.int .i64 v.cp, .int .i64 v.se, .slice M.ia M.i M.ic, .int .i64 v.nx, .slice M.sa M.s M.sc, .slice M.la M.l M.lc, .slice M.ga M.g M.gc, .bool v.cl], .agg #[.int .i64 v.cp, .int .i64 v.se, .slice M'.ia M'.i M'.ic, .int .i64 v.nx, .slice M'.sa M'.s M'.sc, .slice M'.la M'.l M'.lc, .slice M'.ga M'.g M'.gc, .bool v.cl]] w fun e w' => e = .returned (.bool true) ∧ Below w.heap.size w w' := by
  obtain ⟨W0, hW0⟩ : ∃ W, W = (w.alloc (.cells #[.int .i64 v.cp, .int .i64 v.se, .slice M.ia M.i M.ic, .int .i64 v.nx, .slice M.sa M.s M.sc, .slice M.la M.l M.lc, .slice M.ga M.g M.gc, .bool v.cl] 28)).alloc (.cells #[.int .i64 v.cp, .int .i64 v.se, .slice M'.ia M'.i M'.ic, .int .i64 v.nx, .slice M'.sa M'.s M'.sc, .slice M'.la M'.l M'.lc, .slice M'.ga M'.g M'.gc, .bool v.cl] 28) := ⟨_, rfl⟩
  have b0 : Below w.heap.size w W0 := by rw [hW0]; exact bl_alloc (bl_alloc (Below.refl _ _) _) _
  have X0 : BoxL w.heap.size (rC M v) W0 := by rw [hW0]; exact (BoxL.new w (rC M v) _).alloc _
  have Y0 : BoxL (w.heap.size + 1) (rC M' v) W0 := by
    rw [hW0]
    have h := BoxL.new (w.alloc (.cells #[.int .i64 v.cp, .int .i64 v.se, .slice M.ia M.i M.ic, .int .i64 v.nx, .slice M.sa M.s M.sc, .slice M.la M.l M.lc, .slice M.ga M.g M.gc, .bool v.cl] 28)) (rC M' v) 28
    simpa using h
  have H := hidOf (l15Rings_same M M' v W0 (hI.keep b0) (hJ.keep b0) hm hm')
  have HB0 := hidOf b0
  obtain ⟨p0, p1, p2, p3, p4, p5, p6, p7⟩ := box8 X0
  obtain ⟨q0, q1, q2, q3, q4, q5, q6, q7⟩ := box8 Y0
  clear hI hJ hm hm' X0 Y0 b0
  go_enter Tryz.func22, Tryz.ntmps22
  go_wp2_with fail
  rw [← hW0]
  clear hW0
  refine H.out.mono ?_
  rintro e w1 ⟨rfl, hb1⟩
  have HB1 := hidOf (bl_trans HB0.out hb1)
  clear hb1 HB0 H p0 p1 p2 p3 p4 p5 p6 p7 q0 q1 q2 q3 q4 q5 q6 q7
  go_wp2
  go_ret
  exact ⟨rfl, HB1.out⟩
end Go.Proofs.YtdboaoejlkkoeaaGreat
