/-
  Walks of the specification's notifications: a telling of all.
-/
import Derived.Deep.RegionLaw
import Derived.Deep.RegionHeld3
import Derived.Test.YtfgknbflgmblmaaSN4b
namespace Go.Proofs.Ytfgknbflgmblmaa
open Go.RowKit Pl Il

theorem all_end {w : World} {A A' : Na} {x : Nt} {y : Nt} {N : Nat} {u w7 : World} {g7 n7 c7 : Nat} {l : List Int} (hC : NCtx w A x u) (hS : NSr (w.heap.size + 2) N A' y u) (ho : w7.ownsRow u.drew.heap.size 3 1 (.slice (some ⟨g7, 0, none⟩) n7 c7) n7 (intsV l)) (hb : Below u.drew.heap.size u.drew w7) :
    w7.cell? ⟨N, 0, none⟩ = some (.bool y.pm) ∧ w7.cell? ⟨N, 1, none⟩ = some (.slice A'.a A'.n A'.c) ∧ w7.cell? ⟨N, 2, none⟩ = some (.slice A'.a' A'.n' A'.c') ∧ w7.cell? ⟨N, 3, none⟩ = some (.int .i64 y.on) ∧ w7.cell? ⟨N, 4, none⟩ = some (.int .i64 y.sp) ∧ w7.cell? ⟨N, 5, none⟩ = some (.int .i64 y.tk) ∧
    w7.cell? ⟨w.heap.size + 1, 0, none⟩ = some (.bool false) ∧ w7.cell? ⟨w.heap.size + 1, 1, none⟩ = some (.slice none 0 0) ∧ w7.cell? ⟨w.heap.size + 1, 2, none⟩ = some (.slice none 0 0) ∧ w7.cell? ⟨w.heap.size + 1, 3, none⟩ = some (.int .i64 0) ∧ w7.cell? ⟨w.heap.size + 1, 4, none⟩ = some (.int .i64 0) ∧ w7.cell? ⟨w.heap.size + 1, 5, none⟩ = some (.int .i64 0) ∧ (∀ o, w7.frozen? ⟨w.heap.size + 1, o, none⟩ = false) ∧
    NOwn w.heap.size ((((((w7.setCell ⟨w.heap.size + 1, 0, none⟩ (.bool y.pm)).setCell ⟨w.heap.size + 1, 1, none⟩ (.slice A'.a A'.n A'.c)).setCell ⟨w.heap.size + 1, 2, none⟩ (.slice A'.a' A'.n' A'.c')).setCell ⟨w.heap.size + 1, 3, none⟩ (.int .i64 y.on)).setCell ⟨w.heap.size + 1, 4, none⟩ (.int .i64 y.sp)).setCell ⟨w.heap.size + 1, 5, none⟩ (.int .i64 y.tk)) A' y ∧ A'.n ≤ A'.c ∧
    Il.OwnAt w.heap.size ((((((w7.setCell ⟨w.heap.size + 1, 0, none⟩ (.bool y.pm)).setCell ⟨w.heap.size + 1, 1, none⟩ (.slice A'.a A'.n A'.c)).setCell ⟨w.heap.size + 1, 2, none⟩ (.slice A'.a' A'.n' A'.c')).setCell ⟨w.heap.size + 1, 3, none⟩ (.int .i64 y.on)).setCell ⟨w.heap.size + 1, 4, none⟩ (.int .i64 y.sp)).setCell ⟨w.heap.size + 1, 5, none⟩ (.int .i64 y.tk)) (some ⟨g7, 0, none⟩) n7 l ∧ Apart3 A'.a A'.n A'.a' A'.n' (some ⟨g7, 0, none⟩) n7 ∧
    Below w.heap.size w ((((((w7.setCell ⟨w.heap.size + 1, 0, none⟩ (.bool y.pm)).setCell ⟨w.heap.size + 1, 1, none⟩ (.slice A'.a A'.n A'.c)).setCell ⟨w.heap.size + 1, 2, none⟩ (.slice A'.a' A'.n' A'.c')).setCell ⟨w.heap.size + 1, 3, none⟩ (.int .i64 y.on)).setCell ⟨w.heap.size + 1, 4, none⟩ (.int .i64 y.sp)).setCell ⟨w.heap.size + 1, 5, none⟩ (.int .i64 y.tk)) := by
  have hu : u.drew.heap.size = u.heap.size := rfl
  have hb' : Below u.heap.size u w7 := (Below.refl _ _).drew.trans hb
  have hS7 := hS.keep hb'
  have hC7 := hC.kp hb'
  have hsz := hC.sz
  obtain ⟨f1, f2, f3⟩ := nsr_fin hC7 hS7.rows
  obtain ⟨_, s0, s1, s2, s3, s4, s5, _⟩ := hS7.box
  obtain ⟨_, r0, r1, r2, r3, r4, r5, rf⟩ := hC7.box1
  have hg : u.heap.size ≤ g7 := (ho.lt g7 rfl).1
  refine ⟨s0, s1, s2, s3, s4, s5, r0, r1, r2, r3, r4, r5, rf, f1, f2, (own6 ((row_own ho).1.mono (by omega)) (B := w.heap.size + 2) (by omega) _ _ _ _ _ _).mono (by omega), .inr fun b off e => ⟨.inr fun b' off' e' hbb => ?_, .inr fun b' off' e' hbb => ?_⟩, f3⟩
  · cases e
    have := (hS.rows.one.lt b' (by rw [e']; rfl)).2
    omega
  · cases e
    have := (hS.rows.two.lt b' (by rw [e']; rfl)).2
    omega
set_option maxRecDepth 100000 in
set_option maxHeartbeats 2000000 in
theorem specTellAll_any (A : Na) (x : Nt) (w : World) (hI : NIn w A x) (hn : A.n ≤ 2097152) (hn' : A.n' ≤ 2097152) (hok : A.n ≤ A.c) :
    Calls Try.prog 35 #[.agg #[.bool x.pm, .slice A.a A.n A.c, .slice A.a' A.n' A.c', .int .i64 x.on, .int .i64 x.sp, .int .i64 x.tk]] w fun e w' => NOutT w (tellAllM x).1 (tellAllM x).2.1 (tellAllM x).2.2 e w' := by
  have hC := nctx_new hI
  have s1 : ((w.alloc (.cells #[.bool x.pm, .slice A.a A.n A.c, .slice A.a' A.n' A.c', .int .i64 x.on, .int .i64 x.sp, .int .i64 x.tk] 27)).alloc (.cells #[.bool false, .slice none 0 0, .slice none 0 0, .int .i64 0, .int .i64 0, .int .i64 0] 27)).heap.size = w.heap.size + 2 := by simp
  have HL1 := hidOf hI.ints.len
  have HL2 := hidOf hI.grs.len
  have HCp := hidOf (l5Copy_any A x _ hC.ninX hn hn')
  have HC := hidOf hC
  have S1 := hidOf s1
  clear hC s1 hI
  go_enter Try.func35, Try.ntmps35
  go_wp2_with fail
  refine (HCp.out).mono ?_
  rintro e w1 ⟨a1, c1, a2, c2, rfl, hR, hb1⟩
  rw [S1.out] at hR
  have hC1 := HC.out.kp hb1
  have hS := nsr_new hR hC1.sz
  generalize hW2 : w1.alloc (.cells #[.bool x.pm, .slice a1 A.n c1, .slice a2 A.n' c2, .int .i64 x.on, .int .i64 x.sp, .int .i64 x.tk] 27) = W2
  have hb2 : Below w1.heap.size w1 W2 := by subst hW2; exact bl_alloc (Below.refl _ _) _
  simp only at hS
  rw [hW2] at hS
  have hC2 := hC1.kp hb2
  obtain ⟨_, p0, p1, p2, p3, p4, p5, _⟩ := id hC2.box0
  have HS := hidOf hS
  have HC2 := hidOf hC2
  clear hR hb1 hC1 hb2 hC2 hS HC HCp
  go_wp2_with fail
  refine (specNotifyOk_any A x _ HC2.out.ninX hn hn' hok).mono ?_
  rintro e w3 ⟨rfl, hb3⟩
  have hC := HC2.out.kp hb3
  have hS := HS.out.keep hb3
  clear p0 p1 p2 p3 p4 p5 hW2 hb3 HS HC2
  obtain ⟨A1, hA1⟩ : ∃ A1 : Na, A1 = ⟨a1, A.n, c1, a2, A.n', c2⟩ := ⟨_, rfl⟩
  rw [← hA1] at hS
  have hAn : A1.n = A.n ∧ A1.n' = A.n' := by rw [hA1]; exact ⟨rfl, rfl⟩
  have HAn := hidOf hAn
  clear hA1 hAn
  generalize hN : w1.heap.size = N at *
  clear hN
  obtain ⟨_, p0, p1, p2, p3, p4, p5, _⟩ := id hC.box0
  obtain ⟨_, z0, z1, z2, z3, z4, z5, zf⟩ := id hS.box
  have HC := hidOf hC
  have HS := hidOf hS
  have HIX := hidOf hC.ninX
  clear hC hS
  cases hokx : okN x
  · obtain ⟨_, r0, r1, r2, r3, r4, r5, rf⟩ := id HC.out.box1
    have HF := hidOf (nsr_fin (A' := A1) (y := x) HC.out HS.out.rows)
    have HR := hidOf (show tellAllM x = (x, [], 1) by unfold tellAllM; rw [if_pos hokx])
    clear HC HS hokx
    go_wp2
    refine bodyPost_ret (v := .tuple #[.agg #[.bool x.pm, .slice A1.a A1.n A1.c, .slice A1.a' A1.n' A1.c', .int .i64 x.on, .int .i64 x.sp, .int .i64 x.tk], .slice none 0 0, .int .i64 1]) (by simp [results, Try.results35, go_sem, r0, r1, r2, r3, r4, r5]) rfl ?_
    rw [HR.out]
    exact ⟨A1, none, 0, 0, rfl, HF.out.1, HF.out.2.1, ⟨⟨rfl, .inl rfl⟩, .inl rfl⟩, .inl rfl, HF.out.2.2⟩
  · obtain ⟨k1, _, k3, k4, k5, k6, k7, k8⟩ := okN_parts hokx
    have HK8 := hidOf k8
    clear k8
    rw [HL1.out] at k3
    rw [HL2.out] at k4
    have HOK := hidOf hokx
    have HK1 := hidOf k1
    clear hokx k1
    by_cases h4 : 32 < x.ln.length + x.gs.length
    · have h5 : (32 : Int) < (A.n : Int) + (A.n' : Int) := by have := HL1.out; have := HL2.out; omega
      obtain ⟨_, r0, r1, r2, r3, r4, r5, rf⟩ := id HC.out.box1
      have HF := hidOf (nsr_fin (A' := A1) (y := x) HC.out HS.out.rows)
      have HR := hidOf (show tellAllM x = (x, [], 2) by
        unfold tellAllM
        rw [if_neg (by rw [HOK.out]; simp), if_pos h4])
      clear HC HS h4
      go_wp2
      refine bodyPost_ret (v := .tuple #[.agg #[.bool x.pm, .slice A1.a A1.n A1.c, .slice A1.a' A1.n' A1.c', .int .i64 x.on, .int .i64 x.sp, .int .i64 x.tk], .slice none 0 0, .int .i64 2]) (by simp [results, Try.results35, go_sem, r0, r1, r2, r3, r4, r5]) rfl ?_
      rw [HR.out]
      exact ⟨A1, none, 0, 0, rfl, HF.out.1, HF.out.2.1, ⟨⟨rfl, .inl rfl⟩, .inl rfl⟩, .inl rfl, HF.out.2.2⟩
    · have h5 : ¬ (32 : Int) < (A.n : Int) + (A.n' : Int) := by have := HL1.out; have := HL2.out; omega
      have h5' : decide ((32 : Int) < (A.n : Int) + (A.n' : Int)) = false := by simp; omega
      have hres : tellAllM x = (allM x, x.ln, 0) := by
        unfold tellAllM
        rw [if_neg (by rw [HOK.out]; simp), if_neg h4]
      have HRes := hidOf hres
      have HI := hidOf HC.out.nin.ints
      clear hres h4 HIX z0 z1 z2 z3 z4 z5 zf p0 p1 p2 p3 p4 p5
      obtain ⟨_, p0, p1, p2, p3, p4, p5, _⟩ := id HC.out.box0
      go_wp2_with fail
      go_loopw [6] (fun i wr => ∃ (j : Nat) (A' : Na), j ≤ A.n ∧ i = .int .i64 j ∧ A'.n' = A.n' + j ∧ NSr (w.heap.size + 2) N A' { x with gs := x.gs ++ (x.ln.take j).map fun y => (y, false) } wr ∧ NCtx w A x wr) (fun i _ => A.n - (intOf i).toNat)
      case atStart => exact ⟨0, A1, Nat.zero_le _, rfl, HAn.out.2, by simpa using HS.out, HC.out⟩
      case round =>
        rename_i wr
        obtain ⟨j, A', hj, rfl, en', hS, hCr⟩ := hrel
        clear HS HC p0 p1 p2 p3 p4 p5
        obtain ⟨_, p0, p1, p2, p3, p4, p5, _⟩ := id hCr.box0
        obtain ⟨_, z0, z1, z2, z3, z4, z5, zf⟩ := id hS.box
        simp only at z0 z1 z2 z3 z4 z5
        by_cases hlt : j < A.n
        · obtain ⟨_, h' | ⟨b, off, ea, hb, hcell⟩⟩ := hCr.ninX.ints
          · omega
          have hjl : j < x.ln.length := by rw [HL1.out]; exact hlt
          have hc := hcell j hlt
          have htk : x.ln.take (j + 1) = x.ln.take j ++ [x.ln.getD j 0] := by
            rw [List.take_succ_eq_append_getElem hjl]; simp [List.getD, List.getElem?_eq_getElem hjl]
          generalize hy : x.ln.getD j 0 = y at hc htk
          have hSd := hS.keep (Below.refl wr.heap.size wr).drew
          have hCd := hCr.kp (Below.refl wr.heap.size wr).drew
          obtain ⟨g', c', w', hr, ho', hg', hl'⟩ := append_gr2 (w.heap.size + 2) A'.n' _ _ y false wr.drew hSd.rows.two hCd.sz (by omega)
          obtain ⟨hbx, hS2⟩ := hSd.grow ho' hg' hl'
          obtain ⟨hCx, hC2⟩ := hCd.grown hg' (fun q e => (hS.rows.two.lt q e).1) N 2 hS.ge (.slice (some ⟨g', 0, none⟩) (A'.n' + 1) c')
          obtain ⟨_, r0, r1, r2, r3, r4, r5, rf⟩ := hbx
          have dq : ∀ o, (wr.alloc o).cell? ⟨N, 2, none⟩ = some (.slice A'.a' A'.n' A'.c') := fun o => by rw [World.cell?_alloc_old _ _ _ (Nat.ne_of_lt (World.block_lt_of_cell? wr _ z2))]; exact z2
          have dp : ∀ o, (wr.alloc o).cell? ⟨w.heap.size, 1, none⟩ = some (.slice (some ⟨b, off, none⟩) A.n A.c) := fun o => by rw [World.cell?_alloc_old _ _ _ (Nat.ne_of_lt (World.block_lt_of_cell? wr _ p1))]; rw [← ea]; exact p1
          have dc : ∀ o, (wr.alloc o).cell? ⟨b, off + j, none⟩ = some (.int .i64 y) := fun o => by rw [World.cell?_alloc_old _ _ _ (Nat.ne_of_lt (World.block_lt_of_cell? wr _ hc))]; exact hc
          simp only at r0 r1 r2 r3 r4 r5
          have Hr := hidOf hr
          have HN : Hid (NSr (w.heap.size + 2) N { A' with a' := some ⟨g', 0, none⟩, n' := A'.n' + 1, c' := c' } { x with gs := x.gs ++ (x.ln.take (j + 1)).map fun y => (y, false) } (w'.setCell ⟨N, 2, none⟩ (.slice (some ⟨g', 0, none⟩) (A'.n' + 1) c'))) := by
            rw [htk, List.map_append, ← List.append_assoc]; exact hS2
          have HC2 := hidOf hC2
          have EN := hidOf en'
          have hji : (0 : Int) ≤ (j : Int) ∧ (j : Int) < (A.n : Int) := by omega
          rw [ea] at p1
          have Ea := hidOf ea
          clear hr ho' hg' hl' hS2 hCx hC2 hCr hS hSd hCd hcell htk hy en' ea
          go_wp2_with fail
          go_region_law (refine nstep_append_run (by rfl) _ _ 25 (by rfl) (.slice A'.a' A'.n' A'.c') (.slice (some ⟨wr.heap.size, 0, none⟩) 1 1) _ (by rfl) (by rfl) Hr.out ?_)
          all_goals
            go_wp2
            go_roundw
            case rel => exact ⟨j + 1, { A' with a' := some ⟨g', 0, none⟩, n' := A'.n' + 1, c' := c' }, by omega, by go_num, by have := EN.out; simp only; omega, HN.out, HC2.out⟩
            case measure => simp [intOf]; omega
        · obtain rfl : j = A.n := by omega
          have hke : x.ln.take A.n = x.ln := List.take_of_length_le (by rw [HL1.out]; exact Nat.le_refl _)
          rw [hke] at hS
          have hS2 := hS.line (a := none) (n := 0) (c := 0) (xs := []) ⟨rfl, .inl ⟨rfl, rfl⟩⟩ (by simp [Value.ownBlock])
          have hC2 := hCr.keep (hS.below (Below.refl (w.heap.size + 2) wr) 1 (.slice none 0 0)) (Nat.le_refl _)
          have HI2 := hidOf hC2.ninX.ints
          have HS2 := hidOf hS2
          have HC2 := hidOf hC2
          obtain ⟨_, v0, v1, v2, v3, v4, v5, vf⟩ := id hS2.box
          obtain ⟨_, q0, q1, q2, q3, q4, q5, qf⟩ := id hC2.box0
          simp only at v0 v1 v2 v3 v4 v5
          have HCy := hidOf (l2Copy_any A.a A.n A.c x.ln _ (hC2.ninX.ints.keep (Below.refl _ _).drew) hn)
          clear hS hCr hS2 hC2 hke en'
          go_wp2_with fail
          first | (go_region_with (first
            | (go_at_call 73; refine (HCy.out).mono ?_; rintro e w7 ⟨g7, c7, rfl, ho7, hb7⟩; have hT := all_end HC2.out HS2.out ho7 hb7; obtain ⟨s0, s1, s2, s3, s4, s5, r0, r1, r2, r3, r4, r5, rf, hF⟩ := hT; have HF := hidOf hF; simp only at s0 s1 s2 s3 s4 s5; clear hF ho7 hb7))) | fail
          all_goals go_wp2
          all_goals refine bodyPost_ret (v := .tuple #[.agg #[.bool x.pm, .slice none 0 0, .slice A'.a' A'.n' A'.c', .int .i64 x.on, .int .i64 x.sp, .int .i64 x.tk], .slice (some ⟨g7, 0, none⟩) A.n c7, .int .i64 0]) (by simp [results, Try.results35, go_sem, r0, r1, r2, r3, r4, r5]) rfl ?_
          all_goals rw [HRes.out]
          all_goals exact ⟨{ A' with a := none, n := 0, c := 0 }, some ⟨g7, 0, none⟩, A.n, c7, rfl, HF.out⟩
end Go.Proofs.Ytfgknbflgmblmaa
