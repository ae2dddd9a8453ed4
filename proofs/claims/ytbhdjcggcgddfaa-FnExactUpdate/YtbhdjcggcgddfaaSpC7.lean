/-
  The specification's Update.
-/
import Derived.Test.YtbhdjcggcgddfaaSpC6
import Derived.Test.YtbhdjcggcgddfaaCM11
import Derived.Test.YtbhdjcggcgddfaaCC4
namespace Go.Proofs.Ytbhdjcggcgddfaa
open Go.RowKit Pl Il

theorem free_apart {a3 : Option Addr} {m c3 g1 n : Nat} (h : (Value.slice a3 m c3).ownBlock ≠ some g1) : Apart3 none 0 a3 m (some ⟨g1, 0, none⟩) n := by
  refine .inr fun b3 off3 e => ⟨.inl rfl, .inr fun b off e2 hb => ?_⟩
  cases e
  subst e2 hb
  exact h rfl
set_option maxRecDepth 100000 in
set_option maxHeartbeats 4000000 in
theorem specUpdate_any (A : Na) (x : Ct) (q : Int × Int × Int × ByteArray) (w : World) (hI : CIn w A x) (hn : A.n ≤ 2097152) (hn' : A.n' ≤ 2097152) (hok : A.ok) (hqs : q.2.2.2.size ≤ maxLen) :
    Calls Try.prog 72 #[.agg #[.int .i64 x.kd, .int .i64 x.nu, .string x.tx, .int .i64 x.ve, .bool x.cl, .slice A.a A.n A.c, .slice A.a' A.n' A.c'], .agg #[.int .i64 q.1, .int .i64 q.2.1, .int .i64 q.2.2.1, .string q.2.2.2]] w fun e w' => COutT w (updateM x q.1 q.2.1 q.2.2.1 q.2.2.2).1 (updateM x q.1 q.2.1 q.2.2.1 q.2.2.2).2.1 (updateM x q.1 q.2.1 q.2.2.1 q.2.2.2).2.2 e w' := by
  obtain ⟨rk, rn, rs, rb, hm⟩ : ∃ (rk rn : Int) (rs : ByteArray) (rb : Bool), changedM x.kd x.nu x.tx q.1 q.2.1 q.2.2.1 q.2.2.2 = (rk, rn, rs, rb) := ⟨_, _, _, _, rfl⟩
  have htx := hI.tx
  have HCh := hidOf (fun u => (specChanged_any x.kd x.nu x.tx q.1 q.2.1 q.2.2.1 q.2.2.2 u htx hqs).mono fun e w' (h : _ ∧ _) => (show e = .returned (.tuple #[.agg #[.int .i64 rk, .int .i64 rn, .string rs], .bool rb]) ∧ Below u.heap.size u w' from ⟨by have h1 := h.1; unfold ChP at h1; rw [hm] at h1; exact h1, h.2⟩))
  have HCM := hidOf hm
  clear hm hqs
  have hC := dctx_new q hI
  have s1 : (((w.alloc (.cells #[.int .i64 x.kd, .int .i64 x.nu, .string x.tx, .int .i64 x.ve, .bool x.cl, .slice A.a A.n A.c, .slice A.a' A.n' A.c'] 58)).alloc (.cells #[.int .i64 q.1, .int .i64 q.2.1, .int .i64 q.2.2.1, .string q.2.2.2] 62)).alloc (.cells #[.int .i64 0, .int .i64 0, .string ⟨#[]⟩, .int .i64 0, .bool false, .slice none 0 0, .slice none 0 0] 58)).heap.size = w.heap.size + 3 := by simp
  have HL1 := hidOf hI.ints.len
  have HL2 := hidOf hI.grs.len
  have HCp := hidOf (l7Copy_any A x _ hC.ninX hn hn')
  have HC := hidOf hC
  have S1 := hidOf s1
  clear hC s1 hI
  go_enter Try.func72, Try.ntmps72
  go_wp2_with fail
  refine (HCp.out).mono ?_
  rintro e w1 ⟨A1, rfl, hR, hb1⟩
  rw [S1.out] at hR
  have hC1 := HC.out.kp hb1
  have hS := cst_new (x := x) hR hC1.sz
  generalize hW2 : w1.alloc (.cells #[.int .i64 x.kd, .int .i64 x.nu, .string x.tx, .int .i64 x.ve, .bool x.cl, .slice A1.a A1.n A1.c, .slice A1.a' A1.n' A1.c'] 58) = W2 at hS
  have hb2 : Below w1.heap.size w1 W2 := by subst hW2; exact bl_alloc (Below.refl _ _) _
  have hC2 := hC1.kp hb2
  obtain ⟨_, p0, p1, p2, p3, p4, p5, p6, _⟩ := id hC2.box0
  obtain ⟨_, x0, x1, x2, x3, _⟩ := id hC2.chg
  have HS := hidOf hS
  have HC2 := hidOf hC2
  clear hR hb1 hC1 hb2 hC2 hS HC HCp S1
  go_wp2_with fail
  refine (HCh.out _).mono ?_
  rintro e w3 ⟨rfl, hb3⟩
  have hC3 := HC2.out.kp hb3
  have hS3 := HS.out.keep hb3
  generalize hN : w1.heap.size = N at *
  clear p0 p1 p2 p3 p4 p5 p6 x0 x1 x2 x3 hW2 hb3 HS HC2 HCh hN
  generalize hW4 : w3.alloc (.cells #[.int .i64 rk, .int .i64 rn, .string rs] 55) = W4
  have hb4 : Below w3.heap.size w3 W4 := by subst hW4; exact bl_alloc (Below.refl _ _) _
  have m4 : Box3 w3.heap.size (.int .i64 rk) (.int .i64 rn) (.string rs) W4 := by subst hW4; exact Box3.new w3 _ _ _ _
  have hC4 := hC3.kp hb4
  have hS4 := hS3.keep hb4
  have hNR : N < w3.heap.size := hS3.box.lt
  obtain ⟨_, p0, p1, p2, p3, p4, p5, p6, _⟩ := id hC4.box0
  have HS := hidOf hS4
  have HC2 := hidOf hC4
  have HM4 := hidOf m4
  have HNR := hidOf hNR
  clear hC3 hS3 hb4 hC4 hS4 m4 hNR
  go_wp2_with fail
  refine (specCellOk_any A x _ HC2.out.ninX hn hn' hok).mono ?_
  rintro e w5 ⟨rfl, hb5⟩
  have hC := HC2.out.kp hb5
  have hS := HS.out.keep hb5
  have hM := HM4.out.keep hb5
  generalize hRn : w3.heap.size = R at *
  clear p0 p1 p2 p3 p4 p5 p6 hW4 hb5 HS HC2 HM4 hRn
  obtain ⟨_, p0, p1, p2, p3, p4, p5, p6, _⟩ := id hC.box0
  obtain ⟨_, z0, z1, z2, z3, z4, z5, z6, zf⟩ := id hS.box
  obtain ⟨_, m0, m1, m2, mf⟩ := id hM
  have HC := hidOf hC
  have HS := hidOf hS
  have HMM := hidOf hM
  clear hC hS hM
  cases hokx : okC x
  · obtain ⟨_, r0, r1, r2, r3, r4, r5, r6, rf⟩ := id HC.out.box1
    have HF := hidOf (dst_fin (A' := A1) (y := x) HC.out HS.out.rows htx)
    have HR := hidOf (up_bad (kind := q.1) (k := q.2.1) (n := q.2.2.1) (s := q.2.2.2) hokx)
    clear HC HS hokx HCM HMM HNR
    go_wp2
    refine bodyPost_ret (v := .tuple #[.agg #[.int .i64 x.kd, .int .i64 x.nu, .string x.tx, .int .i64 x.ve, .bool x.cl, .slice A1.a A1.n A1.c, .slice A1.a' A1.n' A1.c'], .slice none 0 0, .int .i64 1]) (by simp [results, Try.results72, go_sem, r0, r1, r2, r3, r4, r5, r6]) rfl ?_
    rw [HR.out]
    exact ⟨A1, none, 0, 0, rfl, HF.out.1, HF.out.2.1, ⟨⟨rfl, .inl rfl⟩, .inl rfl⟩, .inl rfl, HF.out.2.2⟩
  have HBo := hidOf (okC_parts hokx)
  have HOK := hidOf hokx
  clear hokx
  obtain ⟨cb, hcb⟩ : ∃ cb : Bool, cb = x.cl := ⟨_, rfl⟩
  have c4 : w5.cell? ⟨w.heap.size, 4, none⟩ = some (.bool cb) := by rw [hcb]; exact p4
  have HQ := hidOf hcb
  clear hcb p4
  cases cb
  · cases rb
    · obtain ⟨_, r0, r1, r2, r3, r4, r5, r6, rf⟩ := id HC.out.box1
      have HF := hidOf (dst_fin (A' := A1) (y := x) HC.out HS.out.rows htx)
      have HR := hidOf (up_no HOK.out HQ.out.symm HCM.out)
      clear HC HS HCM HMM HNR HOK HBo HQ
      go_wp2
      refine bodyPost_ret (v := .tuple #[.agg #[.int .i64 x.kd, .int .i64 x.nu, .string x.tx, .int .i64 x.ve, .bool x.cl, .slice A1.a A1.n A1.c, .slice A1.a' A1.n' A1.c'], .slice none 0 0, .int .i64 1]) (by simp [results, Try.results72, go_sem, r0, r1, r2, r3, r4, r5, r6]) rfl ?_
      rw [HR.out]
      exact ⟨A1, none, 0, 0, rfl, HF.out.1, HF.out.2.1, ⟨⟨rfl, .inl rfl⟩, .inl rfl⟩, .inl rfl, HF.out.2.2⟩
    · have hvb := HBo.out.2.1
      by_cases hve : x.ve = 1000000000
      · have hge : (1000000000 : Int) ≤ x.ve := by omega
        obtain ⟨_, r0, r1, r2, r3, r4, r5, r6, rf⟩ := id HC.out.box1
        have HF := hidOf (dst_fin (A' := A1) (y := x) HC.out HS.out.rows htx)
        have HR := hidOf (up_full HOK.out HQ.out.symm HCM.out (.inl hve))
        clear HC HS HCM HMM HNR HOK HBo HQ hve
        go_wp2
        refine bodyPost_ret (v := .tuple #[.agg #[.int .i64 x.kd, .int .i64 x.nu, .string x.tx, .int .i64 x.ve, .bool x.cl, .slice A1.a A1.n A1.c, .slice A1.a' A1.n' A1.c'], .slice none 0 0, .int .i64 2]) (by simp [results, Try.results72, go_sem, r0, r1, r2, r3, r4, r5, r6]) rfl ?_
        rw [HR.out]
        exact ⟨A1, none, 0, 0, rfl, HF.out.1, HF.out.2.1, ⟨⟨rfl, .inl rfl⟩, .inl rfl⟩, .inl rfl, HF.out.2.2⟩
      · have hlt : ¬ (1000000000 : Int) ≤ x.ve := by omega
        by_cases hle : 32 < x.ln.length + x.gs.length
        · have h5 : (32 : Int) < (A.n : Int) + (A.n' : Int) := by have := HL1.out; have := HL2.out; omega
          obtain ⟨_, r0, r1, r2, r3, r4, r5, r6, rf⟩ := id HC.out.box1
          have HF := hidOf (dst_fin (A' := A1) (y := x) HC.out HS.out.rows htx)
          have HR := hidOf (up_full HOK.out HQ.out.symm HCM.out (.inr hle))
          clear HC HS HCM HMM HNR HOK HBo HQ hle hve
          go_wp2
          refine bodyPost_ret (v := .tuple #[.agg #[.int .i64 x.kd, .int .i64 x.nu, .string x.tx, .int .i64 x.ve, .bool x.cl, .slice A1.a A1.n A1.c, .slice A1.a' A1.n' A1.c'], .slice none 0 0, .int .i64 2]) (by simp [results, Try.results72, go_sem, r0, r1, r2, r3, r4, r5, r6]) rfl ?_
          rw [HR.out]
          exact ⟨A1, none, 0, 0, rfl, HF.out.1, HF.out.2.1, ⟨⟨rfl, .inl rfl⟩, .inl rfl⟩, .inl rfl, HF.out.2.2⟩
        · have h5 : ¬ (32 : Int) < (A.n : Int) + (A.n' : Int) := by have := HL1.out; have := HL2.out; omega
          have HR := hidOf (up_ok HOK.out HQ.out.symm HCM.out (by rintro (h | h); exact hve h; exact hle h))
          have hrs : rs.size ≤ maxLen := by
            have ho := ch_right HCM.out
            by_cases h1 : rk = 1
            · subst h1
              simp only [okB, if_true, Bool.and_eq_true, List.isEmpty_iff] at ho
              have hl : rs.data.toList = [] := by rw [← ByteArray.toList_eq]; exact ho.1
              have : rs.size = 0 := by rw [← ByteArray.size_data, ← Array.length_toList, hl]; rfl
              omega
            · by_cases h2 : rk = 2
              · subst h2
                have := (txt_bd ho).2
                unfold maxLen; omega
              · simp [okB, h1, h2] at ho
          have hvr : wrap64 (x.ve + 1) = x.ve + 1 := by unfold wrap64; omega
          have hS1 := HS.out.setc (y := { x with kd := rk }) 0 (.int .i64 rk) (HS.out.box.set0 (v := rk)) rfl rfl
          have hS2 := hS1.setc (y := { x with kd := rk, nu := rn }) 1 (.int .i64 rn) (hS1.box.set1 (v := rn)) rfl rfl
          have hS3 := hS2.setc (y := { x with kd := rk, nu := rn, tx := rs }) 2 (.string rs) (hS2.box.set2 (v := rs)) rfl rfl
          have hS4 := hS3.setc (y := { x with kd := rk, nu := rn, tx := rs, ve := x.ve + 1 }) 3 (.int .i64 (x.ve + 1)) (hS3.box.set3 (v := x.ve + 1)) rfl rfl
          have hge := HS.out.ge
          have hC4 := HC.out.keep (B := w.heap.size + 3) (bl_set1 (bl_set1 (bl_set1 (bl_set1 (Below.refl _ _) N 0 hge (.int .i64 rk)) N 1 hge (.int .i64 rn)) N 2 hge (.string rs)) N 3 hge (.int .i64 (x.ve + 1))) (Nat.le_refl _)
          obtain ⟨_, v0, v1, v2, v3, v4, v5, v6, vf⟩ := id hS4.box
          simp only at v0 v1 v2 v3 v4 v5 v6
          have hlen := hS4.rows.len
          simp only at hlen
          have hin : CIn _ A1 { x with kd := rk, nu := rn, tx := rs, ve := x.ve + 1 } := ⟨(row_own hS4.rows.one).1.ints, (row_own hS4.rows.two).1.ints, hrs⟩
          have HFr := hidOf (l7Free_any A1 { x with kd := rk, nu := rn, tx := rs, ve := x.ve + 1 } _ hin (by have := HL1.out; omega) (by have := HL2.out; omega))
          have HC4 := hidOf hC4
          clear hS1 hS2 hS3 hS4 hC4 hge HC HS HCM HOK HQ hle hve hlen hin HMM
          go_wp2_with fail
          refine (HFr.out).mono ?_
          rintro e w6 ⟨a3, c3, g1, c1, rfl, hR6, hO6, hne6, hb6⟩
          simp only at hR6 hO6 hne6
          have hC6 := HC4.out.kp hb6
          have hsz6 := HC4.out.sz
          have hb7 : Below w6.heap.size w6 (w6.alloc (.cells #[.int .i64 rk, .int .i64 rn, .string rs, .int .i64 (x.ve + 1), .bool x.cl, .slice none 0 0, .slice a3 (A1.n' + A1.n) c3] 58)) := bl_alloc (Below.refl _ _) _
          have hC7 := hC6.kp hb7
          have HF := hidOf (dst_finT (A' := ⟨none, 0, 0, a3, A1.n' + A1.n, c3⟩) (y := { x with kd := rk, nu := rn, tx := rs, ve := x.ve + 1, ln := [], gs := x.gs ++ x.ln }) hC7 ((hR6.keep hb7).mono hsz6) hrs ((owns_parts (row_mono (row_below hO6 hb7) hsz6)).2.2.2.2.2))
          obtain ⟨_, r0, r1, r2, r3, r4, r5, r6, rf⟩ := id hC7.box1
          have HA := hidOf (free_apart (n := A1.n) hne6)
          clear hC6 hC7 hb7 hb6 hR6 hO6 hne6 HC4 HFr hsz6
          go_wp2
          refine bodyPost_ret (v := .tuple #[.agg #[.int .i64 rk, .int .i64 rn, .string rs, .int .i64 (x.ve + 1), .bool x.cl, .slice none 0 0, .slice a3 (A1.n' + A1.n) c3], .slice (some ⟨g1, 0, none⟩) A1.n c1, .int .i64 0]) (by simp [results, Try.results72, go_sem, r0, r1, r2, r3, r4, r5, r6]) rfl ?_
          rw [HR.out]
          exact ⟨⟨none, 0, 0, a3, A1.n' + A1.n, c3⟩, some ⟨g1, 0, none⟩, A1.n, c1, rfl, HF.out.1, HF.out.2.1, HF.out.2.2.1, HA.out, HF.out.2.2.2⟩
  · obtain ⟨_, r0, r1, r2, r3, r4, r5, r6, rf⟩ := id HC.out.box1
    have HF := hidOf (dst_fin (A' := A1) (y := x) HC.out HS.out.rows htx)
    have HR := hidOf (up_over (kind := q.1) (k := q.2.1) (n := q.2.2.1) (s := q.2.2.2) HOK.out HQ.out.symm)
    clear HC HS HCM HMM HNR HOK HBo HQ
    go_wp2
    refine bodyPost_ret (v := .tuple #[.agg #[.int .i64 x.kd, .int .i64 x.nu, .string x.tx, .int .i64 x.ve, .bool x.cl, .slice A1.a A1.n A1.c, .slice A1.a' A1.n' A1.c'], .slice none 0 0, .int .i64 6]) (by simp [results, Try.results72, go_sem, r0, r1, r2, r3, r4, r5, r6]) rfl ?_
    rw [HR.out]
    exact ⟨A1, none, 0, 0, rfl, HF.out.1, HF.out.2.1, ⟨⟨rfl, .inl rfl⟩, .inl rfl⟩, .inl rfl, HF.out.2.2⟩
end Go.Proofs.Ytbhdjcggcgddfaa
