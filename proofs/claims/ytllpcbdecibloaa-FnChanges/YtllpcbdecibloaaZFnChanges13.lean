/-
  Walk of the law on changes.
-/
import Derived.Test.YtllpcbdecibloaaZFnChanges7
import Derived.Test.YtllpcbdecibloaaZFnChanges12
namespace Go.Proofs.Ytllpcbdecibloaa
open Go.RowKit Pl Il Dr

theorem eqM_self (k n : Int) (s : ByteArray) (w : World) : (Op.equalIn 10000 25 (.agg #[.int .i64 k, .int .i64 n, .string s]) (.agg #[.int .i64 k, .int .i64 n, .string s])).run Try.prog w = .ok true w := by
  have u3 := Try.underlying3
  have a3 := Try.isAgg3
  have z3 := Try.sizeOf3
  have u9 := Try.underlying9
  have a9 := Try.isAgg9
  have z9 := Try.sizeOf9
  have hS : Try.prog.underlying 25 = some (.struct (Try.prog.fieldsOf 25)) := by kernel_rfl
  have hp : Try.prog.stoodInHeld 25 = false := by kernel_rfl
  rw [show (10000 : Nat) = 9999 + 1 from rfl, run_equalIn_agg w 9999 25 _ _ hS hp]
  simp only [Program.fieldsOf, Try.underlying25]
  go_simp
theorem eqlM_self (k n : Int) (s : ByteArray) (w : World) : (binOp .eql 25 (.agg #[.int .i64 k, .int .i64 n, .string s]) (.agg #[.int .i64 k, .int .i64 n, .string s])).run Try.prog w = .ok (.bool true) w := by
  rw [run_eql_struct, eqM_self]; rfl
theorem neqM_self (k n : Int) (s : ByteArray) (w : World) : (binOp .neq 25 (.agg #[.int .i64 k, .int .i64 n, .string s]) (.agg #[.int .i64 k, .int .i64 n, .string s])).run Try.prog w = .ok (.bool false) w := by
  rw [run_neq_struct, eqM_self]; rfl
theorem wf_small {k : Int} (h0 : -1 ≤ k) (h1 : k ≤ 5) : (Lit.int .i64 k).wf = true := by
  have h : k = -1 ∨ k = 0 ∨ k = 1 ∨ k = 2 ∨ k = 3 ∨ k = 4 ∨ k = 5 := by omega
  rcases h with rfl | rfl | rfl | rfl | rfl | rfl | rfl <;> decide
theorem implCh {k n : Int} {s : ByteArray} {kind k' n' : Int} {s' : ByteArray} {a b : Int} {c : ByteArray} {d : Bool} (hr : changedM k n s kind k' n' s' = (a, b, c, d)) (w : World) (hs : s.size ≤ maxLen) (hs' : s'.size ≤ maxLen) (hk : (Lit.int .i64 kind).wf = true) :
    Calls Try.prog 12 #[.agg #[.int .i64 k, .int .i64 n, .string s], .agg #[.int .i64 kind, .int .i64 k', .int .i64 n', .string s']] w fun e w' => e = .returned (.tuple #[.agg #[.int .i64 a, .int .i64 b, .string c], .bool d]) ∧ Below w.heap.size w w' :=
  (implChanged_any k n s kind k' n' s' w hs hs' hk).mono fun e w' ⟨h, hb⟩ => ⟨by unfold ChP at h; rw [hr] at h; exact h, hb⟩
theorem specCh {k n : Int} {s : ByteArray} {kind k' n' : Int} {s' : ByteArray} {a b : Int} {c : ByteArray} {d : Bool} (hr : changedM k n s kind k' n' s' = (a, b, c, d)) (w : World) (hs : s.size ≤ maxLen) (hs' : s'.size ≤ maxLen) :
    Calls Try.prog 13 #[.agg #[.int .i64 k, .int .i64 n, .string s], .agg #[.int .i64 kind, .int .i64 k', .int .i64 n', .string s']] w fun e w' => e = .returned (.tuple #[.agg #[.int .i64 a, .int .i64 b, .string c], .bool d]) ∧ Below w.heap.size w w' :=
  (specChanged_any k n s kind k' n' s' w hs hs').mono fun e w' ⟨h, hb⟩ => ⟨by unfold ChP at h; rw [hr] at h; exact h, hb⟩
theorem changes_big (a : Option Addr) (len cap : Nat) (w : World) (hl : 1048576 < len) :
    Calls Try.prog 3 #[.slice a len cap] w fun e w' => e = .returned (.bool true) ∧ Below w.heap.size w w' := by
  have h : 1048576 < (len : Int) := by omega
  go_enter Try.func3, Try.ntmps3
  go_wp2_with fail
  refine (big_any a len cap _).mono ?_
  rintro e w1 ⟨rfl, rfl⟩
  rw [show decide (1048576 < len) = true by simp [hl]]
  go_wp2
  go_ret
  exact ⟨rfl, Below.refl _ _⟩
set_option maxRecDepth 100000 in
set_option maxHeartbeats 8000000 in
theorem changes_small (a : Option Addr) (len cap : Nat) (w : World) (hB : Bytes w.heap.size w a len cap) (hl : len ≤ 1048576) :
    Calls Try.prog 3 #[.slice a len cap] w fun e w' => e = .returned (.bool true) ∧ Below w.heap.size w w' := by
  have HB := hidOf hB
  clear hB
  go_enter Try.func3, Try.ntmps3
  go_wp2_with fail
  refine (big_any a len cap _).mono ?_
  rintro e w0 ⟨rfl, rfl⟩
  rw [show decide (1048576 < len) = false by simp; omega]
  go_wp2_with fail
  refine (drawChanged_any a len cap _ HB.out).mono ?_
  rintro e w1 ⟨k, n, s, kind, k', n', s', rfl, hs0, hs0', hk0, hk1, hb1⟩
  have hs : s.size ≤ maxLen := by unfold maxLen; omega
  have hs' : s'.size ≤ maxLen := by unfold maxLen; omega
  have hwf := wf_small hk0 hk1
  obtain ⟨⟨ra, rb, rc, rd⟩, hr⟩ : ∃ r, changedM k n s kind k' n' s' = r := ⟨_, rfl⟩
  have hrc : rc.size ≤ maxLen := by
    have := @ch_size k n s kind k' n' s'
    rw [hr] at this
    unfold maxLen
    simp only at this
    omega
  have s1 : (w1.alloc (.cells #[.int .i64 k, .int .i64 n, .string s] 25)).heap.size = w1.heap.size + 1 := by simp
  have M2 := (Box3.new w1 (.int .i64 k) (.int .i64 n) (.string s) 25).alloc (.cells #[.int .i64 kind, .int .i64 k', .int .i64 n', .string s'] 27)
  have X2 := Box4.new (w1.alloc (.cells #[.int .i64 k, .int .i64 n, .string s] 25)) (.int .i64 kind) (.int .i64 k') (.int .i64 n') (.string s') 27
  rw [s1] at X2
  have B2 : Below w0.heap.size w0 _ := bl_alloc (bl_alloc hb1 (.cells #[.int .i64 k, .int .i64 n, .string s] 25)) (.cells #[.int .i64 kind, .int .i64 k', .int .i64 n', .string s'] 27)
  have HR := hidOf hr
  have HM2 := hidOf M2
  have HX2 := hidOf X2
  have HB2 := hidOf B2
  clear hb1 HB hk0 hk1 M2 X2 B2 s1 hr
  go_wp2_with fail
  refine (implCh HR.out _ hs hs' hwf).mono ?_
  rintro e w3 ⟨rfl, hb3⟩
  have HM3 := hidOf (HM2.out.keep hb3)
  have HX3 := hidOf (HX2.out.keep hb3)
  have HB3 := hidOf (bl_trans HB2.out hb3)
  clear hb3 HB2 HM2 HX2
  have m0 := fun o => (HM3.out.alloc o).c0
  have m1 := fun o => (HM3.out.alloc o).c1
  have m2 := fun o => (HM3.out.alloc o).c2
  have x0 := fun o => (HX3.out.alloc o).c0
  have x1 := fun o => (HX3.out.alloc o).c1
  have x2 := fun o => (HX3.out.alloc o).c2
  have x3 := fun o => (HX3.out.alloc o).c3
  go_wp2_with fail
  refine (specCh HR.out _ hs hs').mono ?_
  rintro e w4 ⟨rfl, hb4⟩
  clear m0 m1 m2 x0 x1 x2 x3
  have HM4 := hidOf ((HM3.out.alloc _).keep hb4)
  have HX4 := hidOf ((HX3.out.alloc _).keep hb4)
  have HV4 := hidOf ((Box3.new w3 (.int .i64 ra) (.int .i64 rb) (.string rc) 25).keep hb4)
  have HB4 := hidOf (bl_trans (bl_alloc HB3.out _) hb4)
  clear hb4 HB3 HM3 HX3
  have m0 := fun o => (HM4.out.alloc o).c0
  have m1 := fun o => (HM4.out.alloc o).c1
  have m2 := fun o => (HM4.out.alloc o).c2
  have x0 := fun o => (HX4.out.alloc o).c0
  have x1 := fun o => (HX4.out.alloc o).c1
  have x2 := fun o => (HX4.out.alloc o).c2
  have x3 := fun o => (HX4.out.alloc o).c3
  have v0 := fun o => (HV4.out.alloc o).c0
  have v1 := fun o => (HV4.out.alloc o).c1
  have v2 := fun o => (HV4.out.alloc o).c2
  have nq := neqM_self ra rb rc
  cases rd
  · go_wp2_with fail
    refine (specMsgOk_any k n s _ hs).mono ?_
    rintro e w6 ⟨rfl, hb6⟩
    have HM6 := hidOf ((HM4.out.alloc _).keep hb6)
    have HX6 := hidOf ((HX4.out.alloc _).keep hb6)
    have HB6 := hidOf (bl_trans (bl_alloc HB4.out _) hb6)
    clear hb6 HM4 HX4 HV4 HB4 m0 m1 m2 x0 x1 x2 x3 v0 v1 v2 nq
    cases h0 : okB k n s
    · have HBf := hidOf HB6.out
      clear HB6 HM6 HX6
      go_wp2
      go_ret
      exact ⟨rfl, HBf.out⟩
    have HO0 := hidOf h0
    clear h0
    obtain ⟨_, x0, x1, x2, x3, xf⟩ := id HX6.out
    go_wp2_with fail
    refine (specMsgOk_any k' n' s' _ hs').mono ?_
    rintro e w7 ⟨rfl, hb7⟩
    have HM7 := hidOf (HM6.out.keep hb7)
    have HX7 := hidOf (HX6.out.keep hb7)
    have HB7 := hidOf (bl_trans HB6.out hb7)
    clear hb7 HM6 HX6 HB6 x0 x1 x2 x3 xf
    cases h1 : okB k' n' s'
    · clear HM7 HX7
      go_wp2
      go_ret
      exact ⟨rfl, HB7.out⟩
    obtain ⟨pa, pb, pc, h4, h4', hlt, hpc⟩ := ch_most HO0.out h1
    obtain ⟨⟨qa, qb, qc, qd⟩, h2⟩ : ∃ r, changedM k n s 2 k' n' s' = r := ⟨_, rfl⟩
    have h2' := (ch_add HO0.out h1).symm.trans h2
    have h5 := ch_put HO0.out h1
    have hpm : pc.size ≤ maxLen := by unfold maxLen; omega
    have H4 := hidOf h4
    have H4' := hidOf h4'
    have H2 := hidOf h2
    have H2' := hidOf h2'
    have H5 := hidOf h5
    have HLT := hidOf hlt
    clear h1 HO0 h4 h4' h2 h2' h5 hlt hpc HR
    obtain ⟨_, m0, m1, m2, mf⟩ := id HM7.out
    obtain ⟨_, x0, x1, x2, x3, xf⟩ := id HX7.out
    go_wp2_with fail
    refine (implCh H4.out _ hs hs' (by decide)).mono ?_
    rintro e w8 ⟨rfl, hb8⟩
    clear m0 m1 m2 mf x0 x1 x2 x3 xf
    have HM8 := hidOf (HM7.out.keep hb8)
    have HX8 := hidOf (HX7.out.keep hb8)
    have HB8 := hidOf (bl_trans HB7.out hb8)
    clear hb8 HM7 HX7 HB7
    have m0 := fun o => (HM8.out.alloc o).c0
    have m1 := fun o => (HM8.out.alloc o).c1
    have m2 := fun o => (HM8.out.alloc o).c2
    have x0 := fun o => (HX8.out.alloc o).c0
    have x1 := fun o => (HX8.out.alloc o).c1
    have x2 := fun o => (HX8.out.alloc o).c2
    have x3 := fun o => (HX8.out.alloc o).c3
    go_wp2_with fail
    refine (implCh H4'.out _ hs' hs (by decide)).mono ?_
    rintro e w9 ⟨rfl, hb9⟩
    clear m0 m1 m2 x0 x1 x2 x3
    have HM9 := hidOf ((HM8.out.alloc _).keep hb9)
    have HX9 := hidOf ((HX8.out.alloc _).keep hb9)
    have HA9 := hidOf ((Box3.new w8 (.int .i64 pa) (.int .i64 pb) (.string pc) 25).keep hb9)
    have HB9 := hidOf (bl_trans (bl_alloc HB8.out _) hb9)
    clear hb9 HB8 HM8 HX8
    have m0 := fun o => (HM9.out.alloc o).c0
    have m1 := fun o => (HM9.out.alloc o).c1
    have m2 := fun o => (HM9.out.alloc o).c2
    have x0 := fun o => (HX9.out.alloc o).c0
    have x1 := fun o => (HX9.out.alloc o).c1
    have x2 := fun o => (HX9.out.alloc o).c2
    have x3 := fun o => (HX9.out.alloc o).c3
    have a0 := fun o => (HA9.out.alloc o).c0
    have a1 := fun o => (HA9.out.alloc o).c1
    have a2 := fun o => (HA9.out.alloc o).c2
    go_wp2_with fail
    refine (implCh H2.out _ hs hs' (by decide)).mono ?_
    rintro e w10 ⟨rfl, hb10⟩
    clear m0 m1 m2 x0 x1 x2 x3 a0 a1 a2
    have HM10 := hidOf ((HM9.out.alloc _).keep hb10)
    have HX10 := hidOf ((HX9.out.alloc _).keep hb10)
    have HA10 := hidOf ((HA9.out.alloc _).keep hb10)
    have HG10 := hidOf ((Box3.new w9 (.int .i64 pa) (.int .i64 pb) (.string pc) 25).keep hb10)
    have HB10 := hidOf (bl_trans (bl_alloc HB9.out _) hb10)
    clear hb10 HB9 HM9 HX9 HA9
    have m0 := fun o => (HM10.out.alloc o).c0
    have m1 := fun o => (HM10.out.alloc o).c1
    have m2 := fun o => (HM10.out.alloc o).c2
    have x0 := fun o => (HX10.out.alloc o).c0
    have x1 := fun o => (HX10.out.alloc o).c1
    have x2 := fun o => (HX10.out.alloc o).c2
    have x3 := fun o => (HX10.out.alloc o).c3
    have a0 := fun o => (HA10.out.alloc o).c0
    have a1 := fun o => (HA10.out.alloc o).c1
    have a2 := fun o => (HA10.out.alloc o).c2
    have g0 := fun o => (HG10.out.alloc o).c0
    have g1 := fun o => (HG10.out.alloc o).c1
    have g2 := fun o => (HG10.out.alloc o).c2
    go_wp2_with fail
    refine (implCh H2'.out _ hs' hs (by decide)).mono ?_
    rintro e w11 ⟨rfl, hb11⟩
    clear m0 m1 m2 x0 x1 x2 x3 a0 a1 a2 g0 g1 g2
    have HM11 := hidOf ((HM10.out.alloc _).keep hb11)
    have HX11 := hidOf ((HX10.out.alloc _).keep hb11)
    have HA11 := hidOf ((HA10.out.alloc _).keep hb11)
    have HG11 := hidOf ((HG10.out.alloc _).keep hb11)
    have HC11 := hidOf ((Box3.new w10 (.int .i64 qa) (.int .i64 qb) (.string qc) 25).keep hb11)
    have HB11 := hidOf (bl_trans (bl_alloc HB10.out _) hb11)
    clear hb11 HB10 HM10 HX10 HA10 HG10
    have m0 := fun o => (HM11.out.alloc o).c0
    have m1 := fun o => (HM11.out.alloc o).c1
    have m2 := fun o => (HM11.out.alloc o).c2
    have x0 := fun o => (HX11.out.alloc o).c0
    have x1 := fun o => (HX11.out.alloc o).c1
    have x2 := fun o => (HX11.out.alloc o).c2
    have x3 := fun o => (HX11.out.alloc o).c3
    have a0 := fun o => (HA11.out.alloc o).c0
    have a1 := fun o => (HA11.out.alloc o).c1
    have a2 := fun o => (HA11.out.alloc o).c2
    have g0 := fun o => (HG11.out.alloc o).c0
    have g1 := fun o => (HG11.out.alloc o).c1
    have g2 := fun o => (HG11.out.alloc o).c2
    have c0 := fun o => (HC11.out.alloc o).c0
    have c1 := fun o => (HC11.out.alloc o).c1
    have c2 := fun o => (HC11.out.alloc o).c2
    go_wp2_with fail
    refine (implCh H5.out _ hs hs' (by decide)).mono ?_
    rintro e w12 ⟨rfl, hb12⟩
    clear m0 m1 m2 x0 x1 x2 x3 a0 a1 a2 g0 g1 g2 c0 c1 c2
    have HM12 := hidOf ((HM11.out.alloc _).keep hb12)
    have HX12 := hidOf ((HX11.out.alloc _).keep hb12)
    have HA12 := hidOf ((HA11.out.alloc _).keep hb12)
    have HG12 := hidOf ((HG11.out.alloc _).keep hb12)
    have HC12 := hidOf ((HC11.out.alloc _).keep hb12)
    have HD12 := hidOf ((Box3.new w11 (.int .i64 qa) (.int .i64 qb) (.string qc) 25).keep hb12)
    have HB12 := hidOf (bl_trans (bl_alloc HB11.out _) hb12)
    clear hb12 HB11 HM11 HX11 HA11 HG11 HC11
    have m0 := fun o => (HM12.out.alloc o).c0
    have m1 := fun o => (HM12.out.alloc o).c1
    have m2 := fun o => (HM12.out.alloc o).c2
    have x0 := fun o => (HX12.out.alloc o).c0
    have x1 := fun o => (HX12.out.alloc o).c1
    have x2 := fun o => (HX12.out.alloc o).c2
    have x3 := fun o => (HX12.out.alloc o).c3
    have a0 := fun o => (HA12.out.alloc o).c0
    have a1 := fun o => (HA12.out.alloc o).c1
    have a2 := fun o => (HA12.out.alloc o).c2
    have g0 := fun o => (HG12.out.alloc o).c0
    have g1 := fun o => (HG12.out.alloc o).c1
    have g2 := fun o => (HG12.out.alloc o).c2
    have c0 := fun o => (HC12.out.alloc o).c0
    have c1 := fun o => (HC12.out.alloc o).c1
    have c2 := fun o => (HC12.out.alloc o).c2
    have d0 := fun o => (HD12.out.alloc o).c0
    have d1 := fun o => (HD12.out.alloc o).c1
    have d2 := fun o => (HD12.out.alloc o).c2
    have eq1 := eqlM_self pa pb pc
    have eq2 := eqlM_self qa qb qc
    have eq3 := eqlM_self k' n' s'
    go_wp2_with fail
    refine (specLess_any pa pb pc k n s _ hpm hs).mono ?_
    rintro e w13 ⟨rfl, hb13⟩
    rw [HLT.out]
    clear m0 m1 m2 x0 x1 x2 x3 a0 a1 a2 g0 g1 g2 c0 c1 c2 d0 d1 d2
    have HM13 := hidOf ((HM12.out.alloc _).keep hb13)
    have HX13 := hidOf ((HX12.out.alloc _).keep hb13)
    have HA13 := hidOf ((HA12.out.alloc _).keep hb13)
    have HG13 := hidOf ((HG12.out.alloc _).keep hb13)
    have HC13 := hidOf ((HC12.out.alloc _).keep hb13)
    have HD13 := hidOf ((HD12.out.alloc _).keep hb13)
    have HE13 := hidOf ((Box3.new w12 (.int .i64 k') (.int .i64 n') (.string s') 25).keep hb13)
    have HB13 := hidOf (bl_trans (bl_alloc HB12.out _) hb13)
    obtain ⟨_, c0, c1, c2, cf⟩ := id HC13.out
    obtain ⟨_, d0, d1, d2, df⟩ := id HD13.out
    obtain ⟨_, e0, e1, e2, ef⟩ := id HE13.out
    obtain ⟨_, x0, x1, x2, x3, xf⟩ := id HX13.out
    clear hb13 HB12 HM12 HX12 HA12 HG12 HC12 HD12 HM13 HX13 HA13 HG13 HC13 HD13 HE13
    cases qd
    · go_wp2
      go_ret
      exact ⟨rfl, HB13.out⟩
    · go_wp2
      go_ret
      exact ⟨rfl, HB13.out⟩
  · go_wp2_with fail
    refine (implMsgOk_any ra rb rc _ hrc).mono ?_
    rintro e w5 ⟨rfl, hb5⟩
    rw [ch_fine HR.out]
    clear m0 m1 m2 x0 x1 x2 x3 v0 v1 v2 nq
    have HM5 := hidOf ((HM4.out.alloc _).keep hb5)
    have HX5 := hidOf ((HX4.out.alloc _).keep hb5)
    have HB5 := hidOf (bl_trans (bl_alloc HB4.out _) hb5)
    clear hb5 HM4 HX4 HV4 HB4
    obtain ⟨_, m0, m1, m2, mf⟩ := id HM5.out
    obtain ⟨_, x0, x1, x2, x3, xf⟩ := id HX5.out
    go_wp2_with fail
    refine (specMsgOk_any k n s _ hs).mono ?_
    rintro e w6 ⟨rfl, hb6⟩
    have HM6 := hidOf (HM5.out.keep hb6)
    have HX6 := hidOf (HX5.out.keep hb6)
    have HB6 := hidOf (bl_trans HB5.out hb6)
    clear hb6 HM5 HX5 HB5 m0 m1 m2 x0 x1 x2 x3
    cases h0 : okB k n s
    · exfalso
      have h := HR.out
      rw [ch_bad (.inl h0)] at h
      simp [noCh] at h
    have HO0 := hidOf h0
    clear h0
    obtain ⟨_, x0, x1, x2, x3, xf⟩ := id HX6.out
    go_wp2_with fail
    refine (specMsgOk_any k' n' s' _ hs').mono ?_
    rintro e w7 ⟨rfl, hb7⟩
    have HM7 := hidOf (HM6.out.keep hb7)
    have HX7 := hidOf (HX6.out.keep hb7)
    have HB7 := hidOf (bl_trans HB6.out hb7)
    clear hb7 HM6 HX6 HB6 x0 x1 x2 x3 xf
    cases h1 : okB k' n' s'
    · exfalso
      have h := HR.out
      rw [ch_bad (.inr h1)] at h
      simp [noCh] at h
    obtain ⟨pa, pb, pc, h4, h4', hlt, hpc⟩ := ch_most HO0.out h1
    obtain ⟨⟨qa, qb, qc, qd⟩, h2⟩ : ∃ r, changedM k n s 2 k' n' s' = r := ⟨_, rfl⟩
    have h2' := (ch_add HO0.out h1).symm.trans h2
    have h5 := ch_put HO0.out h1
    have hpm : pc.size ≤ maxLen := by unfold maxLen; omega
    have H4 := hidOf h4
    have H4' := hidOf h4'
    have H2 := hidOf h2
    have H2' := hidOf h2'
    have H5 := hidOf h5
    have HLT := hidOf hlt
    clear h1 HO0 h4 h4' h2 h2' h5 hlt hpc HR
    obtain ⟨_, m0, m1, m2, mf⟩ := id HM7.out
    obtain ⟨_, x0, x1, x2, x3, xf⟩ := id HX7.out
    go_wp2_with fail
    refine (implCh H4.out _ hs hs' (by decide)).mono ?_
    rintro e w8 ⟨rfl, hb8⟩
    clear m0 m1 m2 mf x0 x1 x2 x3 xf
    have HM8 := hidOf (HM7.out.keep hb8)
    have HX8 := hidOf (HX7.out.keep hb8)
    have HB8 := hidOf (bl_trans HB7.out hb8)
    clear hb8 HM7 HX7 HB7
    have m0 := fun o => (HM8.out.alloc o).c0
    have m1 := fun o => (HM8.out.alloc o).c1
    have m2 := fun o => (HM8.out.alloc o).c2
    have x0 := fun o => (HX8.out.alloc o).c0
    have x1 := fun o => (HX8.out.alloc o).c1
    have x2 := fun o => (HX8.out.alloc o).c2
    have x3 := fun o => (HX8.out.alloc o).c3
    go_wp2_with fail
    refine (implCh H4'.out _ hs' hs (by decide)).mono ?_
    rintro e w9 ⟨rfl, hb9⟩
    clear m0 m1 m2 x0 x1 x2 x3
    have HM9 := hidOf ((HM8.out.alloc _).keep hb9)
    have HX9 := hidOf ((HX8.out.alloc _).keep hb9)
    have HA9 := hidOf ((Box3.new w8 (.int .i64 pa) (.int .i64 pb) (.string pc) 25).keep hb9)
    have HB9 := hidOf (bl_trans (bl_alloc HB8.out _) hb9)
    clear hb9 HB8 HM8 HX8
    have m0 := fun o => (HM9.out.alloc o).c0
    have m1 := fun o => (HM9.out.alloc o).c1
    have m2 := fun o => (HM9.out.alloc o).c2
    have x0 := fun o => (HX9.out.alloc o).c0
    have x1 := fun o => (HX9.out.alloc o).c1
    have x2 := fun o => (HX9.out.alloc o).c2
    have x3 := fun o => (HX9.out.alloc o).c3
    have a0 := fun o => (HA9.out.alloc o).c0
    have a1 := fun o => (HA9.out.alloc o).c1
    have a2 := fun o => (HA9.out.alloc o).c2
    go_wp2_with fail
    refine (implCh H2.out _ hs hs' (by decide)).mono ?_
    rintro e w10 ⟨rfl, hb10⟩
    clear m0 m1 m2 x0 x1 x2 x3 a0 a1 a2
    have HM10 := hidOf ((HM9.out.alloc _).keep hb10)
    have HX10 := hidOf ((HX9.out.alloc _).keep hb10)
    have HA10 := hidOf ((HA9.out.alloc _).keep hb10)
    have HG10 := hidOf ((Box3.new w9 (.int .i64 pa) (.int .i64 pb) (.string pc) 25).keep hb10)
    have HB10 := hidOf (bl_trans (bl_alloc HB9.out _) hb10)
    clear hb10 HB9 HM9 HX9 HA9
    have m0 := fun o => (HM10.out.alloc o).c0
    have m1 := fun o => (HM10.out.alloc o).c1
    have m2 := fun o => (HM10.out.alloc o).c2
    have x0 := fun o => (HX10.out.alloc o).c0
    have x1 := fun o => (HX10.out.alloc o).c1
    have x2 := fun o => (HX10.out.alloc o).c2
    have x3 := fun o => (HX10.out.alloc o).c3
    have a0 := fun o => (HA10.out.alloc o).c0
    have a1 := fun o => (HA10.out.alloc o).c1
    have a2 := fun o => (HA10.out.alloc o).c2
    have g0 := fun o => (HG10.out.alloc o).c0
    have g1 := fun o => (HG10.out.alloc o).c1
    have g2 := fun o => (HG10.out.alloc o).c2
    go_wp2_with fail
    refine (implCh H2'.out _ hs' hs (by decide)).mono ?_
    rintro e w11 ⟨rfl, hb11⟩
    clear m0 m1 m2 x0 x1 x2 x3 a0 a1 a2 g0 g1 g2
    have HM11 := hidOf ((HM10.out.alloc _).keep hb11)
    have HX11 := hidOf ((HX10.out.alloc _).keep hb11)
    have HA11 := hidOf ((HA10.out.alloc _).keep hb11)
    have HG11 := hidOf ((HG10.out.alloc _).keep hb11)
    have HC11 := hidOf ((Box3.new w10 (.int .i64 qa) (.int .i64 qb) (.string qc) 25).keep hb11)
    have HB11 := hidOf (bl_trans (bl_alloc HB10.out _) hb11)
    clear hb11 HB10 HM10 HX10 HA10 HG10
    have m0 := fun o => (HM11.out.alloc o).c0
    have m1 := fun o => (HM11.out.alloc o).c1
    have m2 := fun o => (HM11.out.alloc o).c2
    have x0 := fun o => (HX11.out.alloc o).c0
    have x1 := fun o => (HX11.out.alloc o).c1
    have x2 := fun o => (HX11.out.alloc o).c2
    have x3 := fun o => (HX11.out.alloc o).c3
    have a0 := fun o => (HA11.out.alloc o).c0
    have a1 := fun o => (HA11.out.alloc o).c1
    have a2 := fun o => (HA11.out.alloc o).c2
    have g0 := fun o => (HG11.out.alloc o).c0
    have g1 := fun o => (HG11.out.alloc o).c1
    have g2 := fun o => (HG11.out.alloc o).c2
    have c0 := fun o => (HC11.out.alloc o).c0
    have c1 := fun o => (HC11.out.alloc o).c1
    have c2 := fun o => (HC11.out.alloc o).c2
    go_wp2_with fail
    refine (implCh H5.out _ hs hs' (by decide)).mono ?_
    rintro e w12 ⟨rfl, hb12⟩
    clear m0 m1 m2 x0 x1 x2 x3 a0 a1 a2 g0 g1 g2 c0 c1 c2
    have HM12 := hidOf ((HM11.out.alloc _).keep hb12)
    have HX12 := hidOf ((HX11.out.alloc _).keep hb12)
    have HA12 := hidOf ((HA11.out.alloc _).keep hb12)
    have HG12 := hidOf ((HG11.out.alloc _).keep hb12)
    have HC12 := hidOf ((HC11.out.alloc _).keep hb12)
    have HD12 := hidOf ((Box3.new w11 (.int .i64 qa) (.int .i64 qb) (.string qc) 25).keep hb12)
    have HB12 := hidOf (bl_trans (bl_alloc HB11.out _) hb12)
    clear hb12 HB11 HM11 HX11 HA11 HG11 HC11
    have m0 := fun o => (HM12.out.alloc o).c0
    have m1 := fun o => (HM12.out.alloc o).c1
    have m2 := fun o => (HM12.out.alloc o).c2
    have x0 := fun o => (HX12.out.alloc o).c0
    have x1 := fun o => (HX12.out.alloc o).c1
    have x2 := fun o => (HX12.out.alloc o).c2
    have x3 := fun o => (HX12.out.alloc o).c3
    have a0 := fun o => (HA12.out.alloc o).c0
    have a1 := fun o => (HA12.out.alloc o).c1
    have a2 := fun o => (HA12.out.alloc o).c2
    have g0 := fun o => (HG12.out.alloc o).c0
    have g1 := fun o => (HG12.out.alloc o).c1
    have g2 := fun o => (HG12.out.alloc o).c2
    have c0 := fun o => (HC12.out.alloc o).c0
    have c1 := fun o => (HC12.out.alloc o).c1
    have c2 := fun o => (HC12.out.alloc o).c2
    have d0 := fun o => (HD12.out.alloc o).c0
    have d1 := fun o => (HD12.out.alloc o).c1
    have d2 := fun o => (HD12.out.alloc o).c2
    have eq1 := eqlM_self pa pb pc
    have eq2 := eqlM_self qa qb qc
    have eq3 := eqlM_self k' n' s'
    go_wp2_with fail
    refine (specLess_any pa pb pc k n s _ hpm hs).mono ?_
    rintro e w13 ⟨rfl, hb13⟩
    rw [HLT.out]
    clear m0 m1 m2 x0 x1 x2 x3 a0 a1 a2 g0 g1 g2 c0 c1 c2 d0 d1 d2
    have HM13 := hidOf ((HM12.out.alloc _).keep hb13)
    have HX13 := hidOf ((HX12.out.alloc _).keep hb13)
    have HA13 := hidOf ((HA12.out.alloc _).keep hb13)
    have HG13 := hidOf ((HG12.out.alloc _).keep hb13)
    have HC13 := hidOf ((HC12.out.alloc _).keep hb13)
    have HD13 := hidOf ((HD12.out.alloc _).keep hb13)
    have HE13 := hidOf ((Box3.new w12 (.int .i64 k') (.int .i64 n') (.string s') 25).keep hb13)
    have HB13 := hidOf (bl_trans (bl_alloc HB12.out _) hb13)
    obtain ⟨_, c0, c1, c2, cf⟩ := id HC13.out
    obtain ⟨_, d0, d1, d2, df⟩ := id HD13.out
    obtain ⟨_, e0, e1, e2, ef⟩ := id HE13.out
    obtain ⟨_, x0, x1, x2, x3, xf⟩ := id HX13.out
    clear hb13 HB12 HM12 HX12 HA12 HG12 HC12 HD12 HM13 HX13 HA13 HG13 HC13 HD13 HE13
    cases qd
    · go_wp2
      go_ret
      exact ⟨rfl, HB13.out⟩
    · go_wp2
      go_ret
      exact ⟨rfl, HB13.out⟩
theorem lawChanges_any (a : Option Addr) (len cap : Nat) (w : World) (hB : len ≤ 1048576 → Bytes w.heap.size w a len cap) :
    Calls Try.prog 3 #[.slice a len cap] w fun e w' => e = .returned (.bool true) ∧ Below w.heap.size w w' := by
  by_cases hl : len ≤ 1048576
  · exact changes_small a len cap w (hB hl) hl
  · exact changes_big a len cap w (by omega)
end Go.Proofs.Ytllpcbdecibloaa
