/-
  The program's Update.
-/
import Derived.Test.YtbbhaekmjnincaaBX4
import Derived.Test.YtbbhaekmjnincaaBC1
import Derived.Test.YtbbhaekmjnincaaBG
import Derived.Test.YtbbhaekmjnincaaCM11
import Derived.Test.YtbbhaekmjnincaaCC4
import Derived.Deep.RegionHeld3
import Derived.Deep.CutRange
namespace Go.Proofs.Ytbbhaekmjnincaa
open Go.RowKit Go.Maps Pl Il

theorem Pl.Box3.allC {N : Nat} {v0 v1 v2 : Value} {w : World} (h : Box3 N v0 v1 v2 w) (a b c : Value) : Box3 N a b c (((w.setCell ⟨N, 0, none⟩ a).setCell ⟨N, 1, none⟩ b).setCell ⟨N, 2, none⟩ c) := by
  have g0 : (w.setCell ⟨N, 0, none⟩ a).cell? ⟨N, 0, none⟩ = some a := World.cell?_setCell_same _ _ _ h.c0
  have g1 : (w.setCell ⟨N, 0, none⟩ a).cell? ⟨N, 1, none⟩ = some v1 := by rw [World.cell?_setCell_other _ _ _ _ (by simp)]; exact h.c1
  have g2 : (w.setCell ⟨N, 0, none⟩ a).cell? ⟨N, 2, none⟩ = some v2 := by rw [World.cell?_setCell_other _ _ _ _ (by simp)]; exact h.c2
  have f0 : ((w.setCell ⟨N, 0, none⟩ a).setCell ⟨N, 1, none⟩ b).cell? ⟨N, 0, none⟩ = some a := by rw [World.cell?_setCell_other _ _ _ _ (by simp)]; exact g0
  have f1 : ((w.setCell ⟨N, 0, none⟩ a).setCell ⟨N, 1, none⟩ b).cell? ⟨N, 1, none⟩ = some b := World.cell?_setCell_same _ _ _ g1
  have f2 : ((w.setCell ⟨N, 0, none⟩ a).setCell ⟨N, 1, none⟩ b).cell? ⟨N, 2, none⟩ = some v2 := by rw [World.cell?_setCell_other _ _ _ _ (by simp)]; exact g2
  exact ⟨by simpa using h.lt, by rw [World.cell?_setCell_other _ _ _ _ (by simp)]; exact f0, by rw [World.cell?_setCell_other _ _ _ _ (by simp)]; exact f1, World.cell?_setCell_same _ _ _ f2, fun q => by simpa using h.fr q⟩
theorem CMem.setKd {B b : Nat} {A : Na} {x : Ct} {w : World} (h : CMem B b A x w) (v : Int) : CMem B b A { x with kd := v } (w.setCell ⟨b, 2, none⟩ (.int .i64 v)) := ⟨h.st.setc 2 (by omega) _, World.cell?_setCell_same _ _ _ h.kd, by rw [World.cell?_setCell_other _ _ _ _ (by simp)]; exact h.nu, by rw [World.cell?_setCell_other _ _ _ _ (by simp)]; exact h.tx, by rw [World.cell?_setCell_other _ _ _ _ (by simp)]; exact h.ve, by rw [World.cell?_setCell_other _ _ _ _ (by simp)]; exact h.cl⟩
theorem CMem.setNu {B b : Nat} {A : Na} {x : Ct} {w : World} (h : CMem B b A x w) (v : Int) : CMem B b A { x with nu := v } (w.setCell ⟨b, 3, none⟩ (.int .i64 v)) := ⟨h.st.setc 3 (by omega) _, by rw [World.cell?_setCell_other _ _ _ _ (by simp)]; exact h.kd, World.cell?_setCell_same _ _ _ h.nu, by rw [World.cell?_setCell_other _ _ _ _ (by simp)]; exact h.tx, by rw [World.cell?_setCell_other _ _ _ _ (by simp)]; exact h.ve, by rw [World.cell?_setCell_other _ _ _ _ (by simp)]; exact h.cl⟩
theorem CMem.setTx {B b : Nat} {A : Na} {x : Ct} {w : World} (h : CMem B b A x w) (v : ByteArray) : CMem B b A { x with tx := v } (w.setCell ⟨b, 4, none⟩ (.string v)) := ⟨h.st.setc 4 (by omega) _, by rw [World.cell?_setCell_other _ _ _ _ (by simp)]; exact h.kd, by rw [World.cell?_setCell_other _ _ _ _ (by simp)]; exact h.nu, World.cell?_setCell_same _ _ _ h.tx, by rw [World.cell?_setCell_other _ _ _ _ (by simp)]; exact h.ve, by rw [World.cell?_setCell_other _ _ _ _ (by simp)]; exact h.cl⟩
theorem CMem.setVe {B b : Nat} {A : Na} {x : Ct} {w : World} (h : CMem B b A x w) (v : Int) : CMem B b A { x with ve := v } (w.setCell ⟨b, 5, none⟩ (.int .i64 v)) := ⟨h.st.setc 5 (by omega) _, by rw [World.cell?_setCell_other _ _ _ _ (by simp)]; exact h.kd, by rw [World.cell?_setCell_other _ _ _ _ (by simp)]; exact h.nu, by rw [World.cell?_setCell_other _ _ _ _ (by simp)]; exact h.tx, World.cell?_setCell_same _ _ _ h.ve, by rw [World.cell?_setCell_other _ _ _ _ (by simp)]; exact h.cl⟩
theorem wakeAll {xs : List Int} (h : lineL xs = true) : wakeRest xs (xs.length : Int) = [] ∧ wakeOut xs (xs.length : Int) = xs := by
  have hn : wakeN xs (xs.length : Int) = xs.length := by rw [wakeN_in (by omega)]; simp
  obtain ⟨h1, h2⟩ := wake_good h (k := (xs.length : Int)) (by omega)
  rw [h1, h2, hn]
  simp
/-- Nothing more can be taken. -/
def fullB (A : Na) (x : Ct) : Bool := decide (x.ve = 1000000000) || !decide (A.n + A.n' ≤ 32)
set_option maxHeartbeats 1000000 in
theorem isFull_any (B b : Nat) (A : Na) (x : Ct) (w : World) (hM : CMem B b A x w) (hn : A.n ≤ 2097152) (hn' : A.n' ≤ 2097152) :
    Calls Try.prog 15 #[.pointer (some ⟨b, 0, none⟩)] w fun e w' => e = .returned (.bool (fullB A x)) ∧ Below w.heap.size w w' := by
  have c5 := hM.ve
  have HS := hidOf hM.st
  clear hM
  go_enter Try.func15, Try.ntmps15
  by_cases h : x.ve = 1000000000
  · have h' : (x.ve == 1000000000) = true := by simp [h]
    have HE := hidOf (show fullB A x = true by unfold fullB; simp [h])
    clear h
    go_wp2
    go_ret
    exact ⟨by rw [HE.out]; rfl, Below.refl _ _⟩
  · have h' : (x.ve == 1000000000) = false := by simp [h]
    have HE := hidOf (show fullB A x = !decide (A.n + A.n' ≤ 32) by unfold fullB; simp [h])
    clear h
    go_wp2_with fail
    refine (canLet_any B b A x.ln x.gs _ HS.out hn hn').mono ?_
    rintro e w1 ⟨rfl, hb1⟩
    go_wp2
    go_ret
    exact ⟨by rw [HE.out]; rfl, hb1⟩
/-- What Update holds on to while the change is made. -/
abbrev UpS (w : World) (A : Na) (x : Ct) (q : Int × Int × Int × ByteArray) (b : Nat) (A1 : Na) (w' : World) : Prop :=
  w'.cell? ⟨b, 2, none⟩ = some (.int .i64 x.kd) ∧ w'.cell? ⟨b, 3, none⟩ = some (.int .i64 x.nu) ∧ w'.cell? ⟨b, 4, none⟩ = some (.string x.tx) ∧ w'.cell? ⟨w.heap.size + 1, 0, none⟩ = some (.int .i64 q.1) ∧ w'.cell? ⟨w.heap.size + 1, 1, none⟩ = some (.int .i64 q.2.1) ∧ w'.cell? ⟨w.heap.size + 1, 2, none⟩ = some (.int .i64 q.2.2.1) ∧ w'.cell? ⟨w.heap.size + 1, 3, none⟩ = some (.string q.2.2.2) ∧ CMem (w.heap.size + 3) b A1 x w' ∧ DCtx w A x q w'
section
variable {w : World} {A : Na} {x : Ct} {q : Int × Int × Int × ByteArray} {b : Nat} {A1 : Na} {u u' : World}
theorem UpS.mk' (h1 : CMem (w.heap.size + 3) b A1 x u) (h2 : DCtx w A x q u) : UpS w A x q b A1 u := ⟨h1.kd, h1.nu, h1.tx, h2.chg.c0, h2.chg.c1, h2.chg.c2, h2.chg.c3, h1, h2⟩
theorem UpS.mem (h : UpS w A x q b A1 u) : CMem (w.heap.size + 3) b A1 x u := h.2.2.2.2.2.2.2.1
theorem UpS.ctx (h : UpS w A x q b A1 u) : DCtx w A x q u := h.2.2.2.2.2.2.2.2
theorem UpS.keep (h : UpS w A x q b A1 u) (hb : Below u.heap.size u u') : UpS w A x q b A1 u' := UpS.mk' (h.mem.keep hb) (h.ctx.kp hb)
theorem UpS.drew (h : UpS w A x q b A1 u) : UpS w A x q b A1 u.drew := h.keep (Below.refl _ _).drew
theorem CMem.far3 {B R : Nat} (h : CMem B b A1 x u) (hR : u.heap.size ≤ R) (y0 y1 y2 : Value) (hb : Below u.heap.size u u') : CMem B b A1 x (((u'.setCell ⟨R, 0, none⟩ y0).setCell ⟨R, 1, none⟩ y1).setCell ⟨R, 2, none⟩ y2) :=
  h.keep (bl_set1 (bl_set1 (bl_set1 hb R 0 hR y0) R 1 hR y1) R 2 hR y2)
end
set_option maxRecDepth 100000 in
set_option maxHeartbeats 4000000 in
theorem implUpdate_any (A : Na) (x : Ct) (q : Int × Int × Int × ByteArray) (w : World) (hI : CIn w A x) (hn : A.n ≤ 2097152) (hn' : A.n' ≤ 2097152) (hw : CWf x) (hqs : q.2.2.2.size ≤ maxLen) (hqk : (Lit.int .i64 q.1).wf = true) :
    Calls Try.prog 7 #[.agg #[.int .i64 x.kd, .int .i64 x.nu, .string x.tx, .int .i64 x.ve, .bool x.cl, .slice A.a A.n A.c, .slice A.a' A.n' A.c'], .agg #[.int .i64 q.1, .int .i64 q.2.1, .int .i64 q.2.2.1, .string q.2.2.2]] w fun e w' => COutT w (updateM x q.1 q.2.1 q.2.2.1 q.2.2.2).1 (updateM x q.1 q.2.1 q.2.2.1 q.2.2.2).2.1 (updateM x q.1 q.2.1 q.2.2.1 q.2.2.2).2.2 e w' := by
  obtain ⟨rk, rn, rs, rb, hm⟩ : ∃ (rk rn : Int) (rs : ByteArray) (rb : Bool), changedM x.kd x.nu x.tx q.1 q.2.1 q.2.2.1 q.2.2.2 = (rk, rn, rs, rb) := ⟨_, _, _, _, rfl⟩
  have htx := hI.tx
  have HCh := hidOf (fun u => (implChanged_any x.kd x.nu x.tx q.1 q.2.1 q.2.2.1 q.2.2.2 u htx hqs hqk).mono fun e w' (h : _ ∧ _) => (show e = .returned (.tuple #[.agg #[.int .i64 rk, .int .i64 rn, .string rs], .bool rb]) ∧ Below u.heap.size u w' from ⟨by have h1 := h.1; unfold ChP at h1; rw [hm] at h1; exact h1, h.2⟩))
  have HCM := hidOf hm
  clear hm hqs hqk
  have hC := dctx_new q hI
  have s1 : (((w.alloc (.cells #[.int .i64 x.kd, .int .i64 x.nu, .string x.tx, .int .i64 x.ve, .bool x.cl, .slice A.a A.n A.c, .slice A.a' A.n' A.c'] 29)).alloc (.cells #[.int .i64 q.1, .int .i64 q.2.1, .int .i64 q.2.2.1, .string q.2.2.2] 34)).alloc (.cells #[.int .i64 0, .int .i64 0, .string ⟨#[]⟩, .int .i64 0, .bool false, .slice none 0 0, .slice none 0 0] 29)).heap.size = w.heap.size + 3 := by simp
  have HL1 := hidOf hI.ints.len
  have HL2 := hidOf hI.grs.len
  have HCp := hidOf (cellBodyOf_any A x _ hC.ninX hn hn' hw)
  have HC := hidOf hC
  have S1 := hidOf s1
  clear hC s1 hI
  go_enter Try.func7, Try.ntmps7
  go_wp2_with fail
  refine (HCp.out).mono ?_
  rintro e w1 ⟨b, A1, rfl, hAn, hM, hb1⟩
  rw [S1.out] at hM
  have hC1 := HC.out.kp hb1
  have HM := hidOf hM
  have HAn := hidOf hAn
  clear HC HCp S1 hb1 hM hAn
  have HC := hidOf hC1
  clear hC1
  cases hokx : okC x
  · have HLa := hidOf (HM.out)
    have HR := hidOf (up_bad (kind := q.1) (k := q.2.1) (n := q.2.2.1) (s := q.2.2.2) hokx)
    clear hokx HM HAn HCh HCM
    go_wp2_with fail
    refine (cell_any (w.heap.size + 3) b A1 x _ HLa.out).mono ?_
    rintro e w9 ⟨rfl, hb9⟩
    have hC9 := HC.out.kp hb9
    have HF := hidOf (dst_fin (A' := A1) (y := x) hC9 (HLa.out.keep hb9).st.rows htx)
    obtain ⟨_, r0, r1, r2, r3, r4, r5, r6, rf⟩ := id hC9.box1
    clear HC HLa hb9 hC9
    go_wp2
    refine bodyPost_ret (v := .tuple #[.agg #[.int .i64 x.kd, .int .i64 x.nu, .string x.tx, .int .i64 x.ve, .bool x.cl, .slice A1.a A1.n A1.c, .slice A1.a' A1.n' A1.c'], .slice none 0 0, .int .i64 1]) (by simp [results, Try.results7, go_sem, r0, r1, r2, r3, r4, r5, r6]) rfl ?_
    rw [HR.out]
    exact ⟨A1, none, 0, 0, rfl, HF.out.1, HF.out.2.1, ⟨⟨rfl, .inl rfl⟩, .inl rfl⟩, .inl rfl, HF.out.2.2⟩
  have HBo := hidOf (okC_parts hokx)
  have HOK := hidOf hokx
  clear hokx
  obtain ⟨cb, hcb⟩ : ∃ cb : Bool, cb = x.cl := ⟨_, rfl⟩
  have c6 : w1.cell? ⟨b, 6, none⟩ = some (.bool cb) := by rw [hcb]; exact HM.out.cl
  have HQ := hidOf hcb
  clear hcb
  cases cb
  · have hH2 : UpS w A x q b A1 w1 := UpS.mk' HM.out HC.out
    clear HM HC
    go_upto_region 6 with fail
    go_cut [9, 10] from 12 (fun v9 v10 wx => ∃ R : Nat, v9 = .pointer (some ⟨R, 0, none⟩) ∧ v10 = .bool rb ∧ UpS w A x q b A1 wx ∧ Box3 R (.int .i64 rk) (.int .i64 rn) (.string rs) wx ∧ b < R)
    case first =>
      go_wp2_with fail
      refine wp_region_noPanic ?_
      refine wp_region_held_drew (S := fun w' => UpS w A x q b A1 w') (by kernel_rfl) hH2.drew (fun hHeld => ?_)
      refine wpAnyH_take (i := 0) (v := ?_) rfl (by kernel_rfl) (by kernel_rfl) (by kernel_rfl) (fun _ _ _ h => h) (Or.inl ⟨by rfl, ?_⟩) (by assumption) ?_
      case refine_2 => (intro w hSw; (try dsimp only at hSw); go_simp; try with_reducible rfl)
      simp only [Act.put, List.getElem_toArray, List.getElem_cons_zero, List.setIfInBounds_toArray, List.set_cons_zero, List.set_cons_succ]
      refine wpAnyH_take (i := 1) (v := ?_) rfl (by kernel_rfl) (by kernel_rfl) (by kernel_rfl) (fun _ _ _ h => h) (Or.inl ⟨by rfl, ?_⟩) (by assumption) ?_
      case refine_2 => (intro w hSw; (try dsimp only at hSw); go_simp; try with_reducible rfl)
      simp only [Act.put, zGA, zG0, zGC, zSA, zS0, zSC]
      refine wpAnyH_take (i := 2) (v := ?_) rfl (by kernel_rfl) (by kernel_rfl) (by kernel_rfl) (fun _ _ _ h => h) (Or.inl ⟨by rfl, ?_⟩) (by assumption) ?_
      case refine_2 => (intro w hSw; (try dsimp only at hSw); go_simp; try with_reducible rfl)
      simp only [Act.put, zGA, zG0, zGC, zSA, zS0, zSC]
      refine wpAnyH_take (i := 3) (v := ?_) rfl (by kernel_rfl) (by kernel_rfl) (by kernel_rfl) (fun _ _ _ h => h) (Or.inl ⟨by rfl, ?_⟩) (by assumption) ?_
      case refine_2 => (intro w hSw; (try dsimp only at hSw); go_simp; try with_reducible rfl)
      simp only [Act.put, zGA, zG0, zGC, zSA, zS0, zSC]
      refine wpAnyH_take (i := 4) (v := ?_) rfl (by kernel_rfl) (by kernel_rfl) (by kernel_rfl) (fun _ _ _ h => h) (Or.inl ⟨by rfl, ?_⟩) (by assumption) ?_
      case refine_2 => (intro w hSw; (try dsimp only at hSw); go_simp; try with_reducible rfl)
      simp only [Act.put, zGA, zG0, zGC, zSA, zS0, zSC]
      refine wpAnyH_ready (rs := [5, 9]) (by kernel_rfl) (by simp) ?_
      refine AllReadyH.cons rfl (fun K hK => ?_) (AllReadyH.cons rfl (fun K hK => ?_) AllReadyH.nil)
      · go_simp
        refine (HCh.out _).mono ?_
        rintro e w3 ⟨rfl, hb3⟩
        go_wp2_with fail
        have hS3 := UpS.keep hHeld hb3
        refine hK.out _ _ hS3 (fun hHeld => ?_)
        clear hK K
        refine wpAnyH_take (i := 6) (v := ?_) rfl (by kernel_rfl) (by kernel_rfl) (by kernel_rfl) (fun _ _ _ h => h) (Or.inl ⟨by rfl, ?_⟩) (by assumption) ?_
        case refine_2 => (intro w hSw; (try dsimp only at hSw); go_simp; try with_reducible rfl)
        simp only [Act.put, zGA, zG0, zGC, zSA, zS0, zSC]
        refine wpAnyH_take (i := 7) (v := ?_) rfl (by kernel_rfl) (by kernel_rfl) (by kernel_rfl) (fun _ _ _ h => h) (Or.inl ⟨by rfl, ?_⟩) (by assumption) ?_
        case refine_2 => (intro w hSw; (try dsimp only at hSw); go_simp; try with_reducible rfl)
        simp only [Act.put, zGA, zG0, zGC, zSA, zS0, zSC]
        refine wpAnyH_take (i := 8) (v := ?_) rfl (by kernel_rfl) (by kernel_rfl) (by kernel_rfl) (fun _ _ _ h => h) (Or.inl ⟨by rfl, ?_⟩) (by assumption) ?_
        case refine_2 => (intro w hSw; (try dsimp only at hSw); go_simp; try with_reducible rfl)
        simp only [Act.put, zGA, zG0, zGC, zSA, zS0, zSC]
        refine wpAnyH_ready (rs := [9]) (by kernel_rfl) (by simp) ?_
        refine AllReadyH.cons rfl (fun K hK => ?_) AllReadyH.nil
        go_simp
        refine hK.out _ _ (UpS.keep hS3 (bl_alloc (Below.refl _ _) _)) (fun hHeld => ?_)
        clear hK K
        refine wpAnyH_ready (rs := [10]) (by kernel_rfl) (by simp) ?_
        refine AllReadyH.cons rfl (fun K hK => ?_) AllReadyH.nil
        go_simp
        refine hK.out _ _ (UpS.keep hS3 (bl_alloc (Below.refl _ _) _)) (fun hHeld => ?_)
        clear hK K
        refine wpAnyH_take (i := 11) (v := ?_) rfl (by kernel_rfl) (by kernel_rfl) (by kernel_rfl) (fun _ _ _ h => h) (Or.inl ⟨by rfl, ?_⟩) (by assumption) ?_
        case refine_2 => (intro w hSw; (try dsimp only at hSw); go_simp; try with_reducible rfl)
        simp only [Act.put, zGA, zG0, zGC, zSA, zS0, zSC]
        refine wpAnyH_done (by kernel_rfl) ?_ _
        refine NoPanic.normal ?_
        go_wp2_with fail
        go_meet
        exact ⟨_, rfl, rfl, UpS.keep hS3 (bl_alloc (Below.refl _ _) _), Box3.new _ (.int .i64 rk) (.int .i64 rn) (.string rs) _, by have := hS3.mem.st.lt; omega⟩
      · go_simp
        have Z0 := (Box3.new w1 (.int .i64 0) (.int .i64 0) (.string ⟨#[]⟩) 25).keep (Below.refl _ _).drew
        have hb0 : Below w1.heap.size w1 (w1.alloc (.cells #[.int .i64 0, .int .i64 0, .string ⟨#[]⟩] 25)).drew := (bl_alloc (Below.refl _ _) _).drew
        refine hK.out _ _ (UpS.keep hH2 hb0) (fun hHeld => ?_)
        clear hK K
        refine wpAnyH_ready (rs := [5]) (by kernel_rfl) (by simp) ?_
        refine AllReadyH.cons rfl (fun K hK => ?_) AllReadyH.nil
        go_simp
        refine (HCh.out _).mono ?_
        rintro e w3 ⟨rfl, hb3⟩
        go_wp2_with fail
        have hS3 := UpS.keep hHeld hb3
        have Z3 := Z0.keep hb3
        have hbb := bl_trans hb0 hb3
        refine hK.out _ _ hS3 (fun hHeld => ?_)
        clear hK K
        refine wpAnyH_take (i := 6) (v := ?_) rfl (by kernel_rfl) (by kernel_rfl) (by kernel_rfl) (fun _ _ _ h => h) (Or.inl ⟨by rfl, ?_⟩) (by assumption) ?_
        case refine_2 => (intro w hSw; (try dsimp only at hSw); go_simp; try with_reducible rfl)
        simp only [Act.put, zGA, zG0, zGC, zSA, zS0, zSC]
        refine wpAnyH_take (i := 7) (v := ?_) rfl (by kernel_rfl) (by kernel_rfl) (by kernel_rfl) (fun _ _ _ h => h) (Or.inl ⟨by rfl, ?_⟩) (by assumption) ?_
        case refine_2 => (intro w hSw; (try dsimp only at hSw); go_simp; try with_reducible rfl)
        simp only [Act.put, zGA, zG0, zGC, zSA, zS0, zSC]
        refine wpAnyH_take (i := 8) (v := ?_) rfl (by kernel_rfl) (by kernel_rfl) (by kernel_rfl) (fun _ _ _ h => h) (Or.inl ⟨by rfl, ?_⟩) (by assumption) ?_
        case refine_2 => (intro w hSw; (try dsimp only at hSw); go_simp; try with_reducible rfl)
        simp only [Act.put, zGA, zG0, zGC, zSA, zS0, zSC]
        obtain ⟨kl, k0, k1, k2, kf⟩ := id Z3
        refine wpAnyH_ready (rs := [10]) (by kernel_rfl) (by simp) ?_
        refine AllReadyH.cons rfl (fun K hK => ?_) AllReadyH.nil
        go_simp
        have hS4 : UpS w A x q b A1 _ := UpS.keep hH2 (bl_set1 (bl_set1 (bl_set1 hbb _ 0 (Nat.le_refl _) (.int .i64 rk)) _ 1 (Nat.le_refl _) (.int .i64 rn)) _ 2 (Nat.le_refl _) (.string rs))
        refine hK.out _ _ hS4 (fun hHeld => ?_)
        clear hK K
        refine wpAnyH_take (i := 11) (v := ?_) rfl (by kernel_rfl) (by kernel_rfl) (by kernel_rfl) (fun _ _ _ h => h) (Or.inl ⟨by rfl, ?_⟩) (by assumption) ?_
        case refine_2 => (intro w hSw; (try dsimp only at hSw); go_simp; try with_reducible rfl)
        simp only [Act.put, zGA, zG0, zGC, zSA, zS0, zSC]
        refine wpAnyH_done (by kernel_rfl) ?_ _
        refine NoPanic.normal ?_
        go_wp2_with fail
        go_meet
        exact ⟨_, rfl, rfl, hS4, Z3.allC (.int .i64 rk) (.int .i64 rn) (.string rs), by have := hH2.mem.st.lt; omega⟩
    case rest =>
      obtain ⟨R, rfl, rfl, hH3, hR, hbR⟩ := hcut
      clear hH2 c6 HCh
      have HM := hidOf hH3.mem
      have HC := hidOf hH3.ctx
      have HRR := hidOf hR
      have HbR := hidOf hbR
      clear hH3 hR hbR
      cases rb
      · have HLa := hidOf (HM.out)
        have HR := hidOf (up_no HOK.out HQ.out.symm HCM.out)
        clear HM HAn HCM HOK HBo HQ HRR HbR
        go_wp2_with fail
        refine (cell_any (w.heap.size + 3) b A1 x _ HLa.out).mono ?_
        rintro e w9 ⟨rfl, hb9⟩
        have hC9 := HC.out.kp hb9
        have HF := hidOf (dst_fin (A' := A1) (y := x) hC9 (HLa.out.keep hb9).st.rows htx)
        obtain ⟨_, r0, r1, r2, r3, r4, r5, r6, rf⟩ := id hC9.box1
        clear HC HLa hb9 hC9
        go_wp2
        refine bodyPost_ret (v := .tuple #[.agg #[.int .i64 x.kd, .int .i64 x.nu, .string x.tx, .int .i64 x.ve, .bool x.cl, .slice A1.a A1.n A1.c, .slice A1.a' A1.n' A1.c'], .slice none 0 0, .int .i64 1]) (by simp [results, Try.results7, go_sem, r0, r1, r2, r3, r4, r5, r6]) rfl ?_
        rw [HR.out]
        exact ⟨A1, none, 0, 0, rfl, HF.out.1, HF.out.2.1, ⟨⟨rfl, .inl rfl⟩, .inl rfl⟩, .inl rfl, HF.out.2.2⟩
      have HB2 := hidOf (isFull_any (w.heap.size + 3) b A1 x _ HM.out (by rw [HAn.out.1]; exact hn) (by rw [HAn.out.2]; exact hn'))
      go_wp2_with fail
      refine HB2.out.mono ?_
      rintro e w4 ⟨rfl, hb4⟩
      have hM4 := HM.out.keep hb4
      have hC4 := HC.out.kp hb4
      have hR4 := HRR.out.keep hb4
      clear HM HC HRR hb4 HB2
      have HM := hidOf hM4
      have HC := hidOf hC4
      cases hfu : fullB A1 x
      · have hfu2 : ¬ (x.ve = 1000000000 ∨ 32 < x.ln.length + x.gs.length) := by
          have := HL1.out; have := HL2.out; have := HAn.out.1; have := HAn.out.2
          simp [fullB] at hfu
          omega
        have HR := hidOf (up_ok HOK.out HQ.out.symm HCM.out hfu2)
        have hrs : rs.size ≤ maxLen := by
          rcases ok_cases (ch_right HCM.out) with ⟨_, h, _⟩ | ⟨_, _, h⟩
          · rw [h]; decide
          · unfold maxLen; omega
        have hvb := HBo.out.2.1
        have hvr : wrap64 (x.ve + 1) = x.ve + 1 := by unfold wrap64; omega
        have hM5 := (((hM4.setKd rk).setNu rn).setTx rs).setVe (x.ve + 1)
        have hge := hM4.st.ge
        have hC5 := hC4.keep (B := w.heap.size + 3) (bl_set1 (bl_set1 (bl_set1 (bl_set1 (Below.refl _ _) b 2 hge (.int .i64 rk)) b 3 hge (.int .i64 rn)) b 4 hge (.string rs)) b 5 hge (.int .i64 (x.ve + 1))) (Nat.le_refl _)
        have ff := hM4.st.fr
        have c2 := hM4.kd
        have c3 := hM4.nu
        have c4 := hM4.tx
        have c5 := hM4.ve
        obtain ⟨_, k0, k1, k2, _⟩ := id hR4
        have HMd := hidOf (hM5.keep (Below.refl _ _).drew)
        have HCd := hidOf (hC5.kp (Below.refl _ _).drew)
        have d0 := hM5.st.c0
        have HLG := hidOf (letGo_any (w.heap.size + 3) b A1 x.ln x.gs (A1.n : Int) _ HMd.out.st (by rw [HAn.out.1]; exact hn) (by rw [HAn.out.2]; exact hn') hw.ln HBo.out.2.2.1 (by omega))
        clear hfu2 HCM HOK HQ hM4 hC4 hR4 HM HC hM5 hC5 hvb hge HbR
        go_wp2_with fail
        first | (go_region_with (first | (go_at_call 16; refine (HLG.out).mono ?_; rintro e w5 ⟨A5, a5, m5, cc5, rfl, hS5, hO5, hF5, hT5⟩))) | fail
        have hln : (A1.n : Int) = (x.ln.length : Int) := by rw [HAn.out.1, HL1.out]
        rw [hln, (wakeAll HBo.out.2.2.1).1, (wakeAll HBo.out.2.2.1).2] at hS5
        rw [hln, (wakeAll HBo.out.2.2.1).2] at hO5
        have hM5 := HMd.out.to hS5 hT5
        have HC := hidOf (HCd.out.keep hT5.below (Nat.le_refl _))
        have HLa := hidOf hM5
        have HO5 := hidOf hO5
        have HF5 := hidOf hF5
        clear hS5 hO5 hF5 hT5 hM5 hln HMd HCd HLG d0 ff c2 c3 c4 c5 k0 k1 k2 hfu
        go_wp2_with fail
        refine (cell_any (w.heap.size + 3) b A5 { x with kd := rk, nu := rn, tx := rs, ve := x.ve + 1, ln := [], gs := x.gs ++ x.ln } _ HLa.out).mono ?_
        rintro e w9 ⟨rfl, hb9⟩
        have hC9 := HC.out.kp hb9
        have HF := hidOf (dst_finT (A' := A5) (y := { x with kd := rk, nu := rn, tx := rs, ve := x.ve + 1, ln := [], gs := x.gs ++ x.ln }) hC9 (HLa.out.keep hb9).st.rows hrs (HO5.out.keep hb9))
        obtain ⟨_, r0, r1, r2, r3, r4, r5, r6, rf⟩ := id hC9.box1
        clear HC HLa hb9 hC9 HO5
        go_wp2
        refine bodyPost_ret (v := .tuple #[.agg #[.int .i64 rk, .int .i64 rn, .string rs, .int .i64 (x.ve + 1), .bool x.cl, .slice A5.a A5.n A5.c, .slice A5.a' A5.n' A5.c'], .slice a5 m5 cc5, .int .i64 0]) (by simp [results, Try.results7, go_sem, r0, r1, r2, r3, r4, r5, r6]) rfl ?_
        rw [HR.out]
        exact ⟨A5, a5, m5, cc5, rfl, HF.out.1, HF.out.2.1, HF.out.2.2.1, HF5.out.1, HF.out.2.2.2⟩
      · have HLa := hidOf (HM.out)
        have hfu2 : x.ve = 1000000000 ∨ 32 < x.ln.length + x.gs.length := by
          have := HL1.out; have := HL2.out; have := HAn.out.1; have := HAn.out.2
          simp [fullB] at hfu
          omega
        have HR := hidOf (up_full HOK.out HQ.out.symm HCM.out hfu2)
        clear HM HAn HCM HOK HBo HQ HbR hM4 hC4 hR4 hfu hfu2
        go_wp2_with fail
        refine (cell_any (w.heap.size + 3) b A1 x _ HLa.out).mono ?_
        rintro e w9 ⟨rfl, hb9⟩
        have hC9 := HC.out.kp hb9
        have HF := hidOf (dst_fin (A' := A1) (y := x) hC9 (HLa.out.keep hb9).st.rows htx)
        obtain ⟨_, r0, r1, r2, r3, r4, r5, r6, rf⟩ := id hC9.box1
        clear HC HLa hb9 hC9
        go_wp2
        refine bodyPost_ret (v := .tuple #[.agg #[.int .i64 x.kd, .int .i64 x.nu, .string x.tx, .int .i64 x.ve, .bool x.cl, .slice A1.a A1.n A1.c, .slice A1.a' A1.n' A1.c'], .slice none 0 0, .int .i64 2]) (by simp [results, Try.results7, go_sem, r0, r1, r2, r3, r4, r5, r6]) rfl ?_
        rw [HR.out]
        exact ⟨A1, none, 0, 0, rfl, HF.out.1, HF.out.2.1, ⟨⟨rfl, .inl rfl⟩, .inl rfl⟩, .inl rfl, HF.out.2.2⟩
  · have HLa := hidOf (HM.out)
    have HR := hidOf (up_over (kind := q.1) (k := q.2.1) (n := q.2.2.1) (s := q.2.2.2) HOK.out HQ.out.symm)
    clear HM HAn HCh HCM HOK HBo HQ
    go_wp2_with fail
    refine (cell_any (w.heap.size + 3) b A1 x _ HLa.out).mono ?_
    rintro e w9 ⟨rfl, hb9⟩
    have hC9 := HC.out.kp hb9
    have HF := hidOf (dst_fin (A' := A1) (y := x) hC9 (HLa.out.keep hb9).st.rows htx)
    obtain ⟨_, r0, r1, r2, r3, r4, r5, r6, rf⟩ := id hC9.box1
    clear HC HLa hb9 hC9
    go_wp2
    refine bodyPost_ret (v := .tuple #[.agg #[.int .i64 x.kd, .int .i64 x.nu, .string x.tx, .int .i64 x.ve, .bool x.cl, .slice A1.a A1.n A1.c, .slice A1.a' A1.n' A1.c'], .slice none 0 0, .int .i64 6]) (by simp [results, Try.results7, go_sem, r0, r1, r2, r3, r4, r5, r6]) rfl ?_
    rw [HR.out]
    exact ⟨A1, none, 0, 0, rfl, HF.out.1, HF.out.2.1, ⟨⟨rfl, .inl rfl⟩, .inl rfl⟩, .inl rfl, HF.out.2.2⟩
end Go.Proofs.Ytbbhaekmjnincaa
