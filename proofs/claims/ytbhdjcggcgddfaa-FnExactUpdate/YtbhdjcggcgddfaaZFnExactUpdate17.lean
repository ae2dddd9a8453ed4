/-
  Walk of the law on Update, out of the contracts of the specification's and the program's.
-/
import Derived.Test.YtbhdjcggcgddfaaZFnExactUpdate16
import Derived.Deep.RegionHeld3
namespace Go.Proofs.Ytbhdjcggcgddfaa
open Go.RowKit Pl Il

/-- What is asked of the specification's, and of the program's. -/
def SpecUpdate (f : Ct → Int × Int × Int × ByteArray → Ct × List Int × Int) : Prop := ∀ (A : Na) (x : Ct) (y : Int × Int × Int × ByteArray) (w : World), CIn w A x → A.n ≤ 2097152 → A.n' ≤ 2097152 → A.ok → y.2.2.2.size ≤ maxLen →
  Calls Try.prog 72 #[.agg #[.int .i64 x.kd, .int .i64 x.nu, .string x.tx, .int .i64 x.ve, .bool x.cl, .slice A.a A.n A.c, .slice A.a' A.n' A.c'], .agg #[.int .i64 y.1, .int .i64 y.2.1, .int .i64 y.2.2.1, .string y.2.2.2]] w fun e w' => COutT w (f x y).1 (f x y).2.1 (f x y).2.2 e w'
def ImplUpdate (f : Ct → Int × Int × Int × ByteArray → Ct × List Int × Int) : Prop := ∀ (A : Na) (x : Ct) (y : Int × Int × Int × ByteArray) (w : World), CIn w A x → A.n ≤ 2097152 → A.n' ≤ 2097152 → CWf x → y.2.2.2.size ≤ maxLen → (Lit.int .i64 y.1).wf = true →
  Calls Try.prog 43 #[.agg #[.int .i64 x.kd, .int .i64 x.nu, .string x.tx, .int .i64 x.ve, .bool x.cl, .slice A.a A.n A.c, .slice A.a' A.n' A.c'], .agg #[.int .i64 y.1, .int .i64 y.2.1, .int .i64 y.2.2.1, .string y.2.2.2]] w fun e w' => COutT w (f x y).1 (f x y).2.1 (f x y).2.2 e w'
set_option maxRecDepth 100000 in
set_option maxHeartbeats 4000000 in
theorem exactUpdate_of (f : Ct → Int × Int × Int × ByteArray → Ct × List Int × Int) (hSp : SpecUpdate f) (hI : ImplUpdate f) (hlen : ∀ x y, (f x y).1.ln.length ≤ x.ln.length + x.gs.length + 1 ∧ (f x y).1.gs.length ≤ x.ln.length + x.gs.length + 1 ∧ (f x y).2.1.length ≤ x.ln.length + 1) (A : Na) (x : Ct) (y : Int × Int × Int × ByteArray) (w : World) (hn : A.n ≤ 9223372036854775807) (hn' : A.n' ≤ 9223372036854775807) (hT : CIn w A x) (hw : CWf x) (hys : y.2.2.2.size ≤ maxLen) (hx : (Lit.int .i64 y.1).wf = true) :
    Calls Try.prog 15 #[.agg #[.int .i64 x.kd, .int .i64 x.nu, .string x.tx, .int .i64 x.ve, .bool x.cl, .slice A.a A.n A.c, .slice A.a' A.n' A.c'], .agg #[.int .i64 y.1, .int .i64 y.2.1, .int .i64 y.2.2.1, .string y.2.2.2]] w fun e w' => e = .returned (.bool true) ∧ Below w.heap.size w w' := by
  generalize hW00 : w.alloc (.cells #[.int .i64 x.kd, .int .i64 x.nu, .string x.tx, .int .i64 x.ve, .bool x.cl, .slice A.a A.n A.c, .slice A.a' A.n' A.c'] 91) = W00
  generalize hW0 : W00.alloc (.cells #[.int .i64 y.1, .int .i64 y.2.1, .int .i64 y.2.2.1, .string y.2.2.2] 93) = W0
  have z00 : W00.heap.size = w.heap.size + 1 := by subst hW00; simp
  have B0 : Below w.heap.size w W0 := by subst hW0 hW00; exact bl_alloc (bl_alloc (Below.refl _ _) _) _
  have x0 : CBox w.heap.size A x W0 := by subst hW0 hW00; exact (CBox.new w A x _).alloc _
  have cq0 : Box4 (w.heap.size + 1) (.int .i64 y.1) (.int .i64 y.2.1) (.int .i64 y.2.2.1) (.string y.2.2.2) W0 := by subst hW0; rw [← z00]; exact Box4.new W00 _ _ _ _ _
  have HUl := hidOf (hlen x y)
  have HLp := hidOf hT.ints.len
  have HLq := hidOf hT.grs.len
  have HT := hidOf hT
  have HTw := hidOf hT
  obtain ⟨_, p0, p1, p2, p3, p4, p5, p6, _⟩ := id x0
  clear hT hlen
  go_enter Try.func15, Try.ntmps15
  go_wp2_with fail
  refine (szCell_any A x _ hn hn' HT.out.tx).mono ?_
  rintro e w1 ⟨⟨k, rfl, hk⟩, hb1⟩
  have x1 := x0.keep hb1
  have cq1 := cq0.keep hb1
  have B1 := bl_trans B0 hb1
  clear p0 p1 p2 p3 p4 p5 p6
  obtain ⟨_, q0, q1, q2, q3, q4, q5, q6, _⟩ := id x1
  clear x0 hb1 B0 hW0 hW00 z00 cq0
  rcases hk with hk | ⟨hk, hkle, hnn⟩
  · go_wp2
    go_ret
    exact ⟨rfl, B1⟩
  · have hk' : ¬ k < 0 := by omega
    have hm2 := mark_nn5 A.n A.n'
    clear hk
    obtain ⟨_, d0, d1, d2, d3, _⟩ := id cq1
    go_wp2_with fail
    refine (szChange_any y.1 y.2.1 y.2.2.1 k y.2.2.2 _ hys (by omega) hkle).mono ?_
    rintro e w2 ⟨⟨i, rfl⟩, hb2⟩
    have x2 := x1.keep hb2
    have cq2 := cq1.keep hb2
    have B2 := bl_trans B1 hb2
    clear x1 cq1 q0 q1 q2 q3 q4 q5 q6 d0 d1 d2 d3 hb2 B1 hk' hkle
    by_cases hi0 : i < 0
    · go_wp2
      go_ret
      exact ⟨rfl, B2⟩
    have hH2 : LawU w A x y w.heap.size A w2 := LawU.mk' x2 cq2 x2 B2
    go_upto_region 8 with fail
    go_cut [6, 7, 8] from 19 (fun va vb vc wx => ∃ (R : Nat) (Aw : Na) (al : Option Addr) (ml cl : Nat), va = .pointer (some ⟨R, 0, none⟩) ∧ vb = .slice al ml cl ∧ vc = .int .i64 (f x y).2.2 ∧ UpR w2 (f x y).1 (f x y).2.1 R Aw al ml wx)
    case first =>
      go_wp2_with fail
      refine wp_region_noPanic ?_
      refine wp_region_held_drew (S := fun w' => LawU w A x y w.heap.size A w') (by kernel_rfl) hH2.drew (fun hHeld => ?_)
      refine wpAnyH_take (i := 0) (v := ?_) rfl (by kernel_rfl) (by kernel_rfl) (by kernel_rfl) (fun _ _ _ h => h) (Or.inl ⟨by rfl, ?_⟩) (by assumption) ?_
      case refine_2 => (intro w hSw; (try dsimp only at hSw); go_simp; try with_reducible rfl)
      simp only [Act.put, List.getElem_toArray, List.getElem_cons_zero, List.setIfInBounds_toArray, List.set_cons_zero, List.set_cons_succ]
      refine wpAnyH_take (i := 2) (v := ?_) rfl (by kernel_rfl) (by kernel_rfl) (by kernel_rfl) (fun _ _ _ h => h) (Or.inl ⟨by rfl, ?_⟩) (by assumption) ?_
      case refine_2 => (intro w hSw; (try dsimp only at hSw); go_simp; try with_reducible rfl)
      simp only [Act.put, List.getElem_toArray, List.getElem_cons_zero, List.getElem_cons_succ, List.setIfInBounds_toArray, List.set_cons_zero, List.set_cons_succ]
      refine wpAnyH_ready (rs := [1, 9]) (by kernel_rfl) (by simp) ?_
      refine AllReadyH.cons rfl (fun K hK => ?_) (AllReadyH.cons rfl (fun K hK => ?_) AllReadyH.nil)
      · have hu0 : Below w2.heap.size w2 w2.drew := (Below.refl _ _).drew
        go_simp
        refine (toCell_any A x _ (HT.out.keep hHeld.bel) (by omega) (by omega)).mono ?_
        rintro e v1 ⟨gc, gc', rfl, hoc, hv1⟩
        go_wp2_with fail
        have hu1 := bl_trans hu0 hv1
        have hS1 := LawU.keep hHeld hv1
        refine hK.out _ _ hS1 (fun hHeld => ?_)
        clear hK K
        refine wpAnyH_ready (rs := [3, 9]) (by kernel_rfl) (by simp) ?_
        refine AllReadyH.cons rfl (fun K hK => ?_) (AllReadyH.cons rfl (fun K hK => ?_) AllReadyH.nil)
        · go_simp
          refine (toChange_any y.1 y.2.1 y.2.2.1 y.2.2.2 _).mono ?_
          rintro e v2 ⟨rfl, hv2⟩
          go_wp2_with fail
          have hoc := hoc.keep hv2
          have hu2 := bl_trans hu1 hv2
          have hS2 := LawU.keep hHeld hv2
          refine hK.out _ _ hS2 (fun hHeld => ?_)
          clear hK K
          refine wpAnyH_ready (rs := [4, 9]) (by kernel_rfl) (by simp) ?_
          refine AllReadyH.cons rfl (fun K hK => ?_) (AllReadyH.cons rfl (fun K hK => ?_) AllReadyH.nil)
          · go_simp
            refine (hSp ⟨some ⟨gc, 0, none⟩, A.n, A.n, some ⟨gc', 0, none⟩, A.n', A.n'⟩ x y _ hoc.nin (by simp only; omega) (by simp only; omega) ⟨Nat.le_refl _, Nat.le_refl _⟩ hys).mono ?_
            rintro e v3 ⟨Aw, al, ml, cl, rfl, how, _, hol, hap, hbl⟩
            go_wp2_with fail
            have hbc := hu2
            have hSl := LawU.keep hHeld hbl
            refine hK.out _ _ hSl (fun hHeld => ?_)
            clear hK K
            refine wpAnyH_take (i := 5) (v := ?_) rfl (by kernel_rfl) (by kernel_rfl) (by kernel_rfl) (fun _ _ _ h => h) (Or.inl ⟨by rfl, ?_⟩) (by assumption) ?_
            case refine_2 => (intro w hSw; (try dsimp only at hSw); go_simp; try with_reducible rfl)
            simp only [Act.put, List.getElem_toArray, List.getElem_cons_zero, List.getElem_cons_succ, List.setIfInBounds_toArray, List.set_cons_zero, List.set_cons_succ]
            refine wpAnyH_take (i := 6) (v := ?_) rfl (by kernel_rfl) (by kernel_rfl) (by kernel_rfl) (fun _ _ _ h => h) (Or.inl ⟨by rfl, ?_⟩) (by assumption) ?_
            case refine_2 => (intro w hSw; (try dsimp only at hSw); go_simp; try with_reducible rfl)
            simp only [Act.put, List.getElem_toArray, List.getElem_cons_zero, List.getElem_cons_succ, List.setIfInBounds_toArray, List.set_cons_zero, List.set_cons_succ]
            refine wpAnyH_take (i := 7) (v := ?_) rfl (by kernel_rfl) (by kernel_rfl) (by kernel_rfl) (fun _ _ _ h => h) (Or.inl ⟨by rfl, ?_⟩) (by assumption) ?_
            case refine_2 => (intro w hSw; (try dsimp only at hSw); go_simp; try with_reducible rfl)
            simp only [Act.put, List.getElem_toArray, List.getElem_cons_zero, List.getElem_cons_succ, List.setIfInBounds_toArray, List.set_cons_zero, List.set_cons_succ]
            refine wpAnyH_take (i := 8) (v := ?_) rfl (by kernel_rfl) (by kernel_rfl) (by kernel_rfl) (fun _ _ _ h => h) (Or.inl ⟨by rfl, ?_⟩) (by assumption) ?_
            case refine_2 => (intro w hSw; (try dsimp only at hSw); go_simp; try with_reducible rfl)
            simp only [Act.put, List.getElem_toArray, List.getElem_cons_zero, List.getElem_cons_succ, List.setIfInBounds_toArray, List.set_cons_zero, List.set_cons_succ]
            refine wpAnyH_ready (rs := [9]) (by kernel_rfl) (by simp) ?_
            refine AllReadyH.cons rfl (fun K hK => ?_) AllReadyH.nil
            go_simp
            refine hK.out _ _ (LawU.keep hSl (bl_alloc (Below.refl _ _) _)) (fun hHeld => ?_)
            clear hK K
            refine wpAnyH_ready (rs := [10]) (by kernel_rfl) (by simp) ?_
            refine AllReadyH.cons rfl (fun K hK => ?_) AllReadyH.nil
            go_simp
            refine hK.out _ _ (LawU.keep hSl (bl_alloc (Below.refl _ _) _)) (fun hHeld => ?_)
            clear hK K
            refine wpAnyH_take (i := 11) (v := ?_) rfl (by kernel_rfl) (by kernel_rfl) (by kernel_rfl) (fun _ _ _ h => h) (Or.inl ⟨by rfl, ?_⟩) (by assumption) ?_
            case refine_2 => (intro w hSw; (try dsimp only at hSw); go_simp; try with_reducible rfl)
            simp only [Act.put, List.getElem_toArray, List.getElem_cons_zero, List.getElem_cons_succ, List.setIfInBounds_toArray, List.set_cons_zero, List.set_cons_succ]
            refine wpAnyH_take (i := 12) (v := ?_) rfl (by kernel_rfl) (by kernel_rfl) (by kernel_rfl) (fun _ _ _ h => h) (Or.inl ⟨by rfl, ?_⟩) (by assumption) ?_
            case refine_2 => (intro w hSw; (try dsimp only at hSw); go_simp; try with_reducible rfl)
            simp only [Act.put, List.getElem_toArray, List.getElem_cons_zero, List.getElem_cons_succ, List.setIfInBounds_toArray, List.set_cons_zero, List.set_cons_succ]
            refine wpAnyH_done (by kernel_rfl) ?_ _
            refine NoPanic.normal ?_
            go_wp2_with fail
            go_meet
            exact ⟨_, _, _, _, _, rfl, rfl, rfl, UpR.last hbc how hol hap hbl _⟩
          · go_simp
            have ba : Below v2.heap.size v2 (v2.alloc (.cells #[.int .i64 0, .int .i64 0, .string ⟨#[]⟩, .int .i64 0, .bool false, .slice none 0 0, .slice none 0 0] 58)) := bl_alloc (Below.refl _ _) _
            have Z2 := CBox.newZ v2 58
            have hRu : w2.heap.size ≤ v2.heap.size := hu2.size
            refine hK.out _ _ (LawU.keep hS2 ba) (fun hHeld => ?_)
            clear hK K
            have hu2 := bl_trans hu2 ba
            have hoc := hoc.keep ba
            refine wpAnyH_ready (rs := [4]) (by kernel_rfl) (by simp) ?_
            refine AllReadyH.cons rfl (fun K hK => ?_) AllReadyH.nil
            go_simp
            refine (hSp ⟨some ⟨gc, 0, none⟩, A.n, A.n, some ⟨gc', 0, none⟩, A.n', A.n'⟩ x y _ hoc.nin (by simp only; omega) (by simp only; omega) ⟨Nat.le_refl _, Nat.le_refl _⟩ hys).mono ?_
            rintro e v3 ⟨Aw, al, ml, cl, rfl, how, _, hol, hap, hbl⟩
            go_wp2_with fail
            have Zc := Z2
            have Zl := Z2.keep hbl
            have hbc := hu2
            have hSl := LawU.keep hHeld hbl
            refine hK.out _ _ hSl (fun hHeld => ?_)
            clear hK K
            refine wpAnyH_take (i := 5) (v := ?_) rfl (by kernel_rfl) (by kernel_rfl) (by kernel_rfl) (fun _ _ _ h => h) (Or.inl ⟨by rfl, ?_⟩) (by assumption) ?_
            case refine_2 => (intro w hSw; (try dsimp only at hSw); go_simp; try with_reducible rfl)
            simp only [Act.put, List.getElem_toArray, List.getElem_cons_zero, List.getElem_cons_succ, List.setIfInBounds_toArray, List.set_cons_zero, List.set_cons_succ]
            refine wpAnyH_take (i := 6) (v := ?_) rfl (by kernel_rfl) (by kernel_rfl) (by kernel_rfl) (fun _ _ _ h => h) (Or.inl ⟨by rfl, ?_⟩) (by assumption) ?_
            case refine_2 => (intro w hSw; (try dsimp only at hSw); go_simp; try with_reducible rfl)
            simp only [Act.put, List.getElem_toArray, List.getElem_cons_zero, List.getElem_cons_succ, List.setIfInBounds_toArray, List.set_cons_zero, List.set_cons_succ]
            refine wpAnyH_take (i := 7) (v := ?_) rfl (by kernel_rfl) (by kernel_rfl) (by kernel_rfl) (fun _ _ _ h => h) (Or.inl ⟨by rfl, ?_⟩) (by assumption) ?_
            case refine_2 => (intro w hSw; (try dsimp only at hSw); go_simp; try with_reducible rfl)
            simp only [Act.put, List.getElem_toArray, List.getElem_cons_zero, List.getElem_cons_succ, List.setIfInBounds_toArray, List.set_cons_zero, List.set_cons_succ]
            refine wpAnyH_take (i := 8) (v := ?_) rfl (by kernel_rfl) (by kernel_rfl) (by kernel_rfl) (fun _ _ _ h => h) (Or.inl ⟨by rfl, ?_⟩) (by assumption) ?_
            case refine_2 => (intro w hSw; (try dsimp only at hSw); go_simp; try with_reducible rfl)
            simp only [Act.put, List.getElem_toArray, List.getElem_cons_zero, List.getElem_cons_succ, List.setIfInBounds_toArray, List.set_cons_zero, List.set_cons_succ]
            obtain ⟨kl, k0, k1, k2, k3, k4, k5, k6, kf⟩ := id Zl
            have hUP := UpR.first hbc how hol hap hbl hRu Zc.lt Zl
            have hSs : LawU w A x y w.heap.size A _ := LawU.keep hH2 hUP.below
            refine wpAnyH_ready (rs := [10]) (by kernel_rfl) (by simp) ?_
            refine AllReadyH.cons rfl (fun K hK => ?_) AllReadyH.nil
            go_simp
            refine hK.out _ _ hSs (fun hHeld => ?_)
            clear hK K
            refine wpAnyH_take (i := 11) (v := ?_) rfl (by kernel_rfl) (by kernel_rfl) (by kernel_rfl) (fun _ _ _ h => h) (Or.inl ⟨by rfl, ?_⟩) (by assumption) ?_
            case refine_2 => (intro w hSw; (try dsimp only at hSw); go_simp; try with_reducible rfl)
            simp only [Act.put, List.getElem_toArray, List.getElem_cons_zero, List.getElem_cons_succ, List.setIfInBounds_toArray, List.set_cons_zero, List.set_cons_succ]
            refine wpAnyH_take (i := 12) (v := ?_) rfl (by kernel_rfl) (by kernel_rfl) (by kernel_rfl) (fun _ _ _ h => h) (Or.inl ⟨by rfl, ?_⟩) (by assumption) ?_
            case refine_2 => (intro w hSw; (try dsimp only at hSw); go_simp; try with_reducible rfl)
            simp only [Act.put, List.getElem_toArray, List.getElem_cons_zero, List.getElem_cons_succ, List.setIfInBounds_toArray, List.set_cons_zero, List.set_cons_succ]
            refine wpAnyH_done (by kernel_rfl) ?_ _
            refine NoPanic.normal ?_
            go_wp2_with fail
            go_meet
            exact ⟨_, _, _, _, _, rfl, rfl, rfl, hUP⟩
        · go_simp
          have ba : Below v1.heap.size v1 (v1.alloc (.cells #[.int .i64 0, .int .i64 0, .string ⟨#[]⟩, .int .i64 0, .bool false, .slice none 0 0, .slice none 0 0] 58)) := bl_alloc (Below.refl _ _) _
          have Z1 := CBox.newZ v1 58
          have hRu : w2.heap.size ≤ v1.heap.size := hu1.size
          refine hK.out _ _ (LawU.keep hS1 ba) (fun hHeld => ?_)
          clear hK K
          have hu1 := bl_trans hu1 ba
          have hoc := hoc.keep ba
          refine wpAnyH_ready (rs := [3]) (by kernel_rfl) (by simp) ?_
          refine AllReadyH.cons rfl (fun K hK => ?_) AllReadyH.nil
          go_simp
          refine (toChange_any y.1 y.2.1 y.2.2.1 y.2.2.2 _).mono ?_
          rintro e v2 ⟨rfl, hv2⟩
          go_wp2_with fail
          have hoc := hoc.keep hv2
          have Z2 := Z1.keep hv2
          have hu2 := bl_trans hu1 hv2
          have hS2 := LawU.keep hHeld hv2
          refine hK.out _ _ hS2 (fun hHeld => ?_)
          clear hK K
          refine wpAnyH_ready (rs := [4]) (by kernel_rfl) (by simp) ?_
          refine AllReadyH.cons rfl (fun K hK => ?_) AllReadyH.nil
          go_simp
          refine (hSp ⟨some ⟨gc, 0, none⟩, A.n, A.n, some ⟨gc', 0, none⟩, A.n', A.n'⟩ x y _ hoc.nin (by simp only; omega) (by simp only; omega) ⟨Nat.le_refl _, Nat.le_refl _⟩ hys).mono ?_
          rintro e v3 ⟨Aw, al, ml, cl, rfl, how, _, hol, hap, hbl⟩
          go_wp2_with fail
          have Zc := Z2
          have Zl := Z2.keep hbl
          have hbc := hu2
          have hSl := LawU.keep hHeld hbl
          refine hK.out _ _ hSl (fun hHeld => ?_)
          clear hK K
          refine wpAnyH_take (i := 5) (v := ?_) rfl (by kernel_rfl) (by kernel_rfl) (by kernel_rfl) (fun _ _ _ h => h) (Or.inl ⟨by rfl, ?_⟩) (by assumption) ?_
          case refine_2 => (intro w hSw; (try dsimp only at hSw); go_simp; try with_reducible rfl)
          simp only [Act.put, List.getElem_toArray, List.getElem_cons_zero, List.getElem_cons_succ, List.setIfInBounds_toArray, List.set_cons_zero, List.set_cons_succ]
          refine wpAnyH_take (i := 6) (v := ?_) rfl (by kernel_rfl) (by kernel_rfl) (by kernel_rfl) (fun _ _ _ h => h) (Or.inl ⟨by rfl, ?_⟩) (by assumption) ?_
          case refine_2 => (intro w hSw; (try dsimp only at hSw); go_simp; try with_reducible rfl)
          simp only [Act.put, List.getElem_toArray, List.getElem_cons_zero, List.getElem_cons_succ, List.setIfInBounds_toArray, List.set_cons_zero, List.set_cons_succ]
          refine wpAnyH_take (i := 7) (v := ?_) rfl (by kernel_rfl) (by kernel_rfl) (by kernel_rfl) (fun _ _ _ h => h) (Or.inl ⟨by rfl, ?_⟩) (by assumption) ?_
          case refine_2 => (intro w hSw; (try dsimp only at hSw); go_simp; try with_reducible rfl)
          simp only [Act.put, List.getElem_toArray, List.getElem_cons_zero, List.getElem_cons_succ, List.setIfInBounds_toArray, List.set_cons_zero, List.set_cons_succ]
          refine wpAnyH_take (i := 8) (v := ?_) rfl (by kernel_rfl) (by kernel_rfl) (by kernel_rfl) (fun _ _ _ h => h) (Or.inl ⟨by rfl, ?_⟩) (by assumption) ?_
          case refine_2 => (intro w hSw; (try dsimp only at hSw); go_simp; try with_reducible rfl)
          simp only [Act.put, List.getElem_toArray, List.getElem_cons_zero, List.getElem_cons_succ, List.setIfInBounds_toArray, List.set_cons_zero, List.set_cons_succ]
          obtain ⟨kl, k0, k1, k2, k3, k4, k5, k6, kf⟩ := id Zl
          have hUP := UpR.first hbc how hol hap hbl hRu Zc.lt Zl
          have hSs : LawU w A x y w.heap.size A _ := LawU.keep hH2 hUP.below
          refine wpAnyH_ready (rs := [10]) (by kernel_rfl) (by simp) ?_
          refine AllReadyH.cons rfl (fun K hK => ?_) AllReadyH.nil
          go_simp
          refine hK.out _ _ hSs (fun hHeld => ?_)
          clear hK K
          refine wpAnyH_take (i := 11) (v := ?_) rfl (by kernel_rfl) (by kernel_rfl) (by kernel_rfl) (fun _ _ _ h => h) (Or.inl ⟨by rfl, ?_⟩) (by assumption) ?_
          case refine_2 => (intro w hSw; (try dsimp only at hSw); go_simp; try with_reducible rfl)
          simp only [Act.put, List.getElem_toArray, List.getElem_cons_zero, List.getElem_cons_succ, List.setIfInBounds_toArray, List.set_cons_zero, List.set_cons_succ]
          refine wpAnyH_take (i := 12) (v := ?_) rfl (by kernel_rfl) (by kernel_rfl) (by kernel_rfl) (fun _ _ _ h => h) (Or.inl ⟨by rfl, ?_⟩) (by assumption) ?_
          case refine_2 => (intro w hSw; (try dsimp only at hSw); go_simp; try with_reducible rfl)
          simp only [Act.put, List.getElem_toArray, List.getElem_cons_zero, List.getElem_cons_succ, List.setIfInBounds_toArray, List.set_cons_zero, List.set_cons_succ]
          refine wpAnyH_done (by kernel_rfl) ?_ _
          refine NoPanic.normal ?_
          go_wp2_with fail
          go_meet
          exact ⟨_, _, _, _, _, rfl, rfl, rfl, hUP⟩
      · go_simp
        have ba : Below w2.heap.size w2 (w2.alloc (.cells #[.int .i64 0, .int .i64 0, .string ⟨#[]⟩, .int .i64 0, .bool false, .slice none 0 0, .slice none 0 0] 58)).drew := (bl_alloc (Below.refl _ _) _).drew
        have Z0 := (CBox.newZ w2 58).keep (Below.refl _ _).drew
        have hRu : w2.heap.size ≤ w2.heap.size := Nat.le_refl _
        refine hK.out _ _ (LawU.keep hH2 ba) (fun hHeld => ?_)
        clear hK K
        have hu0 := ba
        refine wpAnyH_ready (rs := [1]) (by kernel_rfl) (by simp) ?_
        refine AllReadyH.cons rfl (fun K hK => ?_) AllReadyH.nil
        go_simp
        refine (toCell_any A x _ (HT.out.keep hHeld.bel) (by omega) (by omega)).mono ?_
        rintro e v1 ⟨gc, gc', rfl, hoc, hv1⟩
        go_wp2_with fail
        have Z1 := Z0.keep hv1
        have hu1 := bl_trans hu0 hv1
        have hS1 := LawU.keep hHeld hv1
        refine hK.out _ _ hS1 (fun hHeld => ?_)
        clear hK K
        refine wpAnyH_ready (rs := [3]) (by kernel_rfl) (by simp) ?_
        refine AllReadyH.cons rfl (fun K hK => ?_) AllReadyH.nil
        go_simp
        refine (toChange_any y.1 y.2.1 y.2.2.1 y.2.2.2 _).mono ?_
        rintro e v2 ⟨rfl, hv2⟩
        go_wp2_with fail
        have hoc := hoc.keep hv2
        have Z2 := Z1.keep hv2
        have hu2 := bl_trans hu1 hv2
        have hS2 := LawU.keep hHeld hv2
        refine hK.out _ _ hS2 (fun hHeld => ?_)
        clear hK K
        refine wpAnyH_ready (rs := [4]) (by kernel_rfl) (by simp) ?_
        refine AllReadyH.cons rfl (fun K hK => ?_) AllReadyH.nil
        go_simp
        refine (hSp ⟨some ⟨gc, 0, none⟩, A.n, A.n, some ⟨gc', 0, none⟩, A.n', A.n'⟩ x y _ hoc.nin (by simp only; omega) (by simp only; omega) ⟨Nat.le_refl _, Nat.le_refl _⟩ hys).mono ?_
        rintro e v3 ⟨Aw, al, ml, cl, rfl, how, _, hol, hap, hbl⟩
        go_wp2_with fail
        have Zc := Z2
        have Zl := Z2.keep hbl
        have hbc := hu2
        have hSl := LawU.keep hHeld hbl
        refine hK.out _ _ hSl (fun hHeld => ?_)
        clear hK K
        refine wpAnyH_take (i := 5) (v := ?_) rfl (by kernel_rfl) (by kernel_rfl) (by kernel_rfl) (fun _ _ _ h => h) (Or.inl ⟨by rfl, ?_⟩) (by assumption) ?_
        case refine_2 => (intro w hSw; (try dsimp only at hSw); go_simp; try with_reducible rfl)
        simp only [Act.put, List.getElem_toArray, List.getElem_cons_zero, List.getElem_cons_succ, List.setIfInBounds_toArray, List.set_cons_zero, List.set_cons_succ]
        refine wpAnyH_take (i := 6) (v := ?_) rfl (by kernel_rfl) (by kernel_rfl) (by kernel_rfl) (fun _ _ _ h => h) (Or.inl ⟨by rfl, ?_⟩) (by assumption) ?_
        case refine_2 => (intro w hSw; (try dsimp only at hSw); go_simp; try with_reducible rfl)
        simp only [Act.put, List.getElem_toArray, List.getElem_cons_zero, List.getElem_cons_succ, List.setIfInBounds_toArray, List.set_cons_zero, List.set_cons_succ]
        refine wpAnyH_take (i := 7) (v := ?_) rfl (by kernel_rfl) (by kernel_rfl) (by kernel_rfl) (fun _ _ _ h => h) (Or.inl ⟨by rfl, ?_⟩) (by assumption) ?_
        case refine_2 => (intro w hSw; (try dsimp only at hSw); go_simp; try with_reducible rfl)
        simp only [Act.put, List.getElem_toArray, List.getElem_cons_zero, List.getElem_cons_succ, List.setIfInBounds_toArray, List.set_cons_zero, List.set_cons_succ]
        refine wpAnyH_take (i := 8) (v := ?_) rfl (by kernel_rfl) (by kernel_rfl) (by kernel_rfl) (fun _ _ _ h => h) (Or.inl ⟨by rfl, ?_⟩) (by assumption) ?_
        case refine_2 => (intro w hSw; (try dsimp only at hSw); go_simp; try with_reducible rfl)
        simp only [Act.put, List.getElem_toArray, List.getElem_cons_zero, List.getElem_cons_succ, List.setIfInBounds_toArray, List.set_cons_zero, List.set_cons_succ]
        obtain ⟨kl, k0, k1, k2, k3, k4, k5, k6, kf⟩ := id Zl
        have hUP := UpR.first hbc how hol hap hbl hRu Zc.lt Zl
        have hSs : LawU w A x y w.heap.size A _ := LawU.keep hH2 hUP.below
        refine wpAnyH_ready (rs := [10]) (by kernel_rfl) (by simp) ?_
        refine AllReadyH.cons rfl (fun K hK => ?_) AllReadyH.nil
        go_simp
        refine hK.out _ _ hSs (fun hHeld => ?_)
        clear hK K
        refine wpAnyH_take (i := 11) (v := ?_) rfl (by kernel_rfl) (by kernel_rfl) (by kernel_rfl) (fun _ _ _ h => h) (Or.inl ⟨by rfl, ?_⟩) (by assumption) ?_
        case refine_2 => (intro w hSw; (try dsimp only at hSw); go_simp; try with_reducible rfl)
        simp only [Act.put, List.getElem_toArray, List.getElem_cons_zero, List.getElem_cons_succ, List.setIfInBounds_toArray, List.set_cons_zero, List.set_cons_succ]
        refine wpAnyH_take (i := 12) (v := ?_) rfl (by kernel_rfl) (by kernel_rfl) (by kernel_rfl) (fun _ _ _ h => h) (Or.inl ⟨by rfl, ?_⟩) (by assumption) ?_
        case refine_2 => (intro w hSw; (try dsimp only at hSw); go_simp; try with_reducible rfl)
        simp only [Act.put, List.getElem_toArray, List.getElem_cons_zero, List.getElem_cons_succ, List.setIfInBounds_toArray, List.set_cons_zero, List.set_cons_succ]
        refine wpAnyH_done (by kernel_rfl) ?_ _
        refine NoPanic.normal ?_
        go_wp2_with fail
        go_meet
        exact ⟨_, _, _, _, _, rfl, rfl, rfl, hUP⟩
    obtain ⟨R3, Aw, al, ml, cl, rfl, rfl, rfl, hU3⟩ := hcut
    obtain ⟨W3, rfl⟩ : ∃ W3, W3 = wc := ⟨_, rfl⟩
    generalize hnl : (f x y) = r at *
    have u3 := hU3.box
    have hb3 := hU3.below
    have x3 := x2.keep hb3
    have cq3 := cq2.keep hb3
    have B3 := bl_trans B2 hb3
    have HW := hU3.own.nin
    have HWl := hU3.told.ints
    have hml : ml ≤ 2097152 := by have h1 := HWl.len; have h2 := HUl.out; have h3 := HLp.out; omega
    have hnw : Aw.n ≤ 2097152 ∧ Aw.n' ≤ 2097152 := by have h1 := HW.ints.len; have h2 := HW.grs.len; have h3 := HUl.out; have h4 := HLp.out; have h5 := HLq.out; omega
    obtain ⟨_, q0, q1, q2, q3, q4, q5, q6, _⟩ := id x3
    have HI3 := HT.out.keep B3
    clear x2 cq2 hb3 B2 HT hU3 hH2
    go_wp2_with fail
    refine (toCell_any A x _ HI3 (by omega) (by omega)).mono ?_
    rintro e w4 ⟨g, g', rfl, ho4, hb4⟩
    have hlt3 := u3.lt
    generalize hW5 : w4.alloc (.cells #[.int .i64 x.kd, .int .i64 x.nu, .string x.tx, .int .i64 x.ve, .bool x.cl, .slice (some ⟨g, 0, none⟩) A.n A.n, .slice (some ⟨g', 0, none⟩) A.n' A.n'] 58) = W5
    have b5 : Below w4.heap.size w4 W5 := by subst hW5; exact bl_alloc (Below.refl _ _) _
    have y5 : CBox w4.heap.size ⟨some ⟨g, 0, none⟩, A.n, A.n, some ⟨g', 0, none⟩, A.n', A.n'⟩ x W5 := by subst hW5; exact CBox.new w4 ⟨some ⟨g, 0, none⟩, A.n, A.n, some ⟨g', 0, none⟩, A.n', A.n'⟩ x _
    have s5 : W5.heap.size = w4.heap.size + 1 := by subst hW5; simp
    have S5 := bl_trans hb4 b5
    have ho5 := ho4.keep b5
    have hsp := ho4.spans
    have hs34 := hb4.size
    obtain ⟨_, r0, r1, r2, r3, r4, r5, r6, _⟩ := id y5
    clear hb4 q0 q1 q2 q3 q4 q5 q6 ho4 b5
    have hH5 : LawU w A x y w4.heap.size ⟨some ⟨g, 0, none⟩, A.n, A.n, some ⟨g', 0, none⟩, A.n', A.n'⟩ W5 := LawU.mk' (x3.keep S5) (cq3.keep S5) y5 (bl_trans B3 S5)
    have hoc := ho5
    have HS5 := hidOf s5
    clear s5
    go_upto_region 10 with fail
    go_cut [10, 11, 12] from 19 (fun va vb vc wx => ∃ (R : Nat) (Aw : Na) (al : Option Addr) (ml cl : Nat), va = .pointer (some ⟨R, 0, none⟩) ∧ vb = .slice al ml cl ∧ vc = .int .i64 r.2.2 ∧ UpR W5 r.1 r.2.1 R Aw al ml wx)
    case first =>
      go_wp2_with fail
      refine wp_region_noPanic ?_
      refine wp_region_held_drew (S := fun w' => LawU w A x y w4.heap.size ⟨some ⟨g, 0, none⟩, A.n, A.n, some ⟨g', 0, none⟩, A.n', A.n'⟩ w') (by kernel_rfl) hH5.drew (fun hHeld => ?_)
      refine wpAnyH_take (i := 0) (v := ?_) rfl (by kernel_rfl) (by kernel_rfl) (by kernel_rfl) (fun _ _ _ h => h) (Or.inl ⟨by rfl, ?_⟩) (by assumption) ?_
      case refine_2 => (intro w hSw; (try dsimp only at hSw); go_simp; try with_reducible rfl)
      simp only [Act.put, List.getElem_toArray, List.getElem_cons_zero, List.setIfInBounds_toArray, List.set_cons_zero, List.set_cons_succ]
      refine wpAnyH_take (i := 1) (v := ?_) rfl (by kernel_rfl) (by kernel_rfl) (by kernel_rfl) (fun _ _ _ h => h) (Or.inl ⟨by rfl, ?_⟩) (by assumption) ?_
      case refine_2 => (intro w hSw; (try dsimp only at hSw); go_simp; try with_reducible rfl)
      simp only [Act.put, List.getElem_toArray, List.getElem_cons_zero, List.getElem_cons_succ, List.setIfInBounds_toArray, List.set_cons_zero, List.set_cons_succ]
      refine wpAnyH_ready (rs := [2, 8]) (by kernel_rfl) (by simp) ?_
      refine AllReadyH.cons rfl (fun K hK => ?_) (AllReadyH.cons rfl (fun K hK => ?_) AllReadyH.nil)
      · have hoc := hoc.keep (Below.refl _ _).drew
        have hu0 : Below W5.heap.size W5 W5.drew := (Below.refl _ _).drew
        go_simp
        refine (toChange_any y.1 y.2.1 y.2.2.1 y.2.2.2 _).mono ?_
        rintro e v1 ⟨rfl, hv1⟩
        go_wp2_with fail
        have hoc := hoc.keep hv1
        have hu1 := bl_trans hu0 hv1
        have hS1 := LawU.keep hHeld hv1
        refine hK.out _ _ hS1 (fun hHeld => ?_)
        clear hK K
        refine wpAnyH_ready (rs := [3, 8]) (by kernel_rfl) (by simp) ?_
        refine AllReadyH.cons rfl (fun K hK => ?_) (AllReadyH.cons rfl (fun K hK => ?_) AllReadyH.nil)
        · go_simp
          refine (hnl ▸ (hI ⟨some ⟨g, 0, none⟩, A.n, A.n, some ⟨g', 0, none⟩, A.n', A.n'⟩ x y _ hoc.nin (by simp only; omega) (by simp only; omega) hw hys hx)).mono ?_
          rintro e v2 ⟨Aw, al, ml, cl, rfl, how, _, hol, hap, hbl⟩
          go_wp2_with fail
          have hbc := hu1
          have hSl := LawU.keep hHeld hbl
          refine hK.out _ _ hSl (fun hHeld => ?_)
          clear hK K
          refine wpAnyH_take (i := 4) (v := ?_) rfl (by kernel_rfl) (by kernel_rfl) (by kernel_rfl) (fun _ _ _ h => h) (Or.inl ⟨by rfl, ?_⟩) (by assumption) ?_
          case refine_2 => (intro w hSw; (try dsimp only at hSw); go_simp; try with_reducible rfl)
          simp only [Act.put, List.getElem_toArray, List.getElem_cons_zero, List.getElem_cons_succ, List.setIfInBounds_toArray, List.set_cons_zero, List.set_cons_succ]
          refine wpAnyH_take (i := 5) (v := ?_) rfl (by kernel_rfl) (by kernel_rfl) (by kernel_rfl) (fun _ _ _ h => h) (Or.inl ⟨by rfl, ?_⟩) (by assumption) ?_
          case refine_2 => (intro w hSw; (try dsimp only at hSw); go_simp; try with_reducible rfl)
          simp only [Act.put, List.getElem_toArray, List.getElem_cons_zero, List.getElem_cons_succ, List.setIfInBounds_toArray, List.set_cons_zero, List.set_cons_succ]
          refine wpAnyH_take (i := 6) (v := ?_) rfl (by kernel_rfl) (by kernel_rfl) (by kernel_rfl) (fun _ _ _ h => h) (Or.inl ⟨by rfl, ?_⟩) (by assumption) ?_
          case refine_2 => (intro w hSw; (try dsimp only at hSw); go_simp; try with_reducible rfl)
          simp only [Act.put, List.getElem_toArray, List.getElem_cons_zero, List.getElem_cons_succ, List.setIfInBounds_toArray, List.set_cons_zero, List.set_cons_succ]
          refine wpAnyH_take (i := 7) (v := ?_) rfl (by kernel_rfl) (by kernel_rfl) (by kernel_rfl) (fun _ _ _ h => h) (Or.inl ⟨by rfl, ?_⟩) (by assumption) ?_
          case refine_2 => (intro w hSw; (try dsimp only at hSw); go_simp; try with_reducible rfl)
          simp only [Act.put, List.getElem_toArray, List.getElem_cons_zero, List.getElem_cons_succ, List.setIfInBounds_toArray, List.set_cons_zero, List.set_cons_succ]
          refine wpAnyH_ready (rs := [8]) (by kernel_rfl) (by simp) ?_
          refine AllReadyH.cons rfl (fun K hK => ?_) AllReadyH.nil
          go_simp
          refine hK.out _ _ (LawU.keep hSl (bl_alloc (Below.refl _ _) _)) (fun hHeld => ?_)
          clear hK K
          refine wpAnyH_ready (rs := [9]) (by kernel_rfl) (by simp) ?_
          refine AllReadyH.cons rfl (fun K hK => ?_) AllReadyH.nil
          go_simp
          refine hK.out _ _ (LawU.keep hSl (bl_alloc (Below.refl _ _) _)) (fun hHeld => ?_)
          clear hK K
          refine wpAnyH_take (i := 10) (v := ?_) rfl (by kernel_rfl) (by kernel_rfl) (by kernel_rfl) (fun _ _ _ h => h) (Or.inl ⟨by rfl, ?_⟩) (by assumption) ?_
          case refine_2 => (intro w hSw; (try dsimp only at hSw); go_simp; try with_reducible rfl)
          simp only [Act.put, List.getElem_toArray, List.getElem_cons_zero, List.getElem_cons_succ, List.setIfInBounds_toArray, List.set_cons_zero, List.set_cons_succ]
          refine wpAnyH_take (i := 11) (v := ?_) rfl (by kernel_rfl) (by kernel_rfl) (by kernel_rfl) (fun _ _ _ h => h) (Or.inl ⟨by rfl, ?_⟩) (by assumption) ?_
          case refine_2 => (intro w hSw; (try dsimp only at hSw); go_simp; try with_reducible rfl)
          simp only [Act.put, List.getElem_toArray, List.getElem_cons_zero, List.getElem_cons_succ, List.setIfInBounds_toArray, List.set_cons_zero, List.set_cons_succ]
          refine wpAnyH_done (by kernel_rfl) ?_ _
          refine NoPanic.normal ?_
          go_wp2_with fail
          go_meet
          exact ⟨_, _, _, _, _, rfl, rfl, rfl, UpR.last hbc how hol hap hbl _⟩
        · go_simp
          have ba : Below v1.heap.size v1 (v1.alloc (.cells #[.int .i64 0, .int .i64 0, .string ⟨#[]⟩, .int .i64 0, .bool false, .slice none 0 0, .slice none 0 0] 58)) := bl_alloc (Below.refl _ _) _
          have Z1 := CBox.newZ v1 58
          have hRu : W5.heap.size ≤ v1.heap.size := hu1.size
          refine hK.out _ _ (LawU.keep hS1 ba) (fun hHeld => ?_)
          clear hK K
          have hu1 := bl_trans hu1 ba
          have hoc := hoc.keep ba
          refine wpAnyH_ready (rs := [3]) (by kernel_rfl) (by simp) ?_
          refine AllReadyH.cons rfl (fun K hK => ?_) AllReadyH.nil
          go_simp
          refine (hnl ▸ (hI ⟨some ⟨g, 0, none⟩, A.n, A.n, some ⟨g', 0, none⟩, A.n', A.n'⟩ x y _ hoc.nin (by simp only; omega) (by simp only; omega) hw hys hx)).mono ?_
          rintro e v2 ⟨Aw, al, ml, cl, rfl, how, _, hol, hap, hbl⟩
          go_wp2_with fail
          have Zc := Z1
          have Zl := Z1.keep hbl
          have hbc := hu1
          have hSl := LawU.keep hHeld hbl
          refine hK.out _ _ hSl (fun hHeld => ?_)
          clear hK K
          refine wpAnyH_take (i := 4) (v := ?_) rfl (by kernel_rfl) (by kernel_rfl) (by kernel_rfl) (fun _ _ _ h => h) (Or.inl ⟨by rfl, ?_⟩) (by assumption) ?_
          case refine_2 => (intro w hSw; (try dsimp only at hSw); go_simp; try with_reducible rfl)
          simp only [Act.put, List.getElem_toArray, List.getElem_cons_zero, List.getElem_cons_succ, List.setIfInBounds_toArray, List.set_cons_zero, List.set_cons_succ]
          refine wpAnyH_take (i := 5) (v := ?_) rfl (by kernel_rfl) (by kernel_rfl) (by kernel_rfl) (fun _ _ _ h => h) (Or.inl ⟨by rfl, ?_⟩) (by assumption) ?_
          case refine_2 => (intro w hSw; (try dsimp only at hSw); go_simp; try with_reducible rfl)
          simp only [Act.put, List.getElem_toArray, List.getElem_cons_zero, List.getElem_cons_succ, List.setIfInBounds_toArray, List.set_cons_zero, List.set_cons_succ]
          refine wpAnyH_take (i := 6) (v := ?_) rfl (by kernel_rfl) (by kernel_rfl) (by kernel_rfl) (fun _ _ _ h => h) (Or.inl ⟨by rfl, ?_⟩) (by assumption) ?_
          case refine_2 => (intro w hSw; (try dsimp only at hSw); go_simp; try with_reducible rfl)
          simp only [Act.put, List.getElem_toArray, List.getElem_cons_zero, List.getElem_cons_succ, List.setIfInBounds_toArray, List.set_cons_zero, List.set_cons_succ]
          refine wpAnyH_take (i := 7) (v := ?_) rfl (by kernel_rfl) (by kernel_rfl) (by kernel_rfl) (fun _ _ _ h => h) (Or.inl ⟨by rfl, ?_⟩) (by assumption) ?_
          case refine_2 => (intro w hSw; (try dsimp only at hSw); go_simp; try with_reducible rfl)
          simp only [Act.put, List.getElem_toArray, List.getElem_cons_zero, List.getElem_cons_succ, List.setIfInBounds_toArray, List.set_cons_zero, List.set_cons_succ]
          obtain ⟨kl, k0, k1, k2, k3, k4, k5, k6, kf⟩ := id Zl
          have hUP := UpR.first hbc how hol hap hbl hRu Zc.lt Zl
          have hSs : LawU w A x y w4.heap.size ⟨some ⟨g, 0, none⟩, A.n, A.n, some ⟨g', 0, none⟩, A.n', A.n'⟩ _ := LawU.keep hH5 hUP.below
          refine wpAnyH_ready (rs := [9]) (by kernel_rfl) (by simp) ?_
          refine AllReadyH.cons rfl (fun K hK => ?_) AllReadyH.nil
          go_simp
          refine hK.out _ _ hSs (fun hHeld => ?_)
          clear hK K
          refine wpAnyH_take (i := 10) (v := ?_) rfl (by kernel_rfl) (by kernel_rfl) (by kernel_rfl) (fun _ _ _ h => h) (Or.inl ⟨by rfl, ?_⟩) (by assumption) ?_
          case refine_2 => (intro w hSw; (try dsimp only at hSw); go_simp; try with_reducible rfl)
          simp only [Act.put, List.getElem_toArray, List.getElem_cons_zero, List.getElem_cons_succ, List.setIfInBounds_toArray, List.set_cons_zero, List.set_cons_succ]
          refine wpAnyH_take (i := 11) (v := ?_) rfl (by kernel_rfl) (by kernel_rfl) (by kernel_rfl) (fun _ _ _ h => h) (Or.inl ⟨by rfl, ?_⟩) (by assumption) ?_
          case refine_2 => (intro w hSw; (try dsimp only at hSw); go_simp; try with_reducible rfl)
          simp only [Act.put, List.getElem_toArray, List.getElem_cons_zero, List.getElem_cons_succ, List.setIfInBounds_toArray, List.set_cons_zero, List.set_cons_succ]
          refine wpAnyH_done (by kernel_rfl) ?_ _
          refine NoPanic.normal ?_
          go_wp2_with fail
          go_meet
          exact ⟨_, _, _, _, _, rfl, rfl, rfl, hUP⟩
      · go_simp
        have ba : Below W5.heap.size W5 (W5.alloc (.cells #[.int .i64 0, .int .i64 0, .string ⟨#[]⟩, .int .i64 0, .bool false, .slice none 0 0, .slice none 0 0] 58)).drew := (bl_alloc (Below.refl _ _) _).drew
        have Z0 := (CBox.newZ W5 58).keep (Below.refl _ _).drew
        have hRu : W5.heap.size ≤ W5.heap.size := Nat.le_refl _
        refine hK.out _ _ (LawU.keep hH5 ba) (fun hHeld => ?_)
        clear hK K
        have hu0 := ba
        have hoc := hoc.keep ba
        refine wpAnyH_ready (rs := [2]) (by kernel_rfl) (by simp) ?_
        refine AllReadyH.cons rfl (fun K hK => ?_) AllReadyH.nil
        go_simp
        refine (toChange_any y.1 y.2.1 y.2.2.1 y.2.2.2 _).mono ?_
        rintro e v1 ⟨rfl, hv1⟩
        go_wp2_with fail
        have hoc := hoc.keep hv1
        have Z1 := Z0.keep hv1
        have hu1 := bl_trans hu0 hv1
        have hS1 := LawU.keep hHeld hv1
        refine hK.out _ _ hS1 (fun hHeld => ?_)
        clear hK K
        refine wpAnyH_ready (rs := [3]) (by kernel_rfl) (by simp) ?_
        refine AllReadyH.cons rfl (fun K hK => ?_) AllReadyH.nil
        go_simp
        refine (hnl ▸ (hI ⟨some ⟨g, 0, none⟩, A.n, A.n, some ⟨g', 0, none⟩, A.n', A.n'⟩ x y _ hoc.nin (by simp only; omega) (by simp only; omega) hw hys hx)).mono ?_
        rintro e v2 ⟨Aw, al, ml, cl, rfl, how, _, hol, hap, hbl⟩
        go_wp2_with fail
        have Zc := Z1
        have Zl := Z1.keep hbl
        have hbc := hu1
        have hSl := LawU.keep hHeld hbl
        refine hK.out _ _ hSl (fun hHeld => ?_)
        clear hK K
        refine wpAnyH_take (i := 4) (v := ?_) rfl (by kernel_rfl) (by kernel_rfl) (by kernel_rfl) (fun _ _ _ h => h) (Or.inl ⟨by rfl, ?_⟩) (by assumption) ?_
        case refine_2 => (intro w hSw; (try dsimp only at hSw); go_simp; try with_reducible rfl)
        simp only [Act.put, List.getElem_toArray, List.getElem_cons_zero, List.getElem_cons_succ, List.setIfInBounds_toArray, List.set_cons_zero, List.set_cons_succ]
        refine wpAnyH_take (i := 5) (v := ?_) rfl (by kernel_rfl) (by kernel_rfl) (by kernel_rfl) (fun _ _ _ h => h) (Or.inl ⟨by rfl, ?_⟩) (by assumption) ?_
        case refine_2 => (intro w hSw; (try dsimp only at hSw); go_simp; try with_reducible rfl)
        simp only [Act.put, List.getElem_toArray, List.getElem_cons_zero, List.getElem_cons_succ, List.setIfInBounds_toArray, List.set_cons_zero, List.set_cons_succ]
        refine wpAnyH_take (i := 6) (v := ?_) rfl (by kernel_rfl) (by kernel_rfl) (by kernel_rfl) (fun _ _ _ h => h) (Or.inl ⟨by rfl, ?_⟩) (by assumption) ?_
        case refine_2 => (intro w hSw; (try dsimp only at hSw); go_simp; try with_reducible rfl)
        simp only [Act.put, List.getElem_toArray, List.getElem_cons_zero, List.getElem_cons_succ, List.setIfInBounds_toArray, List.set_cons_zero, List.set_cons_succ]
        refine wpAnyH_take (i := 7) (v := ?_) rfl (by kernel_rfl) (by kernel_rfl) (by kernel_rfl) (fun _ _ _ h => h) (Or.inl ⟨by rfl, ?_⟩) (by assumption) ?_
        case refine_2 => (intro w hSw; (try dsimp only at hSw); go_simp; try with_reducible rfl)
        simp only [Act.put, List.getElem_toArray, List.getElem_cons_zero, List.getElem_cons_succ, List.setIfInBounds_toArray, List.set_cons_zero, List.set_cons_succ]
        obtain ⟨kl, k0, k1, k2, k3, k4, k5, k6, kf⟩ := id Zl
        have hUP := UpR.first hbc how hol hap hbl hRu Zc.lt Zl
        have hSs : LawU w A x y w4.heap.size ⟨some ⟨g, 0, none⟩, A.n, A.n, some ⟨g', 0, none⟩, A.n', A.n'⟩ _ := LawU.keep hH5 hUP.below
        refine wpAnyH_ready (rs := [9]) (by kernel_rfl) (by simp) ?_
        refine AllReadyH.cons rfl (fun K hK => ?_) AllReadyH.nil
        go_simp
        refine hK.out _ _ hSs (fun hHeld => ?_)
        clear hK K
        refine wpAnyH_take (i := 10) (v := ?_) rfl (by kernel_rfl) (by kernel_rfl) (by kernel_rfl) (fun _ _ _ h => h) (Or.inl ⟨by rfl, ?_⟩) (by assumption) ?_
        case refine_2 => (intro w hSw; (try dsimp only at hSw); go_simp; try with_reducible rfl)
        simp only [Act.put, List.getElem_toArray, List.getElem_cons_zero, List.getElem_cons_succ, List.setIfInBounds_toArray, List.set_cons_zero, List.set_cons_succ]
        refine wpAnyH_take (i := 11) (v := ?_) rfl (by kernel_rfl) (by kernel_rfl) (by kernel_rfl) (fun _ _ _ h => h) (Or.inl ⟨by rfl, ?_⟩) (by assumption) ?_
        case refine_2 => (intro w hSw; (try dsimp only at hSw); go_simp; try with_reducible rfl)
        simp only [Act.put, List.getElem_toArray, List.getElem_cons_zero, List.getElem_cons_succ, List.setIfInBounds_toArray, List.set_cons_zero, List.set_cons_succ]
        refine wpAnyH_done (by kernel_rfl) ?_ _
        refine NoPanic.normal ?_
        go_wp2_with fail
        go_meet
        exact ⟨_, _, _, _, _, rfl, rfl, rfl, hUP⟩
    obtain ⟨R6, A6, al6, ml6, cl6, rfl, rfl, rfl, hU6⟩ := hcut
    obtain ⟨W7, rfl⟩ : ∃ W7, W7 = wc := ⟨_, rfl⟩
    have s5 := HS5.out
    clear HS5
    have G7 := hU6.own
    have L7 := hU6.told
    have z7 := hU6.box
    have hap := hU6.apart
    have hR6 := hU6.ge
    have hn61 := hU6.n1
    have hn62 := hU6.n2
    have hn63 := hU6.n3
    have b67 := hU6.below
    have hn6 : A6.n ≤ 2097152 ∧ A6.n' ≤ 2097152 := by have h1 := G7.nin.ints.len; have h2 := G7.nin.grs.len; have h3 := HUl.out; have h4 := HLp.out; have h5 := HLq.out; omega
    have hml6 : ml6 ≤ 2097152 := by have h1 := L7.ints.len; have h2 := HUl.out; have h3 := HLp.out; omega
    have hspl := own_span L7
    have hspg := G7.spans
    have hs56 := b67.size
    have S7 := bl_trans S5 b67
    have X7 := ho5.keep b67
    have y7 := y5.keep b67
    clear hU6 hH5 hoc
    obtain ⟨_, t0, t1, t2, t3, t4, t5, t6, _⟩ := id z7
    obtain ⟨_, u0, u1, u2, u3, u4, u5, u6, _⟩ := u3.keep S7
    have hnm := mark_nn5 A6.n A6.n'
    have hnm2 := mark_nn4 A6.n A6.n' ml6
    clear r0 r1 r2 r3 r4 r5 r6 S5 ho5 hW5 y5 b67
    go_wp2_with fail
    refine (eqCell_same A6 Aw r.1 _ G7.nin (HW.keep S7) hn6.1 hn6.2 hnw.1 hnw.2).mono ?_
    rintro e w8 ⟨rfl, hb8⟩
    have S7b := bl_trans S7 hb8
    have L7b := L7.keep hb8
    have hs7b := hb8.size
    go_wp2_with fail
    refine (eqIntS_any _ _ ml6 ml cl6 cl _ _ _ L7b.ints (HWl.keep S7b) hml6 hml).mono ?_
    rintro e w8b ⟨rfl, hb8b⟩
    rw [eqIL_self]
    replace hb8 := bl_trans hb8 hb8b
    clear S7b L7b hb8b
    have L8 := L7.keep hb8
    have HL8 := hidOf L8
    clear L7 L8
    have S8 := bl_trans S7 hb8
    have G8 := G7.keep hb8
    have X8 := X7.keep hb8
    have y8 := y7.keep hb8
    have z8 := z7.keep hb8
    have x8 := x3.keep S8
    have hs8 := hb8.size
    have hB8 := bl_trans B3 S8
    have hS : LawSC w w4.heap.size A ⟨some ⟨g, 0, none⟩, A.n, A.n, some ⟨g', 0, none⟩, A.n', A.n'⟩ x w8b := LawSC.mk' x8 y8 hB8
    have HS8 := hidOf S8
    have HG8 := hidOf G8
    have HX8 := hidOf X8
    have HY8 := hidOf y8
    have HZ8 := hidOf z8
    clear S7 G7 X7 y7 z7 hb8 x8 y8 z8 S8 G8 X8 hB8 t0 t1 t2 t3 t4 t5 t6 u0 u1 u2 u3 u4 u5 u6
    go_wp2_with fail
    go_region_held3 (fun w' => LawSC w w4.heap.size A ⟨some ⟨g, 0, none⟩, A.n, A.n, some ⟨g', 0, none⟩, A.n', A.n'⟩ x w') (first | (exact hS.drew) | (exact LawSC.keep (by assumption) (by assumption)))
      (first
        | (go_at_call 73; refine (toCell_any A x _ (HI3.keep (bl_trans HS8.out (Below.refl _ w8b).drew)) (by omega) (by omega)).mono ?_; rintro e w9 ⟨g9, g9', rfl, ho9, hb9⟩; have b89 := bl_trans (Below.refl w8b.heap.size w8b).drew hb9; have X9 := HX8.out.keep b89)
        | (go_at_call 75; refine (eqCell_same ⟨some ⟨g, 0, none⟩, A.n, A.n, some ⟨g', 0, none⟩, A.n', A.n'⟩ ⟨some ⟨g9, 0, none⟩, A.n, A.n, some ⟨g9', 0, none⟩, A.n', A.n'⟩ x _ X9.nin ho9.nin (by simp only; omega) (by simp only; omega) (by simp only; omega) (by simp only; omega)).mono ?_; rintro e w10 ⟨rfl, hb10⟩))
    all_goals (try simp only [Bool.not_true])
    have b810 := bl_trans b89 hb10
    have S10 := bl_trans HS8.out b810
    have G10 := HG8.out.keep b810
    have X10 := HX8.out.keep b810
    have y10 := HY8.out.keep b810
    have z10 := HZ8.out.keep b810
    have hs10 := b810.size
    have L10 := HL8.out.keep b810
    clear HL8
    obtain ⟨_, t0, t1, t2, t3, t4, t5, t6, _⟩ := id y10
    clear hS HS8 HG8 HX8 HY8 HZ8 b89 b810 ho9 hb9 hb10 X9
    rename_i hHeld
    clear hHeld
    go_wp2_with fail
    refine (markCell_any W3.heap.size ⟨some ⟨g, 0, none⟩, A.n, A.n, some ⟨g', 0, none⟩, A.n', A.n'⟩ x 1 _ X10 (by simp only; omega) (by simp only; omega) (by omega) (by omega)).mono ?_
    rintro e w11 ⟨rfl, _, hM⟩
    have G11 := G10.turned hM (span_lt W5.heap.size hsp.1 (by omega)) (span_lt W5.heap.size hsp.2 (by omega))
    have z11 := z10.turned hM (span_lt R6 hsp.1 (by omega)) (span_lt R6 hsp.2 (by omega))
    have S11 := S10.trans (hM.below (B := W3.heap.size) (by omega) (span_ge W3.heap.size hsp.1 (Nat.le_refl _)) (span_ge W3.heap.size hsp.2 (Nat.le_refl _)))
    have hs11 := hM.size
    have L11 := L10.turned hM (span_lt W5.heap.size hsp.1 (by omega)) (span_lt W5.heap.size hsp.2 (by omega))
    clear L10
    obtain ⟨_, v0, v1, v2, v3, v4, v5, v6, _⟩ := id z11
    obtain ⟨_, u0, u1, u2, u3, u4, u5, u6, _⟩ := u3.keep S11
    clear S10 G10 X10 y10 z10 hM t0 t1 t2 t3 t4 t5 t6
    go_wp2_with fail
    refine (eqCell_same A6 Aw r.1 _ G11.nin (HW.keep S11) hn6.1 hn6.2 hnw.1 hnw.2).mono ?_
    rintro e w12 ⟨rfl, hb12⟩
    have S11b := bl_trans S11 hb12
    have L11b := L11.keep hb12
    go_wp2_with fail
    refine (eqIntS_any _ _ ml6 ml cl6 cl _ _ _ L11b.ints (HWl.keep S11b) hml6 hml).mono ?_
    rintro e w12b ⟨rfl, hb12b⟩
    rw [eqIL_self]
    replace hb12 := bl_trans hb12 hb12b
    clear S11b L11b hb12b
    have L12 := L11.keep hb12
    clear L11
    have S12 := bl_trans S11 hb12
    have G12 := G11.keep hb12
    have z12 := z11.keep hb12
    have hs12 := hb12.size
    obtain ⟨_, t0, t1, t2, t3, t4, t5, t6, _⟩ := id z12
    clear S11 G11 z11 hb12 v0 v1 v2 v3 v4 v5 v6 u0 u1 u2 u3 u4 u5 u6
    go_wp2_with fail
    refine (markCell_any W5.heap.size A6 r.1 1 _ G12 hn6.1 hn6.2 (by omega) (by omega)).mono ?_
    rintro e w13 ⟨rfl, G13, hM⟩
    have z13 := z12.turnedN hM hn61 hn62
    have S13 := S12.trans (hM.below (B := W3.heap.size) (by omega) (span_ge W3.heap.size hspg.1 (by omega)) (span_ge W3.heap.size hspg.2 (by omega)))
    have hs13 := hM.size
    have L13 := L12.turned2 hM hap
    clear S12 G12 L12 z12 hM t0 t1 t2 t3 t4 t5 t6
    go_wp2_with fail
    refine (markIntS_any W5.heap.size al6 ml6 cl6 _ (1 + (A6.n : Int) + (A6.n' : Int)) _ L13 hml6 (by omega) (by omega)).mono ?_
    rintro e w13b ⟨rfl, L13b, hMt⟩
    have hgr : Listed al6 ml6 w13 w13b := hMt
    have G13 := G13.listed hgr hap
    have z13 := z13.listedN hgr hn63
    have S13 := S13.trans (below_listed hgr (B := W3.heap.size) (by omega) (hspl.imp id fun h b off e => by have := h b off e; omega))
    have L13 := L13b
    clear hMt hgr L13b
    obtain ⟨_, v0, v1, v2, v3, v4, v5, v6, _⟩ := id z13
    go_wp2_with fail
    refine (heldCell_marks A6 r.1 1 _ G13.nin hn6.1 hn6.2 (by omega) (by omega)).mono ?_
    rintro e w14 ⟨rfl, hb14⟩
    have L13c := L13.keep hb14
    go_wp2_with fail
    refine (heldIntS_marks _ ml6 cl6 (1 + (A6.n : Int) + (A6.n' : Int)) _ L13c.ints hml6 (by omega) (by omega)).mono ?_
    rintro e w14b ⟨rfl, rfl⟩
    have L14 := L13c
    clear L13 L13c
    have S14 := bl_trans S13 hb14
    have G14 := G13.keep hb14
    have z14 := z13.keep hb14
    clear S13 G13 z13 hb14 v0 v1 v2 v3 v4 v5 v6
    have hH14 : LawU w A x y w.heap.size A w14b := LawU.mk' (x3.keep S14) (cq3.keep S14) (x3.keep S14) (bl_trans B3 S14)
    go_upto_region 31 with fail
    go_cut [16, 17, 18] from 19 (fun va vb vc wx => ∃ (R : Nat) (Aw : Na) (al : Option Addr) (ml cl : Nat), va = .pointer (some ⟨R, 0, none⟩) ∧ vb = .slice al ml cl ∧ vc = .int .i64 r.2.2 ∧ UpR w14b r.1 r.2.1 R Aw al ml wx)
    case first =>
      go_wp2_with fail
      refine wp_region_noPanic ?_
      refine wp_region_held_drew (S := fun w' => LawU w A x y w.heap.size A w') (by kernel_rfl) hH14.drew (fun hHeld => ?_)
      refine wpAnyH_take (i := 0) (v := ?_) rfl (by kernel_rfl) (by kernel_rfl) (by kernel_rfl) (fun _ _ _ h => h) (Or.inl ⟨by rfl, ?_⟩) (by assumption) ?_
      case refine_2 => (intro w hSw; (try dsimp only at hSw); go_simp; try with_reducible rfl)
      simp only [Act.put, List.getElem_toArray, List.getElem_cons_zero, List.setIfInBounds_toArray, List.set_cons_zero, List.set_cons_succ]
      refine wpAnyH_take (i := 2) (v := ?_) rfl (by kernel_rfl) (by kernel_rfl) (by kernel_rfl) (fun _ _ _ h => h) (Or.inl ⟨by rfl, ?_⟩) (by assumption) ?_
      case refine_2 => (intro w hSw; (try dsimp only at hSw); go_simp; try with_reducible rfl)
      simp only [Act.put, List.getElem_toArray, List.getElem_cons_zero, List.getElem_cons_succ, List.setIfInBounds_toArray, List.set_cons_zero, List.set_cons_succ]
      refine wpAnyH_ready (rs := [1, 9]) (by kernel_rfl) (by simp) ?_
      refine AllReadyH.cons rfl (fun K hK => ?_) (AllReadyH.cons rfl (fun K hK => ?_) AllReadyH.nil)
      · have hu0 : Below w14b.heap.size w14b w14b.drew := (Below.refl _ _).drew
        go_simp
        refine (toCell_any A x _ (HTw.out.keep hHeld.bel) (by omega) (by omega)).mono ?_
        rintro e v1 ⟨gc, gc', rfl, hoc, hv1⟩
        go_wp2_with fail
        have hu1 := bl_trans hu0 hv1
        have hS1 := LawU.keep hHeld hv1
        refine hK.out _ _ hS1 (fun hHeld => ?_)
        clear hK K
        refine wpAnyH_ready (rs := [3, 9]) (by kernel_rfl) (by simp) ?_
        refine AllReadyH.cons rfl (fun K hK => ?_) (AllReadyH.cons rfl (fun K hK => ?_) AllReadyH.nil)
        · go_simp
          refine (toChange_any y.1 y.2.1 y.2.2.1 y.2.2.2 _).mono ?_
          rintro e v2 ⟨rfl, hv2⟩
          go_wp2_with fail
          have hoc := hoc.keep hv2
          have hu2 := bl_trans hu1 hv2
          have hS2 := LawU.keep hHeld hv2
          refine hK.out _ _ hS2 (fun hHeld => ?_)
          clear hK K
          refine wpAnyH_ready (rs := [4, 9]) (by kernel_rfl) (by simp) ?_
          refine AllReadyH.cons rfl (fun K hK => ?_) (AllReadyH.cons rfl (fun K hK => ?_) AllReadyH.nil)
          · go_simp
            refine (hnl ▸ (hI ⟨some ⟨gc, 0, none⟩, A.n, A.n, some ⟨gc', 0, none⟩, A.n', A.n'⟩ x y _ hoc.nin (by simp only; omega) (by simp only; omega) hw hys hx)).mono ?_
            rintro e v3 ⟨Aw, al, ml, cl, rfl, how, _, hol, hap, hbl⟩
            go_wp2_with fail
            have hbc := hu2
            have hSl := LawU.keep hHeld hbl
            refine hK.out _ _ hSl (fun hHeld => ?_)
            clear hK K
            refine wpAnyH_take (i := 5) (v := ?_) rfl (by kernel_rfl) (by kernel_rfl) (by kernel_rfl) (fun _ _ _ h => h) (Or.inl ⟨by rfl, ?_⟩) (by assumption) ?_
            case refine_2 => (intro w hSw; (try dsimp only at hSw); go_simp; try with_reducible rfl)
            simp only [Act.put, List.getElem_toArray, List.getElem_cons_zero, List.getElem_cons_succ, List.setIfInBounds_toArray, List.set_cons_zero, List.set_cons_succ]
            refine wpAnyH_take (i := 6) (v := ?_) rfl (by kernel_rfl) (by kernel_rfl) (by kernel_rfl) (fun _ _ _ h => h) (Or.inl ⟨by rfl, ?_⟩) (by assumption) ?_
            case refine_2 => (intro w hSw; (try dsimp only at hSw); go_simp; try with_reducible rfl)
            simp only [Act.put, List.getElem_toArray, List.getElem_cons_zero, List.getElem_cons_succ, List.setIfInBounds_toArray, List.set_cons_zero, List.set_cons_succ]
            refine wpAnyH_take (i := 7) (v := ?_) rfl (by kernel_rfl) (by kernel_rfl) (by kernel_rfl) (fun _ _ _ h => h) (Or.inl ⟨by rfl, ?_⟩) (by assumption) ?_
            case refine_2 => (intro w hSw; (try dsimp only at hSw); go_simp; try with_reducible rfl)
            simp only [Act.put, List.getElem_toArray, List.getElem_cons_zero, List.getElem_cons_succ, List.setIfInBounds_toArray, List.set_cons_zero, List.set_cons_succ]
            refine wpAnyH_take (i := 8) (v := ?_) rfl (by kernel_rfl) (by kernel_rfl) (by kernel_rfl) (fun _ _ _ h => h) (Or.inl ⟨by rfl, ?_⟩) (by assumption) ?_
            case refine_2 => (intro w hSw; (try dsimp only at hSw); go_simp; try with_reducible rfl)
            simp only [Act.put, List.getElem_toArray, List.getElem_cons_zero, List.getElem_cons_succ, List.setIfInBounds_toArray, List.set_cons_zero, List.set_cons_succ]
            refine wpAnyH_ready (rs := [9]) (by kernel_rfl) (by simp) ?_
            refine AllReadyH.cons rfl (fun K hK => ?_) AllReadyH.nil
            go_simp
            refine hK.out _ _ (LawU.keep hSl (bl_alloc (Below.refl _ _) _)) (fun hHeld => ?_)
            clear hK K
            refine wpAnyH_ready (rs := [10]) (by kernel_rfl) (by simp) ?_
            refine AllReadyH.cons rfl (fun K hK => ?_) AllReadyH.nil
            go_simp
            refine hK.out _ _ (LawU.keep hSl (bl_alloc (Below.refl _ _) _)) (fun hHeld => ?_)
            clear hK K
            refine wpAnyH_take (i := 11) (v := ?_) rfl (by kernel_rfl) (by kernel_rfl) (by kernel_rfl) (fun _ _ _ h => h) (Or.inl ⟨by rfl, ?_⟩) (by assumption) ?_
            case refine_2 => (intro w hSw; (try dsimp only at hSw); go_simp; try with_reducible rfl)
            simp only [Act.put, List.getElem_toArray, List.getElem_cons_zero, List.getElem_cons_succ, List.setIfInBounds_toArray, List.set_cons_zero, List.set_cons_succ]
            refine wpAnyH_take (i := 12) (v := ?_) rfl (by kernel_rfl) (by kernel_rfl) (by kernel_rfl) (fun _ _ _ h => h) (Or.inl ⟨by rfl, ?_⟩) (by assumption) ?_
            case refine_2 => (intro w hSw; (try dsimp only at hSw); go_simp; try with_reducible rfl)
            simp only [Act.put, List.getElem_toArray, List.getElem_cons_zero, List.getElem_cons_succ, List.setIfInBounds_toArray, List.set_cons_zero, List.set_cons_succ]
            refine wpAnyH_done (by kernel_rfl) ?_ _
            refine NoPanic.normal ?_
            go_wp2_with fail
            go_meet
            exact ⟨_, _, _, _, _, rfl, rfl, rfl, UpR.last hbc how hol hap hbl _⟩
          · go_simp
            have ba : Below v2.heap.size v2 (v2.alloc (.cells #[.int .i64 0, .int .i64 0, .string ⟨#[]⟩, .int .i64 0, .bool false, .slice none 0 0, .slice none 0 0] 58)) := bl_alloc (Below.refl _ _) _
            have Z2 := CBox.newZ v2 58
            have hRu : w14b.heap.size ≤ v2.heap.size := hu2.size
            refine hK.out _ _ (LawU.keep hS2 ba) (fun hHeld => ?_)
            clear hK K
            have hu2 := bl_trans hu2 ba
            have hoc := hoc.keep ba
            refine wpAnyH_ready (rs := [4]) (by kernel_rfl) (by simp) ?_
            refine AllReadyH.cons rfl (fun K hK => ?_) AllReadyH.nil
            go_simp
            refine (hnl ▸ (hI ⟨some ⟨gc, 0, none⟩, A.n, A.n, some ⟨gc', 0, none⟩, A.n', A.n'⟩ x y _ hoc.nin (by simp only; omega) (by simp only; omega) hw hys hx)).mono ?_
            rintro e v3 ⟨Aw, al, ml, cl, rfl, how, _, hol, hap, hbl⟩
            go_wp2_with fail
            have Zc := Z2
            have Zl := Z2.keep hbl
            have hbc := hu2
            have hSl := LawU.keep hHeld hbl
            refine hK.out _ _ hSl (fun hHeld => ?_)
            clear hK K
            refine wpAnyH_take (i := 5) (v := ?_) rfl (by kernel_rfl) (by kernel_rfl) (by kernel_rfl) (fun _ _ _ h => h) (Or.inl ⟨by rfl, ?_⟩) (by assumption) ?_
            case refine_2 => (intro w hSw; (try dsimp only at hSw); go_simp; try with_reducible rfl)
            simp only [Act.put, List.getElem_toArray, List.getElem_cons_zero, List.getElem_cons_succ, List.setIfInBounds_toArray, List.set_cons_zero, List.set_cons_succ]
            refine wpAnyH_take (i := 6) (v := ?_) rfl (by kernel_rfl) (by kernel_rfl) (by kernel_rfl) (fun _ _ _ h => h) (Or.inl ⟨by rfl, ?_⟩) (by assumption) ?_
            case refine_2 => (intro w hSw; (try dsimp only at hSw); go_simp; try with_reducible rfl)
            simp only [Act.put, List.getElem_toArray, List.getElem_cons_zero, List.getElem_cons_succ, List.setIfInBounds_toArray, List.set_cons_zero, List.set_cons_succ]
            refine wpAnyH_take (i := 7) (v := ?_) rfl (by kernel_rfl) (by kernel_rfl) (by kernel_rfl) (fun _ _ _ h => h) (Or.inl ⟨by rfl, ?_⟩) (by assumption) ?_
            case refine_2 => (intro w hSw; (try dsimp only at hSw); go_simp; try with_reducible rfl)
            simp only [Act.put, List.getElem_toArray, List.getElem_cons_zero, List.getElem_cons_succ, List.setIfInBounds_toArray, List.set_cons_zero, List.set_cons_succ]
            refine wpAnyH_take (i := 8) (v := ?_) rfl (by kernel_rfl) (by kernel_rfl) (by kernel_rfl) (fun _ _ _ h => h) (Or.inl ⟨by rfl, ?_⟩) (by assumption) ?_
            case refine_2 => (intro w hSw; (try dsimp only at hSw); go_simp; try with_reducible rfl)
            simp only [Act.put, List.getElem_toArray, List.getElem_cons_zero, List.getElem_cons_succ, List.setIfInBounds_toArray, List.set_cons_zero, List.set_cons_succ]
            obtain ⟨kl, k0, k1, k2, k3, k4, k5, k6, kf⟩ := id Zl
            have hUP := UpR.first hbc how hol hap hbl hRu Zc.lt Zl
            have hSs : LawU w A x y w.heap.size A _ := LawU.keep hH14 hUP.below
            refine wpAnyH_ready (rs := [10]) (by kernel_rfl) (by simp) ?_
            refine AllReadyH.cons rfl (fun K hK => ?_) AllReadyH.nil
            go_simp
            refine hK.out _ _ hSs (fun hHeld => ?_)
            clear hK K
            refine wpAnyH_take (i := 11) (v := ?_) rfl (by kernel_rfl) (by kernel_rfl) (by kernel_rfl) (fun _ _ _ h => h) (Or.inl ⟨by rfl, ?_⟩) (by assumption) ?_
            case refine_2 => (intro w hSw; (try dsimp only at hSw); go_simp; try with_reducible rfl)
            simp only [Act.put, List.getElem_toArray, List.getElem_cons_zero, List.getElem_cons_succ, List.setIfInBounds_toArray, List.set_cons_zero, List.set_cons_succ]
            refine wpAnyH_take (i := 12) (v := ?_) rfl (by kernel_rfl) (by kernel_rfl) (by kernel_rfl) (fun _ _ _ h => h) (Or.inl ⟨by rfl, ?_⟩) (by assumption) ?_
            case refine_2 => (intro w hSw; (try dsimp only at hSw); go_simp; try with_reducible rfl)
            simp only [Act.put, List.getElem_toArray, List.getElem_cons_zero, List.getElem_cons_succ, List.setIfInBounds_toArray, List.set_cons_zero, List.set_cons_succ]
            refine wpAnyH_done (by kernel_rfl) ?_ _
            refine NoPanic.normal ?_
            go_wp2_with fail
            go_meet
            exact ⟨_, _, _, _, _, rfl, rfl, rfl, hUP⟩
        · go_simp
          have ba : Below v1.heap.size v1 (v1.alloc (.cells #[.int .i64 0, .int .i64 0, .string ⟨#[]⟩, .int .i64 0, .bool false, .slice none 0 0, .slice none 0 0] 58)) := bl_alloc (Below.refl _ _) _
          have Z1 := CBox.newZ v1 58
          have hRu : w14b.heap.size ≤ v1.heap.size := hu1.size
          refine hK.out _ _ (LawU.keep hS1 ba) (fun hHeld => ?_)
          clear hK K
          have hu1 := bl_trans hu1 ba
          have hoc := hoc.keep ba
          refine wpAnyH_ready (rs := [3]) (by kernel_rfl) (by simp) ?_
          refine AllReadyH.cons rfl (fun K hK => ?_) AllReadyH.nil
          go_simp
          refine (toChange_any y.1 y.2.1 y.2.2.1 y.2.2.2 _).mono ?_
          rintro e v2 ⟨rfl, hv2⟩
          go_wp2_with fail
          have hoc := hoc.keep hv2
          have Z2 := Z1.keep hv2
          have hu2 := bl_trans hu1 hv2
          have hS2 := LawU.keep hHeld hv2
          refine hK.out _ _ hS2 (fun hHeld => ?_)
          clear hK K
          refine wpAnyH_ready (rs := [4]) (by kernel_rfl) (by simp) ?_
          refine AllReadyH.cons rfl (fun K hK => ?_) AllReadyH.nil
          go_simp
          refine (hnl ▸ (hI ⟨some ⟨gc, 0, none⟩, A.n, A.n, some ⟨gc', 0, none⟩, A.n', A.n'⟩ x y _ hoc.nin (by simp only; omega) (by simp only; omega) hw hys hx)).mono ?_
          rintro e v3 ⟨Aw, al, ml, cl, rfl, how, _, hol, hap, hbl⟩
          go_wp2_with fail
          have Zc := Z2
          have Zl := Z2.keep hbl
          have hbc := hu2
          have hSl := LawU.keep hHeld hbl
          refine hK.out _ _ hSl (fun hHeld => ?_)
          clear hK K
          refine wpAnyH_take (i := 5) (v := ?_) rfl (by kernel_rfl) (by kernel_rfl) (by kernel_rfl) (fun _ _ _ h => h) (Or.inl ⟨by rfl, ?_⟩) (by assumption) ?_
          case refine_2 => (intro w hSw; (try dsimp only at hSw); go_simp; try with_reducible rfl)
          simp only [Act.put, List.getElem_toArray, List.getElem_cons_zero, List.getElem_cons_succ, List.setIfInBounds_toArray, List.set_cons_zero, List.set_cons_succ]
          refine wpAnyH_take (i := 6) (v := ?_) rfl (by kernel_rfl) (by kernel_rfl) (by kernel_rfl) (fun _ _ _ h => h) (Or.inl ⟨by rfl, ?_⟩) (by assumption) ?_
          case refine_2 => (intro w hSw; (try dsimp only at hSw); go_simp; try with_reducible rfl)
          simp only [Act.put, List.getElem_toArray, List.getElem_cons_zero, List.getElem_cons_succ, List.setIfInBounds_toArray, List.set_cons_zero, List.set_cons_succ]
          refine wpAnyH_take (i := 7) (v := ?_) rfl (by kernel_rfl) (by kernel_rfl) (by kernel_rfl) (fun _ _ _ h => h) (Or.inl ⟨by rfl, ?_⟩) (by assumption) ?_
          case refine_2 => (intro w hSw; (try dsimp only at hSw); go_simp; try with_reducible rfl)
          simp only [Act.put, List.getElem_toArray, List.getElem_cons_zero, List.getElem_cons_succ, List.setIfInBounds_toArray, List.set_cons_zero, List.set_cons_succ]
          refine wpAnyH_take (i := 8) (v := ?_) rfl (by kernel_rfl) (by kernel_rfl) (by kernel_rfl) (fun _ _ _ h => h) (Or.inl ⟨by rfl, ?_⟩) (by assumption) ?_
          case refine_2 => (intro w hSw; (try dsimp only at hSw); go_simp; try with_reducible rfl)
          simp only [Act.put, List.getElem_toArray, List.getElem_cons_zero, List.getElem_cons_succ, List.setIfInBounds_toArray, List.set_cons_zero, List.set_cons_succ]
          obtain ⟨kl, k0, k1, k2, k3, k4, k5, k6, kf⟩ := id Zl
          have hUP := UpR.first hbc how hol hap hbl hRu Zc.lt Zl
          have hSs : LawU w A x y w.heap.size A _ := LawU.keep hH14 hUP.below
          refine wpAnyH_ready (rs := [10]) (by kernel_rfl) (by simp) ?_
          refine AllReadyH.cons rfl (fun K hK => ?_) AllReadyH.nil
          go_simp
          refine hK.out _ _ hSs (fun hHeld => ?_)
          clear hK K
          refine wpAnyH_take (i := 11) (v := ?_) rfl (by kernel_rfl) (by kernel_rfl) (by kernel_rfl) (fun _ _ _ h => h) (Or.inl ⟨by rfl, ?_⟩) (by assumption) ?_
          case refine_2 => (intro w hSw; (try dsimp only at hSw); go_simp; try with_reducible rfl)
          simp only [Act.put, List.getElem_toArray, List.getElem_cons_zero, List.getElem_cons_succ, List.setIfInBounds_toArray, List.set_cons_zero, List.set_cons_succ]
          refine wpAnyH_take (i := 12) (v := ?_) rfl (by kernel_rfl) (by kernel_rfl) (by kernel_rfl) (fun _ _ _ h => h) (Or.inl ⟨by rfl, ?_⟩) (by assumption) ?_
          case refine_2 => (intro w hSw; (try dsimp only at hSw); go_simp; try with_reducible rfl)
          simp only [Act.put, List.getElem_toArray, List.getElem_cons_zero, List.getElem_cons_succ, List.setIfInBounds_toArray, List.set_cons_zero, List.set_cons_succ]
          refine wpAnyH_done (by kernel_rfl) ?_ _
          refine NoPanic.normal ?_
          go_wp2_with fail
          go_meet
          exact ⟨_, _, _, _, _, rfl, rfl, rfl, hUP⟩
      · go_simp
        have ba : Below w14b.heap.size w14b (w14b.alloc (.cells #[.int .i64 0, .int .i64 0, .string ⟨#[]⟩, .int .i64 0, .bool false, .slice none 0 0, .slice none 0 0] 58)).drew := (bl_alloc (Below.refl _ _) _).drew
        have Z0 := (CBox.newZ w14b 58).keep (Below.refl _ _).drew
        have hRu : w14b.heap.size ≤ w14b.heap.size := Nat.le_refl _
        refine hK.out _ _ (LawU.keep hH14 ba) (fun hHeld => ?_)
        clear hK K
        have hu0 := ba
        refine wpAnyH_ready (rs := [1]) (by kernel_rfl) (by simp) ?_
        refine AllReadyH.cons rfl (fun K hK => ?_) AllReadyH.nil
        go_simp
        refine (toCell_any A x _ (HTw.out.keep hHeld.bel) (by omega) (by omega)).mono ?_
        rintro e v1 ⟨gc, gc', rfl, hoc, hv1⟩
        go_wp2_with fail
        have Z1 := Z0.keep hv1
        have hu1 := bl_trans hu0 hv1
        have hS1 := LawU.keep hHeld hv1
        refine hK.out _ _ hS1 (fun hHeld => ?_)
        clear hK K
        refine wpAnyH_ready (rs := [3]) (by kernel_rfl) (by simp) ?_
        refine AllReadyH.cons rfl (fun K hK => ?_) AllReadyH.nil
        go_simp
        refine (toChange_any y.1 y.2.1 y.2.2.1 y.2.2.2 _).mono ?_
        rintro e v2 ⟨rfl, hv2⟩
        go_wp2_with fail
        have hoc := hoc.keep hv2
        have Z2 := Z1.keep hv2
        have hu2 := bl_trans hu1 hv2
        have hS2 := LawU.keep hHeld hv2
        refine hK.out _ _ hS2 (fun hHeld => ?_)
        clear hK K
        refine wpAnyH_ready (rs := [4]) (by kernel_rfl) (by simp) ?_
        refine AllReadyH.cons rfl (fun K hK => ?_) AllReadyH.nil
        go_simp
        refine (hnl ▸ (hI ⟨some ⟨gc, 0, none⟩, A.n, A.n, some ⟨gc', 0, none⟩, A.n', A.n'⟩ x y _ hoc.nin (by simp only; omega) (by simp only; omega) hw hys hx)).mono ?_
        rintro e v3 ⟨Aw, al, ml, cl, rfl, how, _, hol, hap, hbl⟩
        go_wp2_with fail
        have Zc := Z2
        have Zl := Z2.keep hbl
        have hbc := hu2
        have hSl := LawU.keep hHeld hbl
        refine hK.out _ _ hSl (fun hHeld => ?_)
        clear hK K
        refine wpAnyH_take (i := 5) (v := ?_) rfl (by kernel_rfl) (by kernel_rfl) (by kernel_rfl) (fun _ _ _ h => h) (Or.inl ⟨by rfl, ?_⟩) (by assumption) ?_
        case refine_2 => (intro w hSw; (try dsimp only at hSw); go_simp; try with_reducible rfl)
        simp only [Act.put, List.getElem_toArray, List.getElem_cons_zero, List.getElem_cons_succ, List.setIfInBounds_toArray, List.set_cons_zero, List.set_cons_succ]
        refine wpAnyH_take (i := 6) (v := ?_) rfl (by kernel_rfl) (by kernel_rfl) (by kernel_rfl) (fun _ _ _ h => h) (Or.inl ⟨by rfl, ?_⟩) (by assumption) ?_
        case refine_2 => (intro w hSw; (try dsimp only at hSw); go_simp; try with_reducible rfl)
        simp only [Act.put, List.getElem_toArray, List.getElem_cons_zero, List.getElem_cons_succ, List.setIfInBounds_toArray, List.set_cons_zero, List.set_cons_succ]
        refine wpAnyH_take (i := 7) (v := ?_) rfl (by kernel_rfl) (by kernel_rfl) (by kernel_rfl) (fun _ _ _ h => h) (Or.inl ⟨by rfl, ?_⟩) (by assumption) ?_
        case refine_2 => (intro w hSw; (try dsimp only at hSw); go_simp; try with_reducible rfl)
        simp only [Act.put, List.getElem_toArray, List.getElem_cons_zero, List.getElem_cons_succ, List.setIfInBounds_toArray, List.set_cons_zero, List.set_cons_succ]
        refine wpAnyH_take (i := 8) (v := ?_) rfl (by kernel_rfl) (by kernel_rfl) (by kernel_rfl) (fun _ _ _ h => h) (Or.inl ⟨by rfl, ?_⟩) (by assumption) ?_
        case refine_2 => (intro w hSw; (try dsimp only at hSw); go_simp; try with_reducible rfl)
        simp only [Act.put, List.getElem_toArray, List.getElem_cons_zero, List.getElem_cons_succ, List.setIfInBounds_toArray, List.set_cons_zero, List.set_cons_succ]
        obtain ⟨kl, k0, k1, k2, k3, k4, k5, k6, kf⟩ := id Zl
        have hUP := UpR.first hbc how hol hap hbl hRu Zc.lt Zl
        have hSs : LawU w A x y w.heap.size A _ := LawU.keep hH14 hUP.below
        refine wpAnyH_ready (rs := [10]) (by kernel_rfl) (by simp) ?_
        refine AllReadyH.cons rfl (fun K hK => ?_) AllReadyH.nil
        go_simp
        refine hK.out _ _ hSs (fun hHeld => ?_)
        clear hK K
        refine wpAnyH_take (i := 11) (v := ?_) rfl (by kernel_rfl) (by kernel_rfl) (by kernel_rfl) (fun _ _ _ h => h) (Or.inl ⟨by rfl, ?_⟩) (by assumption) ?_
        case refine_2 => (intro w hSw; (try dsimp only at hSw); go_simp; try with_reducible rfl)
        simp only [Act.put, List.getElem_toArray, List.getElem_cons_zero, List.getElem_cons_succ, List.setIfInBounds_toArray, List.set_cons_zero, List.set_cons_succ]
        refine wpAnyH_take (i := 12) (v := ?_) rfl (by kernel_rfl) (by kernel_rfl) (by kernel_rfl) (fun _ _ _ h => h) (Or.inl ⟨by rfl, ?_⟩) (by assumption) ?_
        case refine_2 => (intro w hSw; (try dsimp only at hSw); go_simp; try with_reducible rfl)
        simp only [Act.put, List.getElem_toArray, List.getElem_cons_zero, List.getElem_cons_succ, List.setIfInBounds_toArray, List.set_cons_zero, List.set_cons_succ]
        refine wpAnyH_done (by kernel_rfl) ?_ _
        refine NoPanic.normal ?_
        go_wp2_with fail
        go_meet
        exact ⟨_, _, _, _, _, rfl, rfl, rfl, hUP⟩
    obtain ⟨R16, A16, al16, ml16, cl16, rfl, rfl, rfl, hU16⟩ := hcut
    obtain ⟨W17, rfl⟩ : ∃ W17, W17 = wc := ⟨_, rfl⟩
    have K17 := hU16.own
    have KL17 := hU16.told
    have k17 := hU16.box
    have b1617 := hU16.below
    have hn16 : A16.n ≤ 2097152 ∧ A16.n' ≤ 2097152 := by have h1 := K17.nin.ints.len; have h2 := K17.nin.grs.len; have h3 := HUl.out; have h4 := HLp.out; have h5 := HLq.out; omega
    have hml16 : ml16 ≤ 2097152 := by have h1 := KL17.ints.len; have h2 := HUl.out; have h3 := HLp.out; omega
    have S17 := bl_trans S14 b1617
    have G17 := G14.keep b1617
    have z17 := z14.keep b1617
    have L17 := L14.keep b1617
    clear hU16 hH14 L14
    obtain ⟨_, t0, t1, t2, t3, t4, t5, t6, _⟩ := id k17
    obtain ⟨_, u0, u1, u2, u3, u4, u5, u6, _⟩ := u3.keep S17
    clear S14 G14 z14 b1617 k17
    go_wp2_with fail
    refine (eqCell_same A16 Aw r.1 _ K17.nin (HW.keep S17) hn16.1 hn16.2 hnw.1 hnw.2).mono ?_
    rintro e w18 ⟨rfl, hb18⟩
    have S17b := bl_trans S17 hb18
    have KL18 := KL17.keep hb18
    go_wp2_with fail
    refine (eqIntS_any _ _ ml16 ml cl16 cl _ _ _ KL18.ints (HWl.keep S17b) hml16 hml).mono ?_
    rintro e w18b ⟨rfl, hb18b⟩
    rw [eqIL_self]
    replace hb18 := bl_trans hb18 hb18b
    clear S17b KL18 KL17 hb18b
    have L18 := L17.keep hb18
    clear L17
    have S18 := bl_trans S17 hb18
    have G18 := G17.keep hb18
    obtain ⟨_, v0, v1, v2, v3, v4, v5, v6, _⟩ := z17.keep hb18
    clear S17 G17 K17 hb18 z17 t0 t1 t2 t3 t4 t5 t6 u0 u1 u2 u3 u4 u5 u6
    go_wp2_with fail
    refine (heldCell_marks A6 r.1 1 _ G18.nin hn6.1 hn6.2 (by omega) (by omega)).mono ?_
    rintro e w19 ⟨rfl, hb19⟩
    have L19 := L18.keep hb19
    go_wp2_with fail
    refine (heldIntS_marks _ ml6 cl6 (1 + (A6.n : Int) + (A6.n' : Int)) _ L19.ints hml6 (by omega) (by omega)).mono ?_
    rintro e w20 ⟨rfl, rfl⟩
    clear L18 L19
    have hE := bl_trans B3 (bl_trans S18 hb19)
    clear S18 G18 hb19 HW HI3 B3 x3 u3
    go_wp2
    go_ret
    exact ⟨rfl, hE⟩
end Go.Proofs.Ytbhdjcggcgddfaa
