/-
  Walks of the specification's clocks: a timer is set.
-/
import Derived.Test.YtfahfbeemgigcaaSC3
import Derived.Test.YtfahfbeemgigcaaU7
namespace Go.Proofs.Ytfahfbeemgigcaa
open Go.RowKit Pl Il Th

/-- How far the list with the new timer in it has been built. -/
def InsR (x : Int × Int) (ts : List (Int × Int)) (k : Nat) (laid : Bool) (L : List (Int × Int)) : Prop :=
  (laid = false ∧ L = ts.take k ∧ insL x ts = ts.take k ++ insL x (ts.drop k)) ∨ (laid = true ∧ L ++ ts.drop k = insL x ts ∧ L.length = k + 1)
theorem InsR.len {x : Int × Int} {ts : List (Int × Int)} {k : Nat} {laid : Bool} {L : List (Int × Int)} (h : InsR x ts k laid L) (hk : k ≤ ts.length) : L.length ≤ k + 1 := by
  rcases h with ⟨_, rfl, _⟩ | ⟨_, _, h⟩
  · rw [List.length_take]; omega
  · omega
theorem InsR.before {x : Int × Int} {ts : List (Int × Int)} {k : Nat} {L : List (Int × Int)} (h : InsR x ts k false L) (hk : k < ts.length) (hx : x.1 < (tg ts k).1) : InsR x ts (k + 1) true (L ++ [x] ++ [tg ts k]) := by
  rcases h with ⟨_, rfl, h⟩ | ⟨h, _⟩
  · refine .inr ⟨rfl, ?_, by simp [List.length_take]; omega⟩
    rw [h, drop_tg hk, insL, if_pos hx]
    simp
  · cases h
theorem InsR.after {x : Int × Int} {ts : List (Int × Int)} {k : Nat} {L : List (Int × Int)} (h : InsR x ts k false L) (hk : k < ts.length) (hx : ¬ x.1 < (tg ts k).1) : InsR x ts (k + 1) false (L ++ [tg ts k]) := by
  rcases h with ⟨_, rfl, h⟩ | ⟨h, _⟩
  · refine .inl ⟨rfl, (take_tg hk).symm, ?_⟩
    rw [h, drop_tg hk, insL, if_neg hx, take_tg hk]
    simp
  · cases h
theorem InsR.laid {x : Int × Int} {ts : List (Int × Int)} {k : Nat} {L : List (Int × Int)} (h : InsR x ts k true L) (hk : k < ts.length) : InsR x ts (k + 1) true (L ++ [tg ts k]) := by
  rcases h with ⟨h, _⟩ | ⟨_, h, hl⟩
  · cases h
  · refine .inr ⟨rfl, ?_, by simp [hl]⟩
    rw [← h, drop_tg hk]
    simp
theorem InsR.done {x : Int × Int} {ts : List (Int × Int)} {k : Nat} {L : List (Int × Int)} (h : InsR x ts k true L) (hk : ts.length ≤ k) : L = insL x ts := by
  rcases h with ⟨h, _⟩ | ⟨_, h, _⟩
  · cases h
  · rw [← h, List.drop_eq_nil_of_le hk, List.append_nil]
theorem InsR.last {x : Int × Int} {ts : List (Int × Int)} {k : Nat} {L : List (Int × Int)} (h : InsR x ts k false L) (hk : ts.length ≤ k) : L ++ [x] = insL x ts := by
  rcases h with ⟨_, rfl, h⟩ | ⟨h, _⟩
  · rw [h, List.drop_eq_nil_of_le hk]; rfl
  · cases h

set_option maxRecDepth 100000 in
set_option maxHeartbeats 8000000 in
theorem specSet_any (now i tok : Int) (a : Option Addr) (n cap : Nat) (ts : List (Int × Int)) (w : World) (hI : TimAt w a n ts) (hn : n ≤ 2097152) :
    Calls Try.prog 18 #[.agg #[.int .i64 now, .slice a n cap], .int .i64 i, .int .i64 tok] w fun e w' => OutC w now (setT now ts i tok).1 [.int .i64 (setT now ts i tok).2] e w' := by
  have hctx := ctx_new (now := now) (cap := cap) hI
  have s1 : ((w.alloc (.cells #[.int .i64 now, .slice a n cap] 26)).alloc (.cells #[.int .i64 0, .slice none 0 0] 26)).heap.size = w.heap.size + 2 := by simp
  have hcp := l4Copy_any now a n cap ts _ (hctx.timX) hn
  rw [s1] at hcp
  have HCp := hidOf hcp
  have HX := hidOf hctx
  have S1 := hidOf s1
  have HLen := hidOf hI.len
  clear hcp hctx s1 hI
  go_enter Try.func18, Try.ntmps18
  go_wp2_with fail
  refine (HCp.out).mono ?_
  rintro e w2 ⟨a2, c2, rfl, ho2, hb2⟩
  have hC2 := HX.out.keep hb2 (Nat.le_refl _)
  generalize hW3 : w2.alloc (.cells #[.int .i64 now, .slice a2 n c2] 26) = W3
  have b3 : Below w2.heap.size w2 W3 := by subst hW3; exact bl_alloc (Below.refl _ _) _
  have xo : Box2 w2.heap.size (.int .i64 now) (.slice a2 n c2) W3 := by subst hW3; exact Box2.new w2 _ _ _
  have hC3 := hC2.keep b3 hC2.sz
  have ho3 := own_keepT ho2 b3
  have hlt2 := hC2.sz
  have hok := specClockOk_any now a n cap ts _ hC3.timX (by omega)
  have HOk := hidOf hok
  have HC3 := hidOf hC3
  have HO3 := hidOf ho3
  have HXo := hidOf xo
  obtain ⟨_, p0, p1, _⟩ := hC3.box0
  clear HCp HX ho2 hb2 hC2 b3 hC3 ho3 hok xo
  go_wp2_with fail
  refine (HOk.out).mono ?_
  rintro e w4 ⟨rfl, hb4⟩
  have hC4 := HC3.out.keep hb4 HC3.out.sz
  have ho4 := own_keepT HO3.out hb4
  have x4 := HXo.out.keep hb4
  obtain ⟨_, z0, z1, zf⟩ := id x4
  obtain ⟨_, r0, r1, rf⟩ := id hC4.box1
  obtain ⟨_, q0, q1, _⟩ := id hC4.box0
  have hbo : ((w4.setCell ⟨w.heap.size + 1, 0, none⟩ (.int .i64 now)).setCell ⟨w.heap.size + 1, 1, none⟩ (.slice a2 n c2)).ownsRow w.heap.size 36 2 (.slice a2 n c2) n (tflat ts) ∧ Below w.heap.size w ((w4.setCell ⟨w.heap.size + 1, 0, none⟩ (.int .i64 now)).setCell ⟨w.heap.size + 1, 1, none⟩ (.slice a2 n c2)) :=
    ⟨ownsRow_mono (own_farT (own_farT ho4 (w.heap.size + 1) 0 (by omega) _) (w.heap.size + 1) 1 (by omega) _) (by omega), (hC4.below.setCell (p := ⟨w.heap.size + 1, 0, none⟩) (by simp) _).setCell (p := ⟨w.heap.size + 1, 1, none⟩) (by simp) _⟩
  have HBO := hidOf hbo
  have HC4 := hidOf hC4
  have HX4 := hidOf x4
  clear HC3 HO3 HXo hb4 hC4 ho4 x4 hbo HOk p0 p1 hW3
  cases hok : okClock now ts
  · have hres : setT now ts i tok = (ts, 1) := by unfold setT; rw [if_neg (by rw [hok]; simp)]
    have HR := hidOf hres
    clear hres
    go_wp2
    refine bodyPost_ret (v := .tuple #[.agg #[.int .i64 now, .slice a2 n c2], .int .i64 1]) (by simp [results, Try.results18, go_sem, r0, r1]) rfl ?_
    rw [HR.out]
    exact outC (r := [.int .i64 1]) HBO.out.1 HBO.out.2
  · obtain ⟨hp0, hp1, hp2, hp3⟩ := ok_parts hok
    by_cases t1 : i < 1
    · have hres : setT now ts i tok = (ts, 1) := by unfold setT; rw [if_neg (by omega)]
      have HR := hidOf hres
      clear hres
      go_wp2
      refine bodyPost_ret (v := .tuple #[.agg #[.int .i64 now, .slice a2 n c2], .int .i64 1]) (by simp [results, Try.results18, go_sem, r0, r1]) rfl ?_
      rw [HR.out]
      exact outC (r := [.int .i64 1]) HBO.out.1 HBO.out.2
    · cases t2 : inB tok 0 23
      · have t2' := inB_false.1 t2
        have hres : setT now ts i tok = (ts, 1) := by unfold setT; rw [if_neg (by omega)]
        clear t2'
        go_wp2_with fail
        refine (l1In_any tok 0 23 _).mono ?_
        rintro e5 w5 ⟨rfl, rfl⟩
        rw [t2]
        have HR := hidOf hres
        clear hres
        go_wp2
        refine bodyPost_ret (v := .tuple #[.agg #[.int .i64 now, .slice a2 n c2], .int .i64 1]) (by simp [results, Try.results18, go_sem, r0, r1]) rfl ?_
        rw [HR.out]
        exact outC (r := [.int .i64 1]) HBO.out.1 HBO.out.2
      · have t2' := inB_true.1 t2
        go_wp2_with fail
        refine (l1In_any tok 0 23 _).mono ?_
        rintro e5 w5 ⟨rfl, rfl⟩
        rw [t2]
        by_cases t3 : 1000000000 - now < i
        · have hres : setT now ts i tok = (ts, 1) := by unfold setT; rw [if_neg (by omega)]
          clear t2' t2
          have HR := hidOf hres
          clear hres
          go_wp2
          refine bodyPost_ret (v := .tuple #[.agg #[.int .i64 now, .slice a2 n c2], .int .i64 1]) (by simp [results, Try.results18, go_sem, r0, r1]) rfl ?_
          rw [HR.out]
          exact outC (r := [.int .i64 1]) HBO.out.1 HBO.out.2
        · by_cases t4 : (40 : Int) ≤ (n : Int)
          · have hres : setT now ts i tok = (ts, 2) := by unfold setT; rw [if_pos ⟨hok, by omega, t2', by omega⟩, if_pos (by have := HLen.out; omega)]
            clear t2' t2
            have HR := hidOf hres
            clear hres
            go_wp2
            refine bodyPost_ret (v := .tuple #[.agg #[.int .i64 now, .slice a2 n c2], .int .i64 2]) (by simp [results, Try.results18, go_sem, r0, r1]) rfl ?_
            rw [HR.out]
            exact outC (r := [.int .i64 2]) HBO.out.1 HBO.out.2
          · have hres : setT now ts i tok = (insL (now + i, tok) ts, 0) := by unfold setT; rw [if_pos ⟨hok, by omega, t2', by omega⟩, if_neg (by have := HLen.out; omega)]
            have HR := hidOf hres
            clear hres t2' t2 hok
            -- the variable of the new timer, and an empty list
            generalize hW6 : w5.alloc (.cells #[.int .i64 (now + i), .int .i64 tok] 36) = W6
            have b6 : Below w5.heap.size w5 W6 := by subst hW6; exact bl_alloc (Below.refl _ _) _
            have s6 : W6.heap.size = w5.heap.size + 1 := by subst hW6; simp
            have vx : Box2 w5.heap.size (.int .i64 (now + i)) (.int .i64 tok) W6 := by subst hW6; exact Box2.new w5 _ _ _
            generalize hW7 : W6.alloc (.cells #[] 36) = W7
            have b7 : Below W6.heap.size W6 W7 := by subst hW7; exact bl_alloc (Below.refl _ _) _
            have hrow : W7.ownsRow W6.heap.size 36 2 (.slice (some ⟨W6.heap.size, 0, none⟩) 0 0) 0 (tflat []) := by subst hW7; exact World.ownsRow_made W6 #[] 0 (Nat.le_refl _) (by unfold maxLen; omega) (by simp)
            have hC7 := (HC4.out.keep b6 HC4.out.sz).keep b7 (by have := HC4.out.sz; omega)
            have x7 := (HX4.out.keep b6).keep b7
            have vx7 := vx.keep b7
            have hNO := HX4.out.lt
            have hR0 : OutR w now a n cap w2.heap.size W6.heap.size now (.slice (some ⟨W6.heap.size, 0, none⟩) 0 0) [] (W7.setCell ⟨w2.heap.size, 1, none⟩ (.slice (some ⟨W6.heap.size, 0, none⟩) 0 0)) :=
              ⟨hC7.box0.far _ _ (by omega) _, hC7.box1.far _ _ (by omega) _, x7.set1 _, own_farT hrow _ _ (by omega) _, hC7.below.setCell (p := ⟨w2.heap.size, 1, none⟩) (by simp only; omega) _, by omega, by omega, by simp; exact b7.size⟩
            have hV0 := vx7.far w2.heap.size 1 (by omega) (.slice (some ⟨W6.heap.size, 0, none⟩) 0 0)
            obtain ⟨_, u0, u1, uf⟩ := id x7
            have HR0 := hidOf hR0
            have S6 := hidOf s6
            have HV0 := hidOf hV0
            have hNX : w5.heap.size < W6.heap.size := by omega
            have hNe : w5.heap.size ≠ w2.heap.size := by omega
            have HTim := hidOf HC4.out.tim
            clear hC7 x7 vx7 hrow b6 b7 vx hR0 hV0 HC4 HX4 HBO z0 z1 zf r0 r1 rf s6
            go_wp2_with fail
            go_loopw [10, 11] (fun lv iv wr => ∃ (k : Nat) (laid : Bool) (v : Value) (L : List (Int × Int)), k ≤ n ∧ iv = .int .i64 k ∧ lv = .bool laid ∧ InsR (now + i, tok) ts k laid L ∧ OutR w now a n cap w2.heap.size W6.heap.size now v L wr ∧ Box2 w5.heap.size (.int .i64 (now + i)) (.int .i64 tok) wr) (fun _ iv _ => n - (intOf iv).toNat)
            case atStart => exact ⟨0, false, _, [], Nat.zero_le _, rfl, rfl, .inl ⟨rfl, rfl, rfl⟩, HR0.out, HV0.out⟩
            case round =>
              rename_i wr
              obtain ⟨k, laid, v, L, hk, rfl, rfl, hIns, hR, hV⟩ := hrel
              have HIns := hidOf hIns
              clear HR0 HV0 hIns u0 u1 uf
              by_cases hlt : k < n
              · obtain ⟨_, h' | ⟨b, off, e, hb, hcell⟩⟩ := HTim.out
                · omega
                subst e
                have c1 : wr.cell? ⟨b, off + k * 2, none⟩ = some (.int .i64 (tg ts k).1) := by rw [hR.below.cell (p := ⟨b, off + k * 2, none⟩) hb]; exact (hcell k hlt).1
                have c2 : wr.cell? ⟨b, off + k * 2 + 1, none⟩ = some (.int .i64 (tg ts k).2) := by rw [hR.below.cell (p := ⟨b, off + k * 2 + 1, none⟩) hb]; exact (hcell k hlt).2
                have hki : (0 : Int) ≤ (k : Int) ∧ (k : Int) < (n : Int) := by omega
                have hkl : k < ts.length := by rw [HLen.out]; exact hlt
                obtain ⟨y, hy⟩ : ∃ y, tg ts k = y := ⟨_, rfl⟩
                rw [hy] at c1 c2
                have HY := hidOf hy
                have HKL := hidOf hkl
                have hn40 : n ≤ 40 := by omega
                obtain ⟨_, e0, e1, _⟩ := id hR.box0
                obtain ⟨_, v0, v1, _⟩ := id hV
                have HRr := hidOf hR
                have HVr := hidOf hV
                clear hcell hy hR hV hkl
                by_cases hx : now + i < y.1
                · have HX := hidOf hx
                  cases laid
                  · go_wp2_with fail
                    have hx' : now + i < y.1 := HX.out
                    go_quiet (fail)
                    rename_i nq
                    have hRp := HRr.out.keep (bl_drewN (Below.refl wr.heap.size wr) nq)
                    have hVp := HVr.out.keep (bl_drewN (Below.refl wr.heap.size wr) nq)
                    have d1 : (wr.drewN nq).cell? ⟨b, off + k * 2, none⟩ = some (.int .i64 y.1) := c1
                    have d2 : (wr.drewN nq).cell? ⟨b, off + k * 2 + 1, none⟩ = some (.int .i64 y.2) := c2
                    generalize wr.drewN nq = Wp at *
                    obtain ⟨a7, c7, rfl⟩ := hRp.form
                    obtain ⟨g7, c7', w7, hr7, k7, f7, hR7, hB7⟩ := hRp.push (now + i, tok) (by have := HIns.out.len (by have := HKL.out; omega); omega)
                    have hV7 := (hB7 _ _ _ hVp hNX hNe).2
                    have hlb : b < w.heap.size := hb
                    obtain ⟨_, _, o7, _⟩ := id hRp.out
                    obtain ⟨_, vp0, vp1, _⟩ := id hVp
                    obtain ⟨mL0, hmL0⟩ : ∃ m, L.length = m := ⟨_, rfl⟩
                    rw [hmL0] at hr7 hR7 o7 hV7 k7
                    have dd1 : (w7.setCell ⟨w2.heap.size, 1, none⟩ (.slice (some ⟨g7, 0, none⟩) (mL0 + 1) c7')).cell? ⟨b, off + k * 2, none⟩ = some (.int .i64 y.1) := by
                      rw [hR7.below.cell (p := ⟨b, off + k * 2, none⟩) hb, ← hRp.below.cell (p := ⟨b, off + k * 2, none⟩) hb]; exact d1
                    have dd2 : (w7.setCell ⟨w2.heap.size, 1, none⟩ (.slice (some ⟨g7, 0, none⟩) (mL0 + 1) c7')).cell? ⟨b, off + k * 2 + 1, none⟩ = some (.int .i64 y.2) := by
                      rw [hR7.below.cell (p := ⟨b, off + k * 2 + 1, none⟩) hb, ← hRp.below.cell (p := ⟨b, off + k * 2 + 1, none⟩) hb]; exact d2
                    have Hr7 := hidOf hr7
                    have HR7 := hidOf hR7
                    have HV7 := hidOf hV7
                    have D1 := hidOf dd1
                    have D2 := hidOf dd2
                    have HmL0 := hidOf hmL0
                    clear hr7 hR7 hV7 hB7 hRp hVp d1 d2 dd1 dd2 hmL0 e0 e1 v0 v1 c1 c2 HRr HVr
                    go_wp2_with (at_builtin; refine wpList_append_run rfl _ _ 24 rfl _ _ _ rfl rfl Hr7.out ?_)
                    have hRq := HR7.out
                    have hVq := HV7.out
                    have d1 := D1.out
                    have d2 := D2.out
                    clear HR7 HV7 D1 D2 Hr7 k7 f7 o7 vp0 vp1
                    generalize w7.setCell ⟨w2.heap.size, 1, none⟩ (.slice (some ⟨g7, 0, none⟩) (mL0 + 1) c7') = Wq at *
                    have hmL : (L ++ [(now + i, tok)]).length = mL0 + 1 := by rw [List.length_append, HmL0.out]; rfl
                    skip
                    have hRd := hRq.keep (Below.refl Wq.heap.size Wq).drew
                    have hVd := hVq.keep (Below.refl Wq.heap.size Wq).drew
                    obtain ⟨g9, c9, w9, hr9, k9, f9, hR9, hB9⟩ := hRd.push y (by have := HIns.out.len (by have := HKL.out; omega); simp; omega)
                    have hV9 := (hB9 _ _ _ hVd hNX hNe).2
                    obtain ⟨_, _, e1, _⟩ := id hRq.box0
                    obtain ⟨_, _, o1, _⟩ := id hRq.out
                    have lt0 := hRq.box0.lt
                    have ltO := hRq.out.lt
                    have e1' : ∀ o, (Wq.alloc o).cell? ⟨w.heap.size, 1, none⟩ = some (.slice (some ⟨b, off, none⟩) n cap) := fun o => by rw [World.cell?_alloc_old _ _ _ (Nat.ne_of_lt lt0)]; exact e1
                    have o1' : ∀ o, (Wq.alloc o).cell? ⟨w2.heap.size, 1, none⟩ = some (.slice (some ⟨g7, 0, none⟩) (mL0 + 1) c7') := fun o => by rw [World.cell?_alloc_old _ _ _ (Nat.ne_of_lt ltO)]; first | exact o1 | (rw [← hmL]; exact o1)
                    have d1' : ∀ o, (Wq.alloc o).cell? ⟨b, off + k * 2, none⟩ = some (.int .i64 y.1) := fun o => by rw [World.cell?_alloc_old _ _ _ (Nat.ne_of_lt (World.block_lt_of_cell? Wq _ d1))]; exact d1
                    have d2' : ∀ o, (Wq.alloc o).cell? ⟨b, off + k * 2 + 1, none⟩ = some (.int .i64 y.2) := fun o => by rw [World.cell?_alloc_old _ _ _ (Nat.ne_of_lt (World.block_lt_of_cell? Wq _ d2))]; exact d2
                    rw [hmL] at hr9 hR9 hV9
                    have Hr9 := hidOf hr9
                    have HR9 := hidOf hR9
                    have HV9 := hidOf hV9
                    clear hRd hVd hr9 hR9 hB9 hV9 hRq hVq lt0 ltO hmL
                    go_wp2_with fail
                    go_region_law (refine sstep_append_run (by rfl) _ _ 24 (by rfl) (.slice (some ⟨g7, 0, none⟩) (mL0 + 1) c7') (.slice (some ⟨Wq.heap.size, 0, none⟩) 1 1) _ (by rfl) (by rfl) Hr9.out ?_)
                    all_goals
                      go_wp2
                      go_roundw
                      case rel => exact ⟨k + 1, true, _, _, by omega, by go_num, rfl, by rw [← HY.out]; exact HIns.out.before HKL.out (by rw [HY.out]; exact HX.out), HR9.out, HV9.out⟩
                      case measure => simp [intOf]; omega
                  · go_wp2_with fail
                    have hx' : now + i < y.1 := HX.out
                    go_quiet (fail)
                    rename_i nq
                    have hRq := HRr.out.keep (bl_drewN (Below.refl wr.heap.size wr) nq)
                    have hVq := HVr.out.keep (bl_drewN (Below.refl wr.heap.size wr) nq)
                    have d1 : (wr.drewN nq).cell? ⟨b, off + k * 2, none⟩ = some (.int .i64 y.1) := c1
                    have d2 : (wr.drewN nq).cell? ⟨b, off + k * 2 + 1, none⟩ = some (.int .i64 y.2) := c2
                    generalize wr.drewN nq = Wq at *
                    obtain ⟨mL, hmL⟩ : ∃ m, L.length = m := ⟨_, rfl⟩
                    obtain ⟨a8, c8, rfl⟩ := hRq.form
                    have hRd := hRq.keep (Below.refl Wq.heap.size Wq).drew
                    have hVd := hVq.keep (Below.refl Wq.heap.size Wq).drew
                    obtain ⟨g9, c9, w9, hr9, k9, f9, hR9, hB9⟩ := hRd.push y (by have := HIns.out.len (by have := HKL.out; omega); omega)
                    have hV9 := (hB9 _ _ _ hVd hNX hNe).2
                    obtain ⟨_, _, e1, _⟩ := id hRq.box0
                    obtain ⟨_, _, o1, _⟩ := id hRq.out
                    have lt0 := hRq.box0.lt
                    have ltO := hRq.out.lt
                    have e1' : ∀ o, (Wq.alloc o).cell? ⟨w.heap.size, 1, none⟩ = some (.slice (some ⟨b, off, none⟩) n cap) := fun o => by rw [World.cell?_alloc_old _ _ _ (Nat.ne_of_lt lt0)]; exact e1
                    have o1' : ∀ o, (Wq.alloc o).cell? ⟨w2.heap.size, 1, none⟩ = some (.slice a8 mL c8) := fun o => by rw [World.cell?_alloc_old _ _ _ (Nat.ne_of_lt ltO)]; first | exact o1 | (rw [← hmL]; exact o1)
                    have d1' : ∀ o, (Wq.alloc o).cell? ⟨b, off + k * 2, none⟩ = some (.int .i64 y.1) := fun o => by rw [World.cell?_alloc_old _ _ _ (Nat.ne_of_lt (World.block_lt_of_cell? Wq _ d1))]; exact d1
                    have d2' : ∀ o, (Wq.alloc o).cell? ⟨b, off + k * 2 + 1, none⟩ = some (.int .i64 y.2) := fun o => by rw [World.cell?_alloc_old _ _ _ (Nat.ne_of_lt (World.block_lt_of_cell? Wq _ d2))]; exact d2
                    rw [hmL] at hr9 hR9 o1 hV9 k9
                    have Hr9 := hidOf hr9
                    have HR9 := hidOf hR9
                    have HV9 := hidOf hV9
                    clear hRd hVd hr9 hR9 hB9 hV9 hRq hVq lt0 ltO hmL
                    go_wp2_with fail
                    go_region_law (refine sstep_append_run (by rfl) _ _ 24 (by rfl) (.slice a8 mL c8) (.slice (some ⟨Wq.heap.size, 0, none⟩) 1 1) _ (by rfl) (by rfl) Hr9.out ?_)
                    all_goals
                      go_wp2
                      go_roundw
                      case rel => exact ⟨k + 1, true, _, _, by omega, by go_num, rfl, by rw [← HY.out]; exact HIns.out.laid HKL.out, HR9.out, HV9.out⟩
                      case measure => simp [intOf]; omega
                · have HX := hidOf hx
                  cases laid
                  · go_wp2_with fail
                    have hx' : ¬ now + i < y.1 := (by have := HX.out; omega)
                    go_quiet (fail)
                    rename_i nq
                    have hRq := HRr.out.keep (bl_drewN (Below.refl wr.heap.size wr) nq)
                    have hVq := HVr.out.keep (bl_drewN (Below.refl wr.heap.size wr) nq)
                    have d1 : (wr.drewN nq).cell? ⟨b, off + k * 2, none⟩ = some (.int .i64 y.1) := c1
                    have d2 : (wr.drewN nq).cell? ⟨b, off + k * 2 + 1, none⟩ = some (.int .i64 y.2) := c2
                    generalize wr.drewN nq = Wq at *
                    obtain ⟨mL, hmL⟩ : ∃ m, L.length = m := ⟨_, rfl⟩
                    obtain ⟨a8, c8, rfl⟩ := hRq.form
                    have hRd := hRq.keep (Below.refl Wq.heap.size Wq).drew
                    have hVd := hVq.keep (Below.refl Wq.heap.size Wq).drew
                    obtain ⟨g9, c9, w9, hr9, k9, f9, hR9, hB9⟩ := hRd.push y (by have := HIns.out.len (by have := HKL.out; omega); omega)
                    have hV9 := (hB9 _ _ _ hVd hNX hNe).2
                    obtain ⟨_, _, e1, _⟩ := id hRq.box0
                    obtain ⟨_, _, o1, _⟩ := id hRq.out
                    have lt0 := hRq.box0.lt
                    have ltO := hRq.out.lt
                    have e1' : ∀ o, (Wq.alloc o).cell? ⟨w.heap.size, 1, none⟩ = some (.slice (some ⟨b, off, none⟩) n cap) := fun o => by rw [World.cell?_alloc_old _ _ _ (Nat.ne_of_lt lt0)]; exact e1
                    have o1' : ∀ o, (Wq.alloc o).cell? ⟨w2.heap.size, 1, none⟩ = some (.slice a8 mL c8) := fun o => by rw [World.cell?_alloc_old _ _ _ (Nat.ne_of_lt ltO)]; first | exact o1 | (rw [← hmL]; exact o1)
                    have d1' : ∀ o, (Wq.alloc o).cell? ⟨b, off + k * 2, none⟩ = some (.int .i64 y.1) := fun o => by rw [World.cell?_alloc_old _ _ _ (Nat.ne_of_lt (World.block_lt_of_cell? Wq _ d1))]; exact d1
                    have d2' : ∀ o, (Wq.alloc o).cell? ⟨b, off + k * 2 + 1, none⟩ = some (.int .i64 y.2) := fun o => by rw [World.cell?_alloc_old _ _ _ (Nat.ne_of_lt (World.block_lt_of_cell? Wq _ d2))]; exact d2
                    rw [hmL] at hr9 hR9 o1 hV9 k9
                    have Hr9 := hidOf hr9
                    have HR9 := hidOf hR9
                    have HV9 := hidOf hV9
                    clear hRd hVd hr9 hR9 hB9 hV9 hRq hVq lt0 ltO hmL
                    go_wp2_with fail
                    go_region_law (refine sstep_append_run (by rfl) _ _ 24 (by rfl) (.slice a8 mL c8) (.slice (some ⟨Wq.heap.size, 0, none⟩) 1 1) _ (by rfl) (by rfl) Hr9.out ?_)
                    all_goals
                      go_wp2
                      go_roundw
                      case rel => exact ⟨k + 1, false, _, _, by omega, by go_num, rfl, by rw [← HY.out]; exact HIns.out.after HKL.out (by rw [HY.out]; have := HX.out; simp only; omega), HR9.out, HV9.out⟩
                      case measure => simp [intOf]; omega
                  · go_wp2_with fail
                    have hx' : ¬ now + i < y.1 := (by have := HX.out; omega)
                    go_quiet (fail)
                    rename_i nq
                    have hRq := HRr.out.keep (bl_drewN (Below.refl wr.heap.size wr) nq)
                    have hVq := HVr.out.keep (bl_drewN (Below.refl wr.heap.size wr) nq)
                    have d1 : (wr.drewN nq).cell? ⟨b, off + k * 2, none⟩ = some (.int .i64 y.1) := c1
                    have d2 : (wr.drewN nq).cell? ⟨b, off + k * 2 + 1, none⟩ = some (.int .i64 y.2) := c2
                    generalize wr.drewN nq = Wq at *
                    obtain ⟨mL, hmL⟩ : ∃ m, L.length = m := ⟨_, rfl⟩
                    obtain ⟨a8, c8, rfl⟩ := hRq.form
                    have hRd := hRq.keep (Below.refl Wq.heap.size Wq).drew
                    have hVd := hVq.keep (Below.refl Wq.heap.size Wq).drew
                    obtain ⟨g9, c9, w9, hr9, k9, f9, hR9, hB9⟩ := hRd.push y (by have := HIns.out.len (by have := HKL.out; omega); omega)
                    have hV9 := (hB9 _ _ _ hVd hNX hNe).2
                    obtain ⟨_, _, e1, _⟩ := id hRq.box0
                    obtain ⟨_, _, o1, _⟩ := id hRq.out
                    have lt0 := hRq.box0.lt
                    have ltO := hRq.out.lt
                    have e1' : ∀ o, (Wq.alloc o).cell? ⟨w.heap.size, 1, none⟩ = some (.slice (some ⟨b, off, none⟩) n cap) := fun o => by rw [World.cell?_alloc_old _ _ _ (Nat.ne_of_lt lt0)]; exact e1
                    have o1' : ∀ o, (Wq.alloc o).cell? ⟨w2.heap.size, 1, none⟩ = some (.slice a8 mL c8) := fun o => by rw [World.cell?_alloc_old _ _ _ (Nat.ne_of_lt ltO)]; first | exact o1 | (rw [← hmL]; exact o1)
                    have d1' : ∀ o, (Wq.alloc o).cell? ⟨b, off + k * 2, none⟩ = some (.int .i64 y.1) := fun o => by rw [World.cell?_alloc_old _ _ _ (Nat.ne_of_lt (World.block_lt_of_cell? Wq _ d1))]; exact d1
                    have d2' : ∀ o, (Wq.alloc o).cell? ⟨b, off + k * 2 + 1, none⟩ = some (.int .i64 y.2) := fun o => by rw [World.cell?_alloc_old _ _ _ (Nat.ne_of_lt (World.block_lt_of_cell? Wq _ d2))]; exact d2
                    rw [hmL] at hr9 hR9 o1 hV9 k9
                    have Hr9 := hidOf hr9
                    have HR9 := hidOf hR9
                    have HV9 := hidOf hV9
                    clear hRd hVd hr9 hR9 hB9 hV9 hRq hVq lt0 ltO hmL
                    go_wp2_with fail
                    go_region_law (refine sstep_append_run (by rfl) _ _ 24 (by rfl) (.slice a8 mL c8) (.slice (some ⟨Wq.heap.size, 0, none⟩) 1 1) _ (by rfl) (by rfl) Hr9.out ?_)
                    all_goals
                      go_wp2
                      go_roundw
                      case rel => exact ⟨k + 1, true, _, _, by omega, by go_num, rfl, by rw [← HY.out]; exact HIns.out.laid HKL.out, HR9.out, HV9.out⟩
                      case measure => simp [intOf]; omega
              · have hki : ¬ (k : Int) < (n : Int) := by omega
                obtain ⟨_, e0, e1, _⟩ := id hR.box0
                obtain ⟨_, r0, r1, rf⟩ := id hR.box1
                obtain ⟨_, o0, o1, _⟩ := id hR.out
                have hkl : ts.length ≤ k := by rw [HLen.out]; omega
                cases laid
                · obtain ⟨a7, c7, rfl⟩ := hR.form
                  obtain ⟨g7, c7', w7, hr7, k7, f7, hR7, hB7⟩ := hR.push (now + i, tok) (by have := HIns.out.len (by have := HLen.out; omega); omega)
                  rw [HIns.out.last hkl] at hR7
                  obtain ⟨_, v0, v1, _⟩ := id hV
                  obtain ⟨mL0, hmL0⟩ : ∃ m, L.length = m := ⟨_, rfl⟩
                  have hlast : (insL (now + i, tok) ts).length = mL0 + 1 := by rw [← HIns.out.last hkl, List.length_append, hmL0]; rfl
                  rw [hmL0] at hr7 hR7 o1 k7
                  obtain ⟨_, s0, s1, sf⟩ := id hR7.box1
                  obtain ⟨_, oo0, oo1, _⟩ := id hR7.out
                  have hfin := hR7.fin (.int .i64 now) (.slice (some ⟨g7, 0, none⟩) (mL0 + 1) c7')
                  rw [hlast] at hfin
                  have HFin := hidOf hfin
                  have Hr7 := hidOf hr7
                  clear hr7 hR7 hB7 hfin hR hV hlast hmL0 r0 r1 rf
                  go_wp2_with (at_builtin; refine wpList_append_run rfl _ _ 24 rfl _ _ _ rfl rfl Hr7.out ?_)
                  go_wp2
                  refine bodyPost_ret (v := .tuple #[.agg #[.int .i64 now, .slice (some ⟨g7, 0, none⟩) (mL0 + 1) c7'], .int .i64 0]) (by simp [results, Try.results18, go_sem, s0, s1]) rfl ?_
                  rw [HR.out]
                  exact outC (r := [.int .i64 0]) HFin.out.1 HFin.out.2
                · have hL := HIns.out.done hkl
                  subst hL
                  obtain ⟨a7, c7, rfl⟩ := hR.form
                  have hfin := hR.fin (.int .i64 now) (.slice a7 (insL (now + i, tok) ts).length c7)
                  have HFin := hidOf hfin
                  generalize hmm : (insL (now + i, tok) ts).length = mm at *
                  clear hR hV hfin hmm
                  go_wp2
                  refine bodyPost_ret (v := .tuple #[.agg #[.int .i64 now, .slice a7 mm c7], .int .i64 0]) (by simp [results, Try.results18, go_sem, r0, r1]) rfl ?_
                  rw [HR.out]
                  exact outC (r := [.int .i64 0]) HFin.out.1 HFin.out.2
end Go.Proofs.Ytfahfbeemgigcaa
