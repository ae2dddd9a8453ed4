/-
  Walks of the specification's clocks: a clock is advanced.
-/
import Derived.Test.YtfahfbeemgigcaaSC3
import Derived.Test.YtfahfbeemgigcaaU8
namespace Go.Proofs.Ytfahfbeemgigcaa
open Go.RowKit Pl Il Th

theorem filt_take {q : Int × Int → Bool} {ts : List (Int × Int)} {k : Nat} (hk : k < ts.length) : (ts.take (k + 1)).filter q = if q (tg ts k) = true then (ts.take k).filter q ++ [tg ts k] else (ts.take k).filter q := by
  rw [take_tg hk, List.filter_append]
  by_cases h : q (tg ts k) = true
  · rw [if_pos h]; simp [h]
  · rw [if_neg h]; simp [h]
theorem filt_len {q : Int × Int → Bool} (ts : List (Int × Int)) (k : Nat) : ((ts.take k).filter q).length ≤ k := by
  have := List.length_filter_le q (ts.take k)
  rw [List.length_take] at this
  omega
/-- The variable of a clock, and a list of tokens that is being built beside it. -/
structure AdvS (w : World) (now : Int) (a : Option Addr) (n cap NO : Nat) (t : Int) (v : Value) (L : List (Int × Int)) (gv : Value) (G : List Int) (wr : World) : Prop where
  out : OutR w now a n cap NO (NO + 1) t v L wr
  told : wr.ownsRow (NO + 1) 3 1 gv G.length (G.map (Value.int .i64))
section
variable {w : World} {now : Int} {a : Option Addr} {n cap NO : Nat} {t : Int} {v gv : Value} {L : List (Int × Int)} {G : List Int} {wr u : World}
theorem AdvS.keep (h : AdvS w now a n cap NO t v L gv G wr) (hb : Below wr.heap.size wr u) : AdvS w now a n cap NO t v L gv G u := ⟨h.out.keep hb, own_keepI h.told hb⟩
theorem AdvS.push (h : AdvS w now a n cap NO t v L gv G wr) (y : Int × Int) (hs : L.length + 1 ≤ 2097152) : ∃ (g c : Nat) (w1 : World),
    (Builtin.append_ #[24, 24] 24 #[v, .slice (some ⟨wr.heap.size, 0, none⟩) 1 1]).run Try.prog (wr.alloc (.cells #[.int .i64 y.1, .int .i64 y.2] 36)) = .ok (.slice (some ⟨g, 0, none⟩) (L.length + 1) c) w1 ∧
    w1.cell? ⟨NO, 1, none⟩ = some v ∧ (∀ o, w1.frozen? ⟨NO, o, none⟩ = false) ∧
    AdvS w now a n cap NO t (.slice (some ⟨g, 0, none⟩) (L.length + 1) c) (L ++ [y]) gv G (w1.setCell ⟨NO, 1, none⟩ (.slice (some ⟨g, 0, none⟩) (L.length + 1) c)) := by
  obtain ⟨hR, hT⟩ := h
  obtain ⟨g, c, w1, hr, ho, hg⟩ := append_s (NO + 1) v L y wr hR.row hR.le hs
  have hl := hR.lt0
  have hO := hR.ltO
  have key : ∀ N, N < NO + 1 → some N ≠ v.ownBlock := fun N hN e => by have := (hR.row.lt N e.symm).1; omega
  have o1 := hR.out.grow hg (key _ hO)
  have hx := fun N v0 v1 (hb : Box2 N v0 v1 wr) (hN : N < NO + 1) => hb.grow hg (key N hN)
  refine ⟨g, c, w1, hr, o1.c1, o1.fr, ⟨⟨(hx _ _ _ hR.box0 (by omega)).far NO 1 (by omega) _, (hx _ _ _ hR.box1 (by omega)).far NO 1 (by omega) _, o1.set1 _, own_farT ho NO 1 hO _, ?_, hR.lt0, hR.ltO, by simp; exact Nat.le_trans hR.le hg.size⟩, ?_⟩⟩
  · exact (hR.below.grown hg hR.below.size (fun k hk => by have := (hR.row.lt k hk).1; omega)).setCell (p := ⟨NO, 1, none⟩) (by simp only; omega) _
  · have h2 := own_aside hT hR.row (by decide) hg
    refine h2.kept (row := some NO) ⟨rfl, rfl, rfl, by simp, fun k _ hk => Below.heap_setCell _ _ _ _ (by rintro rfl; exact hk rfl)⟩ ?_
    cases e : gv.ownBlock with
    | none => exact .inl rfl
    | some q => exact .inr (fun e' => by cases e'; have := (h2.lt _ e).1; omega)
theorem AdvS.tell (h : AdvS w now a n cap NO t v L gv G wr) (x : Int) (hs : G.length + 1 ≤ 4194304) : ∃ (g c : Nat) (w1 : World),
    (Builtin.append_ #[29, 29] 29 #[gv, .slice (some ⟨wr.heap.size, 0, none⟩) 1 1]).run Try.prog (wr.alloc (.cells #[.int .i64 x] 3)) = .ok (.slice (some ⟨g, 0, none⟩) (G.length + 1) c) w1 ∧
    AdvS w now a n cap NO t v L (.slice (some ⟨g, 0, none⟩) (G.length + 1) c) (G ++ [x]) w1 := by
  obtain ⟨hR, hT⟩ := h
  obtain ⟨g, c, w1, hr, ho, hg, _⟩ := append_own1 (NO + 1) G.length gv G x wr hT hR.le hs
  have hl := hR.lt0
  have hO := hR.ltO
  have key : ∀ N, N < NO + 1 → some N ≠ gv.ownBlock := fun N hN e => by have := (hT.lt N e.symm).1; omega
  have hx := fun N v0 v1 (hb : Box2 N v0 v1 wr) (hN : N < NO + 1) => hb.grow hg (key N hN)
  refine ⟨g, c, w1, hr, ⟨⟨hx _ _ _ hR.box0 (by omega), hx _ _ _ hR.box1 (by omega), hx _ _ _ hR.out hO, own_aside hR.row hT (by decide) hg, ?_, hR.lt0, hR.ltO, Nat.le_trans hR.le hg.size⟩, ?_⟩⟩
  · exact hR.below.grown hg hR.below.size (fun k hk => by have := (hT.lt k hk).1; omega)
  · rw [List.length_append]; exact ho
theorem AdvS.tform (h : AdvS w now a n cap NO t v L gv G wr) : ∃ a' c', gv = .slice a' G.length c' := by
  obtain ⟨a', c', e, _⟩ := own_of h.told G rfl
  exact ⟨a', c', e⟩
/-- Both are handed back. -/
theorem AdvS.fin {a1 : Option Addr} {c1 : Nat} {a2 : Option Addr} {c2 : Nat} (h : AdvS w now a n cap NO t (.slice a1 L.length c1) L (.slice a2 G.length c2) G wr) :
    OutAx w t L G 0 (.returned (.tuple #[.agg #[.int .i64 t, .slice a1 L.length c1], .slice a2 G.length c2, .int .i64 0])) ((wr.setCell ⟨w.heap.size + 1, 0, none⟩ (.int .i64 t)).setCell ⟨w.heap.size + 1, 1, none⟩ (.slice a1 L.length c1)) := by
  obtain ⟨hf, hb⟩ := h.out.fin (.int .i64 t) (.slice a1 L.length c1)
  obtain ⟨ax, cx, ex, _, hOx⟩ := ownT_of hf L rfl
  cases ex
  obtain ⟨ay, cy, ey, hOy⟩ := own_of h.told G rfl
  cases ey
  have hl := h.out.lt0
  have hOy2 := (hOy.far (w.heap.size + 1) 0 (by omega) (.int .i64 t)).far (w.heap.size + 1) 1 (by omega) (.slice a1 L.length c1)
  refine ⟨_, _, _, _, _, _, ⟨rfl, hOx, hOy2.mono (by omega), ?_, hb⟩⟩
  obtain ⟨_, ⟨e8, _⟩ | ⟨g8, _, _, e8, _, hg8, _⟩⟩ := h.out.row
  · injection e8 with e8 _ _; subst e8; exact .inr (.inr fun b off b' off' e => by cases e)
  · injection e8 with e8 _ _; subst e8
    obtain ⟨_, ⟨e9, _⟩ | ⟨g9, _, _, e9, _, hg9, _⟩⟩ := h.told
    · injection e9 with e9 _ _; subst e9; exact .inr (.inr fun b off b' off' _ e => by cases e)
    · injection e9 with e9 _ _; subst e9
      refine .inr (.inr fun b off b' off' e e' => ?_)
      cases e
      cases e'
      rintro rfl
      rw [hg8] at hg9
      simp at hg9
end

set_option maxRecDepth 100000 in
set_option maxHeartbeats 8000000 in
theorem specAdv_any (now d : Int) (a : Option Addr) (n cap : Nat) (ts : List (Int × Int)) (w : World) (hI : TimAt w a n ts) (hn : n ≤ 2097152) :
    Calls Try.prog 12 #[.agg #[.int .i64 now, .slice a n cap], .int .i64 d] w fun e w' => OutAx w (advT now ts d).1 (advT now ts d).2.1 (advT now ts d).2.2.1 (advT now ts d).2.2.2 e w' := by
  have hctx := ctx_new (now := now) (cap := cap) hI
  have hok := specClockOk_any now a n cap ts _ hctx.timX (by omega)
  have HOk := hidOf hok
  have HX := hidOf hctx
  have HLen := hidOf hI.len
  have HTim := hidOf hI
  clear hok hctx hI
  go_enter Try.func12, Try.ntmps12
  go_wp2_with fail
  refine (HOk.out).mono ?_
  rintro e w2 ⟨rfl, hb2⟩
  have hC2 := HX.out.keep hb2 HX.out.sz
  have HC2 := hidOf hC2
  obtain ⟨_, q0, q1, _⟩ := id hC2.box0
  clear HX HOk hb2 hC2
  cases hok : okClock now ts
  · have hres : advT now ts d = (now, ts, [], 1) := by unfold advT; rw [if_neg (by rw [hok]; simp)]
    have HR := hidOf hres
    clear hres
    go_wp2_with fail
    refine (l4Copy_any now a n cap ts _ HC2.out.timX hn).mono ?_
    rintro e9 w9 ⟨a9, c9, rfl, ho9, hb9⟩
    obtain ⟨_, r0, r1, rf⟩ := HC2.out.box1.keep hb9
    obtain ⟨ho10, hb10⟩ := HC2.out.fin (.int .i64 now) (.slice a9 n c9) ho9 hb9
    have HO := hidOf ho10
    have HBl := hidOf hb10
    clear ho9 hb9 ho10 hb10 q0 q1
    go_wp2
    refine bodyPost_ret (v := .tuple #[.agg #[.int .i64 now, .slice a9 n c9], .slice none 0 0, .int .i64 1]) (by simp [results, Try.results12, go_sem, r0, r1]) rfl ?_
    rw [HR.out]
    exact outA_bad HO.out HBl.out
  · obtain ⟨hp0, hp1, hp2, hp3⟩ := ok_parts hok
    by_cases t1 : d < 0
    · have hres : advT now ts d = (now, ts, [], 1) := by unfold advT; rw [if_neg (by omega)]
      have HR := hidOf hres
      clear hres
      go_wp2_with fail
      refine (l4Copy_any now a n cap ts _ HC2.out.timX hn).mono ?_
      rintro e9 w9 ⟨a9, c9, rfl, ho9, hb9⟩
      obtain ⟨_, r0, r1, rf⟩ := HC2.out.box1.keep hb9
      obtain ⟨ho10, hb10⟩ := HC2.out.fin (.int .i64 now) (.slice a9 n c9) ho9 hb9
      have HO := hidOf ho10
      have HBl := hidOf hb10
      clear ho9 hb9 ho10 hb10 q0 q1
      go_wp2
      refine bodyPost_ret (v := .tuple #[.agg #[.int .i64 now, .slice a9 n c9], .slice none 0 0, .int .i64 1]) (by simp [results, Try.results12, go_sem, r0, r1]) rfl ?_
      rw [HR.out]
      exact outA_bad HO.out HBl.out
    · by_cases t2 : 1000000000 - now < d
      · have hres : advT now ts d = (now, ts, [], 1) := by unfold advT; rw [if_neg (by omega)]
        have HR := hidOf hres
        clear hres
        go_wp2_with fail
        refine (l4Copy_any now a n cap ts _ HC2.out.timX hn).mono ?_
        rintro e9 w9 ⟨a9, c9, rfl, ho9, hb9⟩
        obtain ⟨_, r0, r1, rf⟩ := HC2.out.box1.keep hb9
        obtain ⟨ho10, hb10⟩ := HC2.out.fin (.int .i64 now) (.slice a9 n c9) ho9 hb9
        have HO := hidOf ho10
        have HBl := hidOf hb10
        clear ho9 hb9 ho10 hb10 q0 q1
        go_wp2
        refine bodyPost_ret (v := .tuple #[.agg #[.int .i64 now, .slice a9 n c9], .slice none 0 0, .int .i64 1]) (by simp [results, Try.results12, go_sem, r0, r1]) rfl ?_
        rw [HR.out]
        exact outA_bad HO.out HBl.out
      · have hres : advT now ts d = (now + d, laterL (now + d) ts, (dueL (now + d) ts).map Prod.snd, 0) := by unfold advT; rw [if_pos ⟨hok, by omega, by omega⟩]
        have HR := hidOf hres
        clear hres hok
        generalize hW3 : w2.alloc (.cells #[.int .i64 (now + d), .slice none 0 0] 26) = W3
        generalize hW4 : W3.alloc (.cells #[] 3) = W4
        have b3 : Below w2.heap.size w2 W3 := by subst hW3; exact bl_alloc (Below.refl _ _) _
        have s3 : W3.heap.size = w2.heap.size + 1 := by subst hW3; simp
        have b4 : Below W3.heap.size W3 W4 := by subst hW4; exact bl_alloc (Below.refl _ _) _
        have s4 : W4.heap.size = w2.heap.size + 2 := by subst hW4; simp [s3]
        have xo : Box2 w2.heap.size (.int .i64 (now + d)) (.slice none 0 0) W3 := by subst hW3; exact Box2.new w2 _ _ _
        have hC4 := (HC2.out.keep b3 HC2.out.sz).keep b4 (by have := HC2.out.sz; omega)
        have hrow : W4.ownsRow (w2.heap.size + 1) 3 1 (.slice (some ⟨w2.heap.size + 1, 0, none⟩) 0 0) 0 [] := by
          subst hW4
          rw [← s3]
          exact World.ownsRow_made W3 #[] 0 (Nat.le_refl _) (by unfold maxLen; omega) (by simp)
        have hsz := HC2.out.sz
        have hR0 : AdvS w now a n cap w2.heap.size (now + d) (.slice none 0 0) [] (.slice (some ⟨w2.heap.size + 1, 0, none⟩) 0 0) [] W4 := ⟨⟨hC4.box0, hC4.box1, xo.keep b4, World.ownsRow_nil _ _ _ _, hC4.below, by omega, by omega, by omega⟩, hrow⟩
        have HR0 := hidOf hR0
        have hn40 : n ≤ 40 := by have := HLen.out; omega
        clear b3 s3 b4 s4 xo hC4 hR0 HC2 hrow
        subst hW4 hW3
        go_wp2_with fail
        go_loopw [8, 9] (fun gv iv wr => ∃ (k m : Nat) (v : Value) (ga : Option Addr) (gc : Nat), k ≤ n ∧ iv = .int .i64 k ∧ gv = .slice ga m gc ∧ (((ts.take k).filter (fun p => decide (p.1 ≤ now + d))).map Prod.snd).length = m ∧ AdvS w now a n cap w2.heap.size (now + d) v ((ts.take k).filter (fun p => !decide (p.1 ≤ now + d))) (.slice ga m gc) (((ts.take k).filter (fun p => decide (p.1 ≤ now + d))).map Prod.snd) wr) (fun _ iv _ => n - (intOf iv).toNat)
        case atStart => exact ⟨0, 0, _, _, _, Nat.zero_le _, rfl, rfl, rfl, HR0.out⟩
        case round =>
          rename_i wr
          obtain ⟨k, m, v, ga, gc, hk, rfl, rfl, hgm, hR⟩ := hrel
          clear HR0
          have HGm := hidOf hgm
          clear hgm
          by_cases hlt : k < n
          · obtain ⟨_, h' | ⟨b, off, e, hb, hcell⟩⟩ := HTim.out
            · omega
            subst e
            have d1 : wr.cell? ⟨b, off + k * 2, none⟩ = some (.int .i64 (tg ts k).1) := by rw [hR.out.below.cell (p := ⟨b, off + k * 2, none⟩) hb]; exact (hcell k hlt).1
            have d2 : wr.cell? ⟨b, off + k * 2 + 1, none⟩ = some (.int .i64 (tg ts k).2) := by rw [hR.out.below.cell (p := ⟨b, off + k * 2 + 1, none⟩) hb]; exact (hcell k hlt).2
            have hki : (0 : Int) ≤ (k : Int) ∧ (k : Int) < (n : Int) := by omega
            have hkl : k < ts.length := by rw [HLen.out]; exact hlt
            have hstep := filt_take (q := fun p => !decide (p.1 ≤ now + d)) hkl
            have hstep2 := filt_take (q := fun p => decide (p.1 ≤ now + d)) hkl
            have hfl := filt_len (q := fun p => !decide (p.1 ≤ now + d)) ts k
            have hfl2 := filt_len (q := fun p => decide (p.1 ≤ now + d)) ts k
            obtain ⟨y, hy⟩ : ∃ y, tg ts k = y := ⟨_, rfl⟩
            rw [hy] at d1 d2 hstep hstep2
            have HStep := hidOf hstep
            have HStep2 := hidOf hstep2
            obtain ⟨_, e0, e1, _⟩ := id hR.out.box0
            obtain ⟨_, o0, o1, _⟩ := id hR.out.out
            obtain ⟨L, hLe⟩ : ∃ L, (ts.take k).filter (fun p => !decide (p.1 ≤ now + d)) = L := ⟨_, rfl⟩
            obtain ⟨G, hGe⟩ : ∃ G, ((ts.take k).filter (fun p => decide (p.1 ≤ now + d))).map Prod.snd = G := ⟨_, rfl⟩
            have hGl : G.length ≤ k := by rw [← hGe, List.length_map]; exact hfl2
            rw [hLe] at hR hfl HStep
            rw [hGe] at hR HGm
            have HGe := hidOf hGe
            have HRr := hidOf hR
            clear hcell hy hkl hstep hstep2 hLe hGe hfl2 hR
            by_cases ht : y.1 ≤ now + d
            · have hL : (ts.take (k + 1)).filter (fun p => !decide (p.1 ≤ now + d)) = L := by rw [HStep.out, if_neg (by simp [ht])]
              have hG : ((ts.take (k + 1)).filter (fun p => decide (p.1 ≤ now + d))).map Prod.snd = G ++ [y.2] := by rw [HStep2.out, if_pos (by simp [ht]), List.map_append, HGe.out]; rfl
              have HL := hidOf hL
              have HG := hidOf hG
              have HTt := hidOf ht
              clear hL hG HStep HStep2
              go_wp2_with fail
              have ht' : y.1 ≤ now + d := HTt.out
              go_quiet (fail)
              rename_i nq
              have hRq := HRr.out.keep (bl_drewN (Below.refl wr.heap.size wr) nq)
              have dd2 : (wr.drewN nq).cell? ⟨b, off + k * 2 + 1, none⟩ = some (.int .i64 y.2) := d2
              obtain ⟨_, _, ee1, _⟩ := id hRq.out.box0
              generalize wr.drewN nq = Wq at *
              obtain ⟨g9, c9, w9, hr9, hR9⟩ := hRq.tell y.2 (by omega)
              rw [HGm.out] at hr9 hR9
              have Hr9 := hidOf hr9
              have HR9 := hidOf hR9
              have hgl : (G ++ [y.2]).length = m + 1 := by rw [List.length_append, HGm.out]; rfl
              have HGl := hidOf hgl
              clear hr9 hR9 hRq HRr d1 d2 e0 e1 o0 o1 hgl
              go_wp2_with (at_builtin; refine wpList_append_run rfl _ _ 29 rfl _ _ _ rfl rfl Hr9.out ?_)
              go_roundw
              case rel => exact ⟨k + 1, m + 1, v, some ⟨g9, 0, none⟩, c9, by omega, by go_num, rfl, by rw [HG.out]; exact HGl.out, by rw [HL.out, HG.out]; exact HR9.out⟩
              case measure => simp [intOf]; omega
            · have hL : (ts.take (k + 1)).filter (fun p => !decide (p.1 ≤ now + d)) = L ++ [y] := by rw [HStep.out, if_pos (by simp [ht])]
              have hG : ((ts.take (k + 1)).filter (fun p => decide (p.1 ≤ now + d))).map Prod.snd = G := by rw [HStep2.out, if_neg (by simp [ht]), HGe.out]
              have HL := hidOf hL
              have HG := hidOf hG
              have HTt := hidOf ht
              clear hL hG HStep HStep2
              go_wp2_with fail
              have ht' : ¬ y.1 ≤ now + d := (by have := HTt.out; omega)
              go_quiet (fail)
              rename_i nq
              have hRq := HRr.out.keep (bl_drewN (Below.refl wr.heap.size wr) nq)
              have dd1 : (wr.drewN nq).cell? ⟨b, off + k * 2, none⟩ = some (.int .i64 y.1) := d1
              have dd2 : (wr.drewN nq).cell? ⟨b, off + k * 2 + 1, none⟩ = some (.int .i64 y.2) := d2
              clear d1 d2 e0 e1 o0 o1 HRr
              have d1 := dd1
              have d2 := dd2
              clear dd1 dd2
              generalize wr.drewN nq = Wq at *
              obtain ⟨mL, hmL⟩ : ∃ m, L.length = m := ⟨_, rfl⟩
              obtain ⟨a8, c8, rfl⟩ := hRq.out.form
              have hRd := hRq.keep (Below.refl Wq.heap.size Wq).drew
              obtain ⟨g9, c9, w9, hr9, k9, f9, hR9⟩ := hRd.push y (by omega)
              obtain ⟨_, _, e1, _⟩ := id hRq.out.box0
              obtain ⟨_, _, o1, _⟩ := id hRq.out.out
              have lt0 := hRq.out.box0.lt
              have ltO := hRq.out.out.lt
              have e1' : ∀ o, (Wq.alloc o).cell? ⟨w.heap.size, 1, none⟩ = some (.slice (some ⟨b, off, none⟩) n cap) := fun o => by rw [World.cell?_alloc_old _ _ _ (Nat.ne_of_lt lt0)]; exact e1
              have o1' : ∀ o, (Wq.alloc o).cell? ⟨w2.heap.size, 1, none⟩ = some (.slice a8 mL c8) := fun o => by rw [World.cell?_alloc_old _ _ _ (Nat.ne_of_lt ltO)]; first | exact o1 | (rw [← hmL]; exact o1)
              have d1' : ∀ o, (Wq.alloc o).cell? ⟨b, off + k * 2, none⟩ = some (.int .i64 y.1) := fun o => by rw [World.cell?_alloc_old _ _ _ (Nat.ne_of_lt (World.block_lt_of_cell? Wq _ d1))]; exact d1
              have d2' : ∀ o, (Wq.alloc o).cell? ⟨b, off + k * 2 + 1, none⟩ = some (.int .i64 y.2) := fun o => by rw [World.cell?_alloc_old _ _ _ (Nat.ne_of_lt (World.block_lt_of_cell? Wq _ d2))]; exact d2
              rw [hmL] at hr9 hR9 o1 k9
              have Hr9 := hidOf hr9
              have HR9 := hidOf hR9
              clear hRd hr9 hR9 hRq lt0 ltO hmL
              go_wp2_with fail
              go_region_law (refine sstep_append_run (by rfl) _ _ 24 (by rfl) (.slice a8 mL c8) (.slice (some ⟨Wq.heap.size, 0, none⟩) 1 1) _ (by rfl) (by rfl) Hr9.out ?_)
              all_goals
                go_wp2
                go_roundw
                case rel => exact ⟨k + 1, m, _, ga, gc, by omega, by go_num, rfl, by rw [HG.out]; exact HGm.out, by rw [HL.out, HG.out]; exact HR9.out⟩
                case measure => simp [intOf]; omega
          · have hki : ¬ (k : Int) < (n : Int) := by omega
            have htk : ts.take k = ts := List.take_of_length_le (by rw [HLen.out]; omega)
            rw [htk] at hR HGm
            obtain ⟨L, hLe⟩ : ∃ L, ts.filter (fun p => !decide (p.1 ≤ now + d)) = L := ⟨_, rfl⟩
            obtain ⟨G, hGe⟩ : ∃ G, (ts.filter (fun p => decide (p.1 ≤ now + d))).map Prod.snd = G := ⟨_, rfl⟩
            rw [hLe, hGe] at hR
            rw [hGe] at HGm
            have HRR : Hid (advT now ts d = (now + d, L, G, 0)) := by
              have h1 := HR.out
              unfold laterL dueL at h1
              rw [hLe, hGe] at h1
              exact h1
            obtain ⟨a8, c8, rfl⟩ := hR.out.form
            obtain ⟨_, e0, e1, _⟩ := id hR.out.box0
            obtain ⟨_, r0, r1, rf⟩ := id hR.out.box1
            obtain ⟨_, o0, o1, _⟩ := id hR.out.out
            have hR2 := hR
            rw [← HGm.out] at hR2
            have hfin := hR2.fin
            rw [HGm.out] at hfin
            have HFin := hidOf hfin
            clear hR hR2 hfin hLe hGe htk HR HGm
            generalize L.length = mL at *
            go_wp2
            refine bodyPost_ret (v := .tuple #[.agg #[.int .i64 (now + d), .slice a8 mL c8], .slice ga m gc, .int .i64 0]) (by simp [results, Try.results12, go_sem, r0, r1]) rfl ?_
            rw [HRR.out]
            exact HFin.out
end Go.Proofs.Ytfahfbeemgigcaa
