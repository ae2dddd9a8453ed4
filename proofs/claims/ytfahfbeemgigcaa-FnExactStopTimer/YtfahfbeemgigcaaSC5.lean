/-
  Walks of the specification's clocks: the timers of a token are stopped.
-/
import Derived.Test.YtfahfbeemgigcaaSC3
import Derived.Test.YtfahfbeemgigcaaU10
namespace Go.Proofs.Ytfahfbeemgigcaa
open Go.RowKit Pl Il Th

theorem filter_take {q : Int × Int → Bool} {ts : List (Int × Int)} {k : Nat} (hk : k < ts.length) : (ts.take (k + 1)).filter q = if q (tg ts k) = true then (ts.take k).filter q ++ [tg ts k] else (ts.take k).filter q := by
  rw [take_tg hk, List.filter_append]
  by_cases h : q (tg ts k) = true
  · rw [if_pos h]; simp [h]
  · rw [if_neg h]; simp [h]
theorem filter_len {q : Int × Int → Bool} (ts : List (Int × Int)) (k : Nat) : ((ts.take k).filter q).length ≤ k := by
  have := List.length_filter_le q (ts.take k)
  rw [List.length_take] at this
  omega

set_option maxRecDepth 100000 in
set_option maxHeartbeats 8000000 in
theorem specStop_any (now tok : Int) (a : Option Addr) (n cap : Nat) (ts : List (Int × Int)) (w : World) (hI : TimAt w a n ts) (hn : n ≤ 2097152) :
    Calls Try.prog 28 #[.agg #[.int .i64 now, .slice a n cap], .int .i64 tok] w fun e w' => OutC w now (stopT now ts tok).1 [.int .i64 (stopT now ts tok).2] e w' := by
  have hctx := ctx_new (now := now) (cap := cap) hI
  have hok := specClockOk_any now a n cap ts _ hctx.timX (by omega)
  have HOk := hidOf hok
  have HX := hidOf hctx
  have HLen := hidOf hI.len
  have HTim := hidOf hI
  clear hok hctx hI
  go_enter Try.func28, Try.ntmps28
  go_wp2_with fail
  refine (HOk.out).mono ?_
  rintro e w2 ⟨rfl, hb2⟩
  have hC2 := HX.out.keep hb2 HX.out.sz
  have HC2 := hidOf hC2
  obtain ⟨_, q0, q1, _⟩ := id hC2.box0
  clear HX HOk hb2 hC2
  cases hok : okClock now ts
  · have hres : stopT now ts tok = (ts, 0) := by unfold stopT; rw [if_neg (by rw [hok]; simp)]
    have HR := hidOf hres
    clear hres
    go_wp2_with fail
    refine (l4Copy_any now a n cap ts _ HC2.out.timX hn).mono ?_
    rintro e9 w9 ⟨a9, c9, rfl, ho9, hb9⟩
    obtain ⟨_, r0, r1, rf⟩ := HC2.out.box1.keep hb9
    obtain ⟨ho10, hb10⟩ := HC2.out.fin (.int .i64 now) (.slice a9 n c9) ho9 hb9
    have HO := hidOf ho10
    have HBl := hidOf hb10
    clear ho9 hb9 ho10 hb10 q0 q1
    go_wp2
    refine bodyPost_ret (v := .tuple #[.agg #[.int .i64 now, .slice a9 n c9], .int .i64 0]) (by simp [results, Try.results28, go_sem, r0, r1]) rfl ?_
    rw [HR.out]
    exact outC (r := [.int .i64 0]) HO.out HBl.out
  · obtain ⟨hp0, hp1, hp2, hp3⟩ := ok_parts hok
    have hres : stopT now ts tok = (ts.filter (fun p => !(p.2 == tok)), (ts.length : Int) - ((ts.filter (fun p => !(p.2 == tok))).length : Int)) := by unfold stopT; rw [if_pos hok]
    have HR := hidOf hres
    clear hres hok
    generalize hW3 : w2.alloc (.cells #[.int .i64 now, .slice none 0 0] 26) = W3
    have b3 : Below w2.heap.size w2 W3 := by subst hW3; exact bl_alloc (Below.refl _ _) _
    have s3 : W3.heap.size = w2.heap.size + 1 := by subst hW3; simp
    have xo : Box2 w2.heap.size (.int .i64 now) (.slice none 0 0) W3 := by subst hW3; exact Box2.new w2 _ _ _
    have hC3 := HC2.out.keep b3 HC2.out.sz
    have hsz := HC2.out.sz
    have hR0 : OutR w now a n cap w2.heap.size (w2.heap.size + 1) now (.slice none 0 0) [] W3 := ⟨hC3.box0, hC3.box1, xo, World.ownsRow_nil _ _ _ _, hC3.below, by omega, by omega, by omega⟩
    have HR0 := hidOf hR0
    have hn40 : n ≤ 40 := by have := HLen.out; omega
    clear b3 s3 xo hC3 hR0 HC2
    subst hW3
    go_wp2_with fail
    go_loopw [7] (fun iv wr => ∃ (k : Nat) (v : Value), k ≤ n ∧ iv = .int .i64 k ∧ OutR w now a n cap w2.heap.size (w2.heap.size + 1) now v ((ts.take k).filter (fun p => !(p.2 == tok))) wr) (fun iv _ => n - (intOf iv).toNat)
    case atStart => exact ⟨0, _, Nat.zero_le _, rfl, HR0.out⟩
    case round =>
      rename_i wr
      obtain ⟨k, v, hk, rfl, hR⟩ := hrel
      clear HR0
      by_cases hlt : k < n
      · obtain ⟨_, h' | ⟨b, off, e, hb, hcell⟩⟩ := HTim.out
        · omega
        subst e
        have d1 : wr.cell? ⟨b, off + k * 2, none⟩ = some (.int .i64 (tg ts k).1) := by rw [hR.below.cell (p := ⟨b, off + k * 2, none⟩) hb]; exact (hcell k hlt).1
        have d2 : wr.cell? ⟨b, off + k * 2 + 1, none⟩ = some (.int .i64 (tg ts k).2) := by rw [hR.below.cell (p := ⟨b, off + k * 2 + 1, none⟩) hb]; exact (hcell k hlt).2
        have hki : (0 : Int) ≤ (k : Int) ∧ (k : Int) < (n : Int) := by omega
        have hkl : k < ts.length := by rw [HLen.out]; exact hlt
        have hstep := filter_take (q := fun p => !(p.2 == tok)) hkl
        have hfl := filter_len (q := fun p => !(p.2 == tok)) ts k
        obtain ⟨y, hy⟩ : ∃ y, tg ts k = y := ⟨_, rfl⟩
        rw [hy] at d1 d2 hstep
        have HStep := hidOf hstep
        obtain ⟨_, e0, e1, _⟩ := id hR.box0
        clear hcell hy hkl hstep
        cases ht : (y.2 != tok)
        · have hL : (ts.take (k + 1)).filter (fun p => !(p.2 == tok)) = (ts.take k).filter (fun p => !(p.2 == tok)) := by
            rw [HStep.out, if_neg]
            have : y.2 = tok := by simpa using ht
            simp [this]
          rw [← hL] at hR
          have HRr := hidOf hR
          clear hR hL
          go_wp2
          go_roundw
          case rel => exact ⟨k + 1, v, by omega, by go_num, HRr.out⟩
          case measure => simp [intOf]; omega
        · have hL : (ts.take (k + 1)).filter (fun p => !(p.2 == tok)) = (ts.take k).filter (fun p => !(p.2 == tok)) ++ [y] := by
            rw [HStep.out, if_pos]
            have : ¬ y.2 = tok := by simpa using ht
            simp [this]
          have HL := hidOf hL
          clear hL
          obtain ⟨L, hLe⟩ : ∃ L, (ts.take k).filter (fun p => !(p.2 == tok)) = L := ⟨_, rfl⟩
          rw [hLe] at hR hfl HL
          have hRq := hR
          obtain ⟨mL, hmL⟩ : ∃ m, L.length = m := ⟨_, rfl⟩
          clear hR hLe
          obtain ⟨a8, c8, rfl⟩ := hRq.form
          have hRd := hRq.keep (Below.refl wr.heap.size wr).drew
          obtain ⟨g9, c9, w9, hr9, k9, f9, hR9, hB9⟩ := hRd.push y (by omega)
          obtain ⟨_, _, e1, _⟩ := id hRq.box0
          obtain ⟨_, _, o1, _⟩ := id hRq.out
          have lt0 := hRq.box0.lt
          have ltO := hRq.out.lt
          have e1' : ∀ o, (wr.alloc o).cell? ⟨w.heap.size, 1, none⟩ = some (.slice (some ⟨b, off, none⟩) n cap) := fun o => by rw [World.cell?_alloc_old _ _ _ (Nat.ne_of_lt lt0)]; exact e1
          have o1' : ∀ o, (wr.alloc o).cell? ⟨w2.heap.size, 1, none⟩ = some (.slice a8 mL c8) := fun o => by rw [World.cell?_alloc_old _ _ _ (Nat.ne_of_lt ltO)]; first | exact o1 | (rw [← hmL]; exact o1)
          have d1' : ∀ o, (wr.alloc o).cell? ⟨b, off + k * 2, none⟩ = some (.int .i64 y.1) := fun o => by rw [World.cell?_alloc_old _ _ _ (Nat.ne_of_lt (World.block_lt_of_cell? wr _ d1))]; exact d1
          have d2' : ∀ o, (wr.alloc o).cell? ⟨b, off + k * 2 + 1, none⟩ = some (.int .i64 y.2) := fun o => by rw [World.cell?_alloc_old _ _ _ (Nat.ne_of_lt (World.block_lt_of_cell? wr _ d2))]; exact d2
          rw [hmL] at hr9 hR9 o1 k9
          have Hr9 := hidOf hr9
          have HR9 := hidOf hR9
          clear hRd hr9 hR9 hB9 hRq lt0 ltO hmL
          go_wp2_with fail
          go_region_law (refine sstep_append_run (by rfl) _ _ 24 (by rfl) (.slice a8 mL c8) (.slice (some ⟨wr.heap.size, 0, none⟩) 1 1) _ (by rfl) (by rfl) Hr9.out ?_)
          all_goals
            go_wp2
            go_roundw
            case rel => exact ⟨k + 1, _, by omega, by go_num, by rw [HL.out]; exact HR9.out⟩
            case measure => simp [intOf]; omega
      · have hki : ¬ (k : Int) < (n : Int) := by omega
        rw [List.take_of_length_le (by rw [HLen.out]; omega)] at hR
        obtain ⟨fs, hfs⟩ : ∃ fs, ts.filter (fun p => !(p.2 == tok)) = fs := ⟨_, rfl⟩
        have hle : fs.length ≤ n := by rw [← hfs, ← HLen.out]; exact List.length_filter_le _ _
        have HRR := HR.out
        rw [hfs, HLen.out] at HRR
        have HR' := hidOf HRR
        rw [hfs] at hR
        clear hfs HR HRR
        obtain ⟨a8, c8, rfl⟩ := hR.form
        obtain ⟨_, e0, e1, _⟩ := id hR.box0
        obtain ⟨_, r0, r1, rf⟩ := id hR.box1
        obtain ⟨_, o0, o1, _⟩ := id hR.out
        have hfin := (hR.keep (Below.refl wr.heap.size wr).drew).fin (.int .i64 now) (.slice a8 fs.length c8)
        have HFin := hidOf hfin
        clear hR hfin
        generalize fs.length = mL at *
        go_wp2_with fail
        go_region
        all_goals go_wp2
        all_goals
          refine bodyPost_ret (v := .tuple #[.agg #[.int .i64 now, .slice a8 mL c8], .int .i64 ((n : Int) - (mL : Int))]) (by simp [results, Try.results28, go_sem, r0, r1]) rfl ?_
          rw [HR'.out]
          exact outC (r := [.int .i64 ((n : Int) - (mL : Int))]) HFin.out.1 HFin.out.2
end Go.Proofs.Ytfahfbeemgigcaa
