/-
  The program's clocks: the timers of a token are stopped.
-/
import Derived.Test.YtfahfbeemgigcaaU9
namespace Go.Proofs.Ytfahfbeemgigcaa
open Go.RowKit Pl Il Th

theorem HMem.deleted {B : Nat} {w w1 : World} {hb : Nat} {a : Option Addr} {n m cap : Nat} {k : Int} {l l' : List NT} (h : HMem B w hb (.slice a n cap) k l) (ho : w1.ownsRow B 83 3 (.slice a m cap) m (flat l')) (hm : l'.length = m) (hg : w.grownBy w1 (Value.slice a n cap).ownBlock) :
    (w1.heap[hb]? = some (.cells #[.slice a n cap, .int .i64 k, fv] 80 (0, 0))) ∧ HMem B (w1.setCell ⟨hb, 0, none⟩ (.slice a m cap)) hb (.slice a m cap) k l' ∧ HFr B w (w1.setCell ⟨hb, 0, none⟩ (.slice a m cap)) := by
  obtain ⟨hF, hk⟩ := h.turn hg
  have hk2 := hk.trans h.blk
  refine ⟨hk2, ⟨by rw [set_block hk2]; rfl, ?_, h.ge⟩, hF.trans (HFr.setH hk2 h.ge _ _)⟩
  rw [hm]
  refine ho.kept (setCell_grown w1 hb 0 _) (.inr (fun e => h.rowH ?_))
  cases a with
  | none => simp [Value.ownBlock] at e
  | some ad => simpa [Value.ownBlock] using e

set_option maxRecDepth 100000 in
set_option maxHeartbeats 2000000 in
theorem stop_any (B hb : Nat) (tv : Value) (k : Int) (l : List NT) (tok : Int) (w : World) (h : HMem B w hb tv k l) (hs : Sorted l) (hl : l.length ≤ 100) :
    Calls Try.prog 45 #[.pointer (some ⟨hb, 0, none⟩), .int .i64 tok] w fun e w' => e = .returned (.int .i64 ((l.length : Int) - ((l.filter (keepT tok)).length : Int))) ∧ (∃ tv', HMem B w' hb tv' k (l.filter (keepT tok))) ∧ HFr B w w' := by
  generalize hW : w.alloc (.cells #[.int .i64 tok] 3) = W
  have b0 : Below w.heap.size w W := by subst hW; exact bl_alloc (Below.refl _ _) _
  have hN : W.cell? ⟨w.heap.size, 0, none⟩ = some (.int .i64 tok) := by subst hW; simp
  have hNb : W.heap[w.heap.size]? = some (.cells #[.int .i64 tok] 3 (0, 0)) := by subst hW; exact heap_alloc_new w _
  have hM := h.keep b0
  have hF0 := HFr.of b0 h.size
  obtain ⟨a, cap, rfl, _⟩ := h.len
  have hc0 := hM.c0
  have hdel := del_any B a l.length cap l tok w.heap.size W hM.row rfl hl hN (fun b e => by
    rintro rfl
    subst e
    exact hM.rowT _ _ _ _ hNb (by decide) rfl)
  unfold fnV at hdel
  have hfs := filter_sorted hs (keepT tok)
  have hfl : (l.filter (keepT tok)).length ≤ l.length := List.length_filter_le _ _
  have HD := hidOf hdel
  have HM := hidOf hM
  have HF0 := hidOf hF0
  have HFs := hidOf hfs
  clear h hs hM hF0 hdel hfs hN hNb b0
  go_enter Try.func45, Try.ntmps45
  go_wp2_with fail
  refine (len_any B hb _ k l _ HM.out).mono ?_
  rintro e2 w2 ⟨rfl, rfl⟩
  go_wp2_with fail
  refine (HD.out).mono ?_
  rintro e3 w3 ⟨m, rfl, hmn, hfm, ho3, hg3⟩
  obtain ⟨hk3, hM3, hF3⟩ := HM.out.deleted ho3 hfm hg3
  have c3 : w3.cell? ⟨hb, 0, none⟩ = some (.slice a l.length cap) := by simp [World.cell?, hk3]
  have f3 : w3.frozen? ⟨hb, 0, none⟩ = false := by simp [World.frozen?, hk3]
  have hin := heapInit_any B hb _ k _ _ hM3 (sorted_le HFs.out) (by omega)
  unfold hv at hin
  have HI := hidOf hin
  have HF3 := hidOf (HF0.out.trans hF3)
  have HFm := hidOf hfm
  clear hin hM3 hF3 hk3 ho3 hg3 HD HM HF0 hc0 hW hfm
  go_wp2_with fail
  refine (HI.out).mono ?_
  rintro e4 w4 ⟨rfl, hM4, hF4⟩
  have HM4 := hidOf hM4
  have HF4 := hidOf (HF3.out.trans hF4)
  clear hM4 hF4 HI HF3
  go_wp2_with fail
  refine (len_any B hb _ k _ _ HM4.out).mono ?_
  rintro e5 w5 ⟨rfl, rfl⟩
  generalize hq : (l.filter (keepT tok)).length = q at *
  generalize hn : l.length = n at *
  have HQ := hidOf hq
  have HN := hidOf hn
  clear hq hn
  go_wp2
  go_ret
  exact ⟨by rw [HQ.out, HN.out]; rfl, ⟨_, HM4.out⟩, HF4.out⟩

/-- What stopping a token answers. -/
def stopT (now : Int) (ts : List (Int × Int)) (tok : Int) : List (Int × Int) × Int :=
  if okClock now ts = true then (ts.filter (fun p => !(p.2 == tok)), (ts.length : Int) - ((ts.filter (fun p => !(p.2 == tok))).length : Int)) else (ts, 0)

set_option maxRecDepth 100000 in
set_option maxHeartbeats 2000000 in
theorem implStop_any (now tok : Int) (a : Option Addr) (n cap : Nat) (ts : List (Int × Int)) (w : World) (hI : TimAt w a n ts) (hn : n ≤ 2097152) :
    Calls Try.prog 19 #[.agg #[.int .i64 now, .slice a n cap], .int .i64 tok] w fun e w' => OutC w now (stopT now ts tok).1 [.int .i64 (stopT now ts tok).2] e w' := by
  have hctx := ctx_new (now := now) (cap := cap) hI
  have s1 : ((w.alloc (.cells #[.int .i64 now, .slice a n cap] 26)).alloc (.cells #[.int .i64 0, .slice none 0 0] 26)).heap.size = w.heap.size + 2 := by simp
  have hc := ctimers_any now a n cap ts _ (hctx.timX) (by omega)
  unfold CtP at hc
  rw [s1] at hc
  have HCt := hidOf hc
  have HX := hidOf hctx
  have S1 := hidOf s1
  have HLen := hidOf hI.len
  clear hc hctx s1 hI
  go_enter Try.func19, Try.ntmps19
  go_wp2_with fail
  refine (HCt.out).mono ?_
  rintro e w1 (⟨hok, hb, tv, rfl, hM, hb1⟩ | ⟨hok, rfl, hb1⟩)
  · have HC := hidOf (HX.out.keep hb1 (Nat.le_refl _))
    obtain ⟨_, p0, p1, _⟩ := HC.out.box0
    obtain ⟨hp0, hp1, hp2, hp3⟩ := ok_parts hok
    have hsn := numL_sorted (k := 0) hp3
    have hst := stop_any (w.heap.size + 2) hb tv n (numL 0 ts) tok w1 hM hsn (by rw [length_numL]; omega)
    have hfm : ((numL 0 ts).filter (keepT tok)).map tmr = ts.filter (fun p => !(p.2 == tok)) := filter_numL tok 0 ts
    have hfl : ((numL 0 ts).filter (keepT tok)).length = (ts.filter (fun p => !(p.2 == tok))).length := by rw [← hfm, List.length_map]
    have hfle : (ts.filter (fun p => !(p.2 == tok))).length ≤ ts.length := List.length_filter_le _ _
    rw [length_numL, hfl] at hst
    have hres : stopT now ts tok = (ts.filter (fun p => !(p.2 == tok)), (ts.length : Int) - ((ts.filter (fun p => !(p.2 == tok))).length : Int)) := by unfold stopT; rw [if_pos hok]
    have HR := hidOf hres
    have HStp := hidOf hst
    have htm : ∀ x ∈ (numL 0 ts).filter (keepT tok), x.tm ≤ 1000000000 := fun x hx => (numL_mem hp3 x (List.mem_filter.1 hx).1).2.1
    have HTm := hidOf htm
    have HSn := hidOf hsn
    have HFl := hidOf hfl
    have HFm := hidOf hfm
    clear HCt HX hb1 hM hok hst hres htm hsn hfl hfm
    go_wp2_with fail
    refine (HStp.out).mono ?_
    rintro e4 w4 ⟨rfl, ⟨tv4, hM4⟩, hF4⟩
    have hC4 := HC.out.keep hF4.below (Nat.le_refl _)
    have hs4 := filter_sorted HSn.out (keepT tok)
    have hst4 : HSt (w.heap.size + 2) w4 hb ((numL 0 ts).filter (keepT tok)) := ⟨⟨_, _, _, hM4, heap_of_sorted hs4, .refl _⟩, hs4⟩
    have hco := clockOf_any _ hb now _ w4 hst4 hC4.sz HTm.out (by rw [HFl.out]; omega)
    rw [HFl.out, HFm.out] at hco
    have HCo := hidOf hco
    have HC4 := hidOf hC4
    obtain ⟨_, q0, q1, _⟩ := hC4.box0
    obtain ⟨fs, hfs⟩ : ∃ fs, ts.filter (fun p => !(p.2 == tok)) = fs := ⟨_, rfl⟩
    rw [hfs] at HCo HR hfle ⊢
    have HFs := hidOf hfs
    clear hM4 hF4 hs4 hst4 hC4 hco HC p0 p1 HStp HTm HSn HFl HFm hfs
    generalize ts.length = N0 at *
    go_wp2_with fail
    refine (HCo.out).mono ?_
    rintro e5 w5 ⟨a5, c5, rfl, ho5, hF5⟩
    obtain ⟨_, r0, r1, rf⟩ := HC4.out.box1.below hF5.below (by omega)
    obtain ⟨ho6, hb6⟩ := HC4.out.fin2 (.int .i64 now) (.slice a5 fs.length c5) ho5 hF5.below (Nat.le_refl _)
    have HO := hidOf ho6
    have HBl := hidOf hb6
    clear ho5 hF5 ho6 hb6 HCo HC4 q0 q1
    go_wp2
    refine bodyPost_ret (v := .tuple #[.agg #[.int .i64 now, .slice a5 fs.length c5], .int .i64 ((N0 : Int) - (fs.length : Int))]) (by simp [results, Try.results19, go_sem, r0, r1]) rfl ?_
    rw [HR.out]
    exact outC (r := [.int .i64 ((N0 : Int) - (fs.length : Int))]) HO.out HBl.out
  · have HC := hidOf (HX.out.keep hb1 (Nat.le_refl _))
    have hres : stopT now ts tok = (ts, 0) := by unfold stopT; rw [if_neg (by rw [hok]; simp)]
    obtain ⟨_, p0, p1, _⟩ := HC.out.box0
    clear HCt HX hb1 hok
    go_wp2_with fail
    refine (copiedClock_any now a n cap ts _ (HC.out.timX) hn).mono ?_
    rintro e9 w9 ⟨a9, c9, rfl, ho9, hb9⟩
    obtain ⟨_, r0, r1, rf⟩ := HC.out.box1.keep hb9
    obtain ⟨_, q0, q1, _⟩ := HC.out.box0.keep hb9
    have hE := HC.out.fin (.int .i64 now) (.slice a9 n c9) ho9 hb9
    obtain ⟨ho10, hb10⟩ := hE
    have HO := hidOf ho10
    have HBl := hidOf hb10
    have HR := hidOf hres
    clear HC ho9 hb9 ho10 hb10 hres p0 p1
    go_wp2
    refine bodyPost_ret (v := .tuple #[.agg #[.int .i64 now, .slice a9 n c9], .int .i64 0]) (by simp [results, Try.results19, go_sem, r0, r1]) rfl ?_
    rw [HR.out]
    exact outC (r := [.int .i64 0]) HO.out HBl.out
end Go.Proofs.Ytfahfbeemgigcaa
