/-
  The program's heap of timers: one is set, those that are due are taken.
-/
import Derived.Test.YtfahfbeemgigcaaU4
import Derived.Test.YtfahfbeemgigcaaCM
import Derived.Test.YtfahfbeemgigcaaCT
import Derived.Test.YtfahfbeemgigcaaH6
namespace Go.Proofs.Ytfahfbeemgigcaa
open Go.RowKit Pl Il Th

theorem HMem.setNum {B : Nat} {w : World} {hb : Nat} {tv : Value} {k : Int} {l : List NT} (h : HMem B w hb tv k l) (k' : Int) : HMem B (w.setCell ⟨hb, 1, none⟩ (.int .i64 k')) hb tv k' l ∧ HFr B w (w.setCell ⟨hb, 1, none⟩ (.int .i64 k')) := by
  refine ⟨⟨by rw [set_block h.blk]; rfl, ?_, h.ge⟩, HFr.setH h.blk h.ge _ _⟩
  refine h.row.kept (setCell_grown w hb 1 _) ?_
  cases e : tv.ownBlock with
  | none => exact .inl rfl
  | some q => exact .inr (fun e' => h.rowH (by rw [e, e']))

set_option maxRecDepth 100000 in
set_option maxHeartbeats 1000000 in
theorem set_any (B hb : Nat) (tv : Value) (k : Int) (l : List NT) (p : Int × Int) (w : World) (h : HMem B w hb tv k l) (hl : l.length + 1 ≤ 100) (k0 : 0 ≤ k) (k1 : k ≤ 1000) :
    Calls Try.prog 43 #[.pointer (some ⟨hb, 0, none⟩), .agg #[.int .i64 p.1, .int .i64 p.2]] w fun e w' => e = .returned (.tuple #[]) ∧ (∃ tv', HMem B w' hb tv' (k + 1) (pushL l ⟨p.1, p.2, k⟩)) ∧ HFr B w w' := by
  obtain ⟨p1, p2⟩ := p
  simp only
  generalize hW : w.alloc (.cells #[.int .i64 p1, .int .i64 p2] 36) = W
  have b0 : Below w.heap.size w W := by subst hW; exact bl_alloc (Below.refl _ _) _
  have x0 : Box2 w.heap.size (.int .i64 p1) (.int .i64 p2) W := by subst hW; exact Box2.new w _ _ _
  have hM := h.keep b0
  obtain ⟨_, p0, p1', _⟩ := x0
  have q1 := hM.c1
  have HM := hidOf hM
  have hF0 := HFr.of b0 h.size
  have HC : Hid (Calls Try.prog 57 #[hv hb, .iface 83 (ntV ⟨p1, p2, k⟩)] W.drew fun e w' => e = .returned (.tuple #[]) ∧ (∃ tv', HMem B w' hb tv' k (pushL l ⟨p1, p2, k⟩)) ∧ HFr B W.drew w') := heapPush_any B hb tv k l ⟨p1, p2, k⟩ W.drew (HM.out.keep (Below.refl _ _).drew) hl
  unfold hv ntV at HC
  have hF1 := hF0.trans (HFr.of (Below.refl W.heap.size W).drew HM.out.size)
  clear h hM hF0
  go_enter Try.func43, Try.ntmps43
  go_wp2_with fail
  go_region_with (go_at_call 57; refine (HC.out).mono ?_; rintro e w1 ⟨rfl, ⟨tv1, h1⟩, hF2⟩)
  all_goals
    have c1 := h1.c1
    have f1 := h1.fr 1
    obtain ⟨hN1, hN2⟩ := h1.setNum (k + 1)
    have HN1 := hidOf hN1
    have hFF := (hF1.trans hF2).trans hN2
    clear h1 hF2 hN1 hN2 hF1
    go_wp2
    go_end0
    exact ⟨rfl, ⟨_, HN1.out⟩, hFF⟩
theorem infoTm : (Try.prog.info? 36).map (fun i => (i.zero, i.size, i.bytes)) = some (some (.agg #[.int .i64 0, .int .i64 0]), 2, 16) := by kernel_rfl
theorem new_cellsT (w : World) (x : Int × Int) (t : TypeId) : ∀ j u, (tC x)[j]? = some u → (w.alloc (.cells #[.int .i64 x.1, .int .i64 x.2] t)).cell? ((⟨w.heap.size, 0, none⟩ : Addr).add j) = some u := by
  intro j u hu
  have hadd : (⟨w.heap.size, 0, none⟩ : Addr).add j = ⟨w.heap.size, j, none⟩ := by unfold Addr.add; split <;> simp_all
  rw [hadd, World.cell?_alloc_new]
  rw [← hu, ← Array.getElem?_toList]
  rfl
/-- One timer is appended. -/
theorem append_t (B : Nat) (v : Value) (l : List (Int × Int)) (x : Int × Int) (w : World) (ho : w.ownsRow B 36 2 v l.length (tflat l)) (hB : B ≤ w.heap.size) (hs : l.length + 1 ≤ 2097152) :
    ∃ (g' c' : Nat) (w' : World), (Builtin.append_ #[24, 24] 24 #[v, .slice (some ⟨w.heap.size, 0, none⟩) 1 1]).run Try.prog (w.alloc (.cells #[.int .i64 x.1, .int .i64 x.2] 36)) = .ok (.slice (some ⟨g', 0, none⟩) (l.length + 1) c') w' ∧
      w'.ownsRow B 36 2 (.slice (some ⟨g', 0, none⟩) (l.length + 1) c') (l ++ [x]).length (tflat (l ++ [x])) ∧ w.grownBy w' v.ownBlock := by
  obtain ⟨i, hi, hz0, hz1, hz2⟩ := info_parts infoTm
  obtain ⟨g', c', w', hr, hown, hgrow, hl, _⟩ := run_append_lies (P := Try.prog) (w.alloc (.cells #[.int .i64 x.1, .int .i64 x.2] 36)) 24 24 B 36 i _ 2 16 Try.underlying24 hi hz0 hz1 hz2 rfl (by omega) v l.length _ (ho.alloc _) ⟨w.heap.size, 0, none⟩ 1 1 (tC x) rfl
    (new_cellsT _ _ _) (fun u hu => by simp [tC] at hu; rcases hu with rfl | rfl <;> rfl) (by omega) (by unfold maxLen; omega) (by omega) (by simp; omega) _ rfl
  refine ⟨g', c', w', hr, ?_, (World.grownBy_alloc w _ _).trans hgrow⟩
  rw [List.length_append, tflat_snoc]
  exact hown
/-- The heap turns: a row of timers stays. -/
theorem own_fr {B' B : Nat} {w w' : World} {v : Value} {n : Nat} {xs : List Value} (h : w.ownsRow B' 36 2 v n xs) (hF : HFr B w w') : w'.ownsRow B' 36 2 v n xs := by
  obtain ⟨hl, hn | ⟨g, cap, cur, rfl, hB, hg, hr⟩⟩ := h
  · exact ⟨hl, .inl hn⟩
  · exact ⟨hl, .inr ⟨g, cap, cur, rfl, hB, hF.keepB g cur _ hg (by decide) (by decide), hr⟩⟩
/-- A row of timers grows: the heap stays. -/
theorem HMem.aside {B B' : Nat} {w w' : World} {hb : Nat} {tv : Value} {k : Int} {l : List NT} {v : Value} {n : Nat} {xs : List Value} (h : HMem B w hb tv k l) (ho : w.ownsRow B' 36 2 v n xs) (hg : w.grownBy w' v.ownBlock) : HMem B w' hb tv k l := by
  have key : ∀ (b : Nat) (cs : Array Value) (t : TypeId), w.heap[b]? = some (.cells cs t (0, 0)) → t ≠ 36 → some b ≠ v.ownBlock := by
    intro b cs t hbk ht e
    obtain ⟨_, ⟨rfl, _⟩ | ⟨q, cap, cur, rfl, _, hq, _⟩⟩ := ho
    · cases e
    · simp [Value.ownBlock] at e
      subst e
      rw [hbk] at hq
      simp at hq
      exact ht hq.2
  refine ⟨by rw [hg.block hb h.lt (key hb _ _ h.blk (by decide))]; exact h.blk, ?_, h.ge⟩
  obtain ⟨hl, hn | ⟨q, cap, cur, rfl, hB, hq, hr⟩⟩ := h.row
  · exact ⟨hl, .inl hn⟩
  · exact ⟨hl, .inr ⟨q, cap, cur, rfl, hB, by rw [hg.block q (lt_blk hq) (key q _ _ hq (by decide))]; exact hq, hr⟩⟩
theorem HFr.aside {B : Nat} {w0 w w' : World} {v : Value} {n : Nat} {xs : List Value} (h : HFr B w0 w) (hB : B ≤ w0.heap.size) (ho : w.ownsRow w0.heap.size 36 2 v n xs) (hg : w.grownBy w' v.ownBlock) : HFr B w0 w' := by
  have hsz := h.below.size
  refine ⟨h.below.trans ((Below.refl _ _).grown hg (by omega) (fun j hj => by have := (ho.lt j hj).1; omega)), fun b cs t z hbk h1 h2 => ?_⟩
  have hlt := lt_blk hbk
  rw [hg.block b (by omega) (fun e => by have := (ho.lt b e.symm).1; omega)]
  exact h.oth b cs t z hbk h1 h2
/-- A heap that will be emptied as s. -/
structure HSt (B : Nat) (w : World) (hb : Nat) (s : List NT) : Prop where
  ex : ∃ tv k l, HMem B w hb tv k l ∧ Heap l l.length ∧ l.Perm s
  sorted : Sorted s
theorem HSt.keep {B : Nat} {w w' : World} {hb : Nat} {s : List NT} (h : HSt B w hb s) (q : Below w.heap.size w w') : HSt B w' hb s := by
  obtain ⟨⟨tv, k, l, hM, hH, hP⟩, hs⟩ := h
  exact ⟨⟨tv, k, l, hM.keep q, hH, hP⟩, hs⟩
theorem own_keepT {B : Nat} {t : TypeId} {w w' : World} {v : Value} {n : Nat} {xs : List Value} (h : w.ownsRow B t 2 v n xs) (q : Below w.heap.size w w') : w'.ownsRow B t 2 v n xs := by
  refine h.kept (row := none) ⟨q.os, q.tape, q.output, q.size, fun k hk _ => q.block k hk⟩ ?_
  cases v.ownBlock <;> simp

theorem field_nt (x y z : Value) (w : World) : (Instr.field 83 (.agg #[x, y, z]) 0).run Try.prog w = .ok (.agg #[x, y]) w := by kernel_rfl
def slen : Value → Nat
  | .slice _ n _ => n
  | _ => 0
theorem g_cons (x : NT) (l : List NT) : g (x :: l) 0 = x := rfl
theorem drop_g (p : List NT) (m : Nat) (h : m < p.length) : p.drop m = g p m :: p.drop (m + 1) := by
  rw [List.drop_eq_getElem_cons h]
  congr 1
  unfold g
  rw [List.getD_eq_getElem?_getD, List.getElem?_eq_getElem h]; rfl
theorem take_g (p : List NT) (m : Nat) (h : m < p.length) : p.take (m + 1) = p.take m ++ [g p m] := by
  rw [List.take_succ_eq_append_getElem h]
  congr 2
  unfold g
  rw [List.getD_eq_getElem?_getD, List.getElem?_eq_getElem h]; rfl
theorem sliceForm {B : Nat} {w : World} {t : TypeId} {v : Value} {n : Nat} {xs : List Value} (h : w.ownsRow B t 2 v n xs) : ∃ a c, v = .slice a n c := by
  obtain ⟨_, ⟨rfl, rfl⟩ | ⟨g, cap, cur, rfl, _⟩⟩ := h
  · exact ⟨_, _, rfl⟩
  · exact ⟨_, _, rfl⟩
def TakeP (B hb : Nat) (p r : List NT) (w : World) (e : Ending) (w' : World) : Prop := ∃ v, e = .returned v ∧ w'.ownsRow w.heap.size 36 2 v p.length (tflat (p.map tmr)) ∧ HSt B w' hb r ∧ HFr B w w'

set_option maxRecDepth 100000 in
set_option maxHeartbeats 2000000 in
theorem takeUntil_any (B hb : Nat) (time : Int) (s p r : List NT) (w : World) (h : HSt B w hb s) (hB : B ≤ w.heap.size) (hs : s = p ++ r) (hp : ∀ x ∈ p, x.tm ≤ time) (hr : r = [] ∨ ¬ (g r 0).tm ≤ time) (hl : s.length ≤ 100) :
    Calls Try.prog 37 #[.pointer (some ⟨hb, 0, none⟩), .int .i64 time] w fun e w' => TakeP B hb p r w e w' := by
  have hlp : p.length ≤ 100 := by rw [hs, List.length_append] at hl; omega
  have hlr : (p ++ r).length ≤ 100 := by rw [← hs]; exact hl
  have HLR := hidOf hlr
  have h' : HSt B w hb (p.drop 0 ++ r) := by rw [List.drop_zero, ← hs]; exact h
  have HS := hidOf h'
  have HP := hidOf hp
  have HR := hidOf hr
  clear h hp hr hs hl h' hlr
  go_enter Try.func37, Try.ntmps37
  go_wp2_with fail
  go_loopw [5] (fun v wr => ∃ (m : Nat) (a : Option Addr) (c : Nat), m ≤ p.length ∧ v = .slice a m c ∧ wr.ownsRow w.heap.size 36 2 (.slice a m c) m (tflat ((p.take m).map tmr)) ∧ HSt B wr hb (p.drop m ++ r) ∧ HFr B w wr) (fun v _ => p.length - slen v)
  case atStart => exact ⟨0, none, 0, Nat.zero_le _, rfl, World.ownsRow_nil _ _ _ _, HS.out, HFr.refl _ _⟩
  case round =>
    rename_i wr
    obtain ⟨m, a, c, hm, rfl, ho, ⟨⟨tv, k, l, hM, hH, hPm⟩, hsrt⟩, hF⟩ := hrel
    have hlen := hPm.length_eq
    have HO := hidOf ho
    have HM := hidOf hM
    have HF := hidOf hF
    clear HS ho hF
    by_cases hlt : m < p.length
    · rw [drop_g p m hlt, List.cons_append] at hPm hsrt hlen
      obtain ⟨e0, hPm2⟩ := pop_sorted hH hPm hsrt
      have hx : (g l 0).tm ≤ time := by rw [e0]; exact HP.out _ (g_mem p m hlt)
      have hpos : 0 < l.length := by rw [hlen]; simp
      have hl100 : l.length ≤ 100 := by rw [hlen]; have := HLR.out; simp at this ⊢; omega
      have hH2 := pop_heap l hH
      rw [← length_pop] at hH2
      have hs2 : Sorted (p.drop (m + 1) ++ r) := (List.pairwise_cons.1 hsrt).2
      have HE0 := hidOf e0
      have HH2 := hidOf hH2
      have HP2 := hidOf hPm2
      have HS2 := hidOf hs2
      have hposi : (0 : Int) < (l.length : Int) := by omega
      have c0 := hM.c0
      obtain ⟨b, cap, rfl, _⟩ := hM.form hpos
      obtain ⟨x1, _, _⟩ := row_cells hM.row rfl hpos
      rw [Nat.zero_mul] at x1
      clear hM hH hPm hsrt hlen e0 hH2 hPm2 hs2
      go_wp2_with fail
      refine (len_any B hb _ k l _ HM.out).mono ?_
      rintro e2 w2 ⟨rfl, rfl⟩
      generalize hn : l.length = n at *
      have HN := hidOf hn
      clear hn
      go_wp2_with fail
      have hpop := heapPop_any B hb _ k l w2 HM.out (by rw [HN.out]; exact hpos) (by rw [HN.out]; exact hl100)
      unfold hv ntV at hpop
      refine hpop.mono ?_
      rintro e3 w3 ⟨rfl, ⟨tv3, h3⟩, hF3⟩
      have ho3 := own_fr HO.out hF3
      have hsz : w.heap.size ≤ w3.heap.size := Nat.le_trans HF.out.below.size hF3.below.size
      have hlt2 : ((p.take m).map tmr).length = m := by rw [List.length_map, List.length_take]; omega
      have ho3' : w3.ownsRow w.heap.size 36 2 (.slice a m c) ((p.take m).map tmr).length (tflat ((p.take m).map tmr)) := by rw [hlt2]; exact ho3
      obtain ⟨g', c', w4, hr4, ho4, hg4⟩ := append_t w.heap.size (.slice a m c) ((p.take m).map tmr) (tmr (g l 0)) w3 ho3' hsz (by rw [hlt2]; omega)
      rw [hlt2] at hr4 ho4
      have e4 : (p.take m).map tmr ++ [tmr (g l 0)] = (p.take (m + 1)).map tmr := by rw [take_g p m hlt, HE0.out]; simp
      rw [e4] at ho4
      have hlt3 : ((p.take (m + 1)).map tmr).length = m + 1 := by rw [List.length_map, List.length_take]; omega
      rw [hlt3] at ho4
      have hM4 := HMem.aside h3 ho3 hg4
      have hF4 := (HF.out.trans hF3).aside hB ho3 hg4
      have Hr := hidOf hr4
      unfold tmr at Hr
      have HST : Hid (HSt B w4 hb (p.drop (m + 1) ++ r)) := ⟨⟨_, _, _, hM4, HH2.out, HP2.out⟩, HS2.out⟩
      have HO4 := hidOf ho4
      have HF4 := hidOf hF4
      have hfl := field_nt (.int .i64 (g l 0).tm) (.int .i64 (g l 0).tok) (.int .i64 (g l 0).num)
      have hta := assert_nt (.agg #[.int .i64 (g l 0).tm, .int .i64 (g l 0).tok, .int .i64 (g l 0).num])
      clear hpop h3 hF3 ho3 ho3' hr4 ho4 hM4 hF4 e4 hg4 hlt2 hlt3 HO HF HM HN HE0 HH2 HP2 HS2 c0 x1
      go_wp2_with (at_builtin; refine wpList_append_run rfl _ _ 24 rfl _ _ _ rfl rfl Hr.out ?_)
      go_roundw
      case rel => exact ⟨m + 1, some ⟨g', 0, none⟩, c', by omega, rfl, HO4.out, HST.out, HF4.out⟩
      case measure => simp [slen]; omega
    · obtain rfl : m = p.length := by omega
      rw [List.drop_length, List.nil_append] at hPm hsrt hlen
      have hown := HO.out
      rw [List.take_length] at hown
      have HOw := hidOf hown
      have HST : Hid (HSt B wr hb r) := ⟨⟨_, _, _, HM.out, hH, hPm⟩, hsrt⟩
      cases r with
      | nil =>
        have hl0 : l.length = 0 := by simpa using hlen
        clear hM hH hPm hsrt hlen hown
        go_wp2_with fail
        refine (len_any B hb _ k l _ HM.out).mono ?_
        rintro e2 w2 ⟨rfl, rfl⟩
        rw [hl0]
        clear hl0
        go_wp2
        go_ret
        exact ⟨_, rfl, HOw.out, HST.out, HF.out⟩
      | cons x r =>
        obtain ⟨e0, _⟩ := pop_sorted hH hPm hsrt
        have hx : ¬ (g l 0).tm ≤ time := by
          rw [e0]
          rcases HR.out with e | e
          · cases e
          · rw [g_cons] at e; omega
        have hpos : 0 < l.length := by rw [hlen]; simp
        have hposi : (0 : Int) < (l.length : Int) := by omega
        have c0 := hM.c0
        obtain ⟨b, cap, rfl, _⟩ := hM.form hpos
        obtain ⟨x1, _, _⟩ := row_cells hM.row rfl hpos
        rw [Nat.zero_mul] at x1
        clear hM hH hPm hsrt hlen e0 hown
        go_wp2_with fail
        refine (len_any B hb _ k l _ HM.out).mono ?_
        rintro e2 w2 ⟨rfl, rfl⟩
        generalize hn : l.length = n at *
        clear hn
        go_wp2
        go_ret
        exact ⟨_, rfl, HOw.out, HST.out, HF.out⟩
end Go.Proofs.Ytfahfbeemgigcaa
