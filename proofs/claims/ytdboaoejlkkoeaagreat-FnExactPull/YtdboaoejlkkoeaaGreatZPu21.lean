/-
  The program's round of messages: read out
  The program's waiters: who quits; no other block has turned
  The program's waiters made anew
-/
import Derived.Test.YtdboaoejlkkoeaaGreatZPu20
namespace Go.Proofs.YtdboaoejlkkoeaaGreat
open Go.RowKit Pl Il
def itemsP (P : Nat → Tm) (f n : Nat) : List Tm := (List.range n).map fun i => P ((f + i) % 17)
def segP (P : Nat → Tm) (s n : Nat) : List Tm := (List.range n).map fun i => P (s + i)
theorem itemsP_len (P : Nat → Tm) (f n : Nat) : (itemsP P f n).length = n := by simp [itemsP]
theorem segP_len (P : Nat → Tm) (s n : Nat) : (segP P s n).length = n := by simp [segP]
theorem segP_get {P : Nat → Tm} {s n i : Nat} (h : i < n) : qg (segP P s n) i = P (s + i) := by rw [qg_eq (by rw [segP_len]; exact h)]; simp [segP]
theorem itemsP_get {P : Nat → Tm} {f n i : Nat} (h : i < n) : qg (itemsP P f n) i = P ((f + i) % 17) := by rw [qg_eq (by rw [itemsP_len]; exact h)]; simp [itemsP]
theorem itemsP_lay {P : Nat → Tm} {f : Nat} {its : List Tm} (h : its.length ≤ 17) : itemsP (layP P f its) f its.length = its := by
  refine List.ext_getElem (itemsP_len _ _ _) fun i h1 h2 => ?_
  simp only [itemsP, List.getElem_map, List.getElem_range, layP, dstP]
  rw [show ((f + i) % 17 + 17 - f % 17) % 17 = i by omega, if_pos h2, qg_eq h2]
theorem RndB.seg {b o : Nat} {P : Nat → Tm} {w : World} (h : RndB b o P w) (hP : ∀ j, (P j).2.2.size ≤ maxLen) {s n : Nat} (hs : s + n ≤ 17) : TmAt w (some ⟨b, o + s * 3, none⟩) n (segP P s n) := by
  refine ⟨segP_len _ _ _, fun p hp => ?_, .inr ⟨b, o + s * 3, rfl, h.lt, fun i hi => ?_⟩⟩
  · simp only [segP, List.mem_map] at hp
    obtain ⟨i, _, rfl⟩ := hp
    exact hP _
  · rw [segP_get hi, show o + s * 3 + i * 3 = o + (s + i) * 3 by omega]
    exact h.pl (s + i) (by omega)
def ItmP (w : World) (L : List Tm) (n : Nat) (e : Ending) (w' : World) : Prop := ∃ g, e = .returned (.slice (some ⟨g, 0, none⟩) n n) ∧ w'.ownsRow w.heap.size 30 3 (.slice (some ⟨g, 0, none⟩) n n) n (qflat L) ∧ Below w.heap.size w w'
theorem row_of {B g n : Nat} {w : World} {cur : Array Value} {t : TypeId} {L : List Tm} (hB : B ≤ g) (hg : w.heap[g]? = some (.cells cur t (0, 0))) (hs : cur.size = n * 3) (hn : n ≤ 2097152) (hL : L.length = n) (hc : ∀ j, j < n * 3 → w.cell? ⟨g, j, none⟩ = (qflat L)[j]?) : w.ownsRow B t 3 (.slice (some ⟨g, 0, none⟩) n n) n (qflat L) := by
  refine ⟨by rw [length_qflat, hL], .inr ⟨g, n, cur, rfl, hB, hg, Nat.le_refl _, by unfold maxLen; omega, hs, ?_⟩⟩
  refine List.ext_getElem? fun j => ?_
  rw [List.take_of_length_le (by rw [Array.length_toList]; omega)]
  by_cases hj : j < n * 3
  · have := hc j hj
    rw [← this]
    simp [World.cell?, hg]
  · rw [List.getElem?_eq_none (by rw [Array.length_toList]; omega), List.getElem?_eq_none (by rw [length_qflat, hL]; omega)]
set_option maxRecDepth 100000 in
set_option maxHeartbeats 8000000 in
theorem items_any (b o f n : Nat) (P : Nat → Tm) (w : World) (hR : RndB b o P w) (c51 : w.cell? ⟨b, o + 51, none⟩ = some (.int .i64 (f : Int))) (c52 : w.cell? ⟨b, o + 52, none⟩ = some (.int .i64 ((f + n : Nat) : Int))) (hn : n ≤ 17) (hf : f + n ≤ 2000000000) (hP : ∀ j, (P j).2.2.size ≤ maxLen) :
  Calls Tryz.prog 147 #[.pointer (some ⟨b, o, none⟩)] w fun e w' => ItmP w (itemsP P f n) n e w' := by
 have hH : FilS b o (f : Int) ((f + n : Nat) : Int) w w := ⟨c51, c52, Below.refl _ _⟩
 have HR := hidOf hR
 have HP := hidOf hP
 have HC := hidOf (fun (u : World) => span_any b o f n u (by omega) hn)
 clear hR c51 c52 hP
 go_enter Tryz.func147, Tryz.ntmps147
 go_upto_region 1 with fail
 refine wp_region_noPanic ?_
 refine wp_region_held_drew (S := fun w' => FilS b o (f : Int) ((f + n : Nat) : Int) w w') (by kernel_rfl) hH.drew (fun hHeld => ?_)
 refine tK 0 ?_ rfl (by kernel_rfl) (by rfl) ?_ (by assumption) (fun _ _ _ h => h) ?_
 case refine_2 => (intro w hSw; (try dsimp only at hSw); go_simp; try with_reducible rfl)
 simp only [Act.put, List.getElem_toArray, List.getElem_cons_zero, List.setIfInBounds_toArray, List.set_cons_zero, List.set_cons_succ]
 refine tR 1 ?_
 refine tR 2 ?_
 refine tR 3 ?_
 refine tR 4 ?_
 refine tR 5 ?_
 refine tR 6 ?_
 refine tR 7 ?_
 refine tR 8 ?_
 refine tW 9 (fun K hK => ?_)
 go_simp
 first
  | refine (HC.out _).mono ?_
  | (rw [show (f : Int) + (n : Int) = ((f + n : Nat) : Int) by omega]; refine (HC.out _).mono ?_)
 rintro e w5 ⟨rfl, hb5⟩
 go_wp2_with fail
 have hS5 := FilS.keep hHeld hb5
 refine hK.out _ _ hS5 (fun hHeld => ?_)
 clear hK K
 refine tR 10 ?_
 refine tR 11 ?_
 refine tR 12 ?_
 refine tR 13 ?_
 refine tR 14 ?_
 refine wpAnyH_done (by kernel_rfl) ?_ _
 refine NoPanic.normal ?_
 have hB5 := hS5.2.2
 have R5 := HR.out.keep hB5
 have hmod : f % 17 < 17 := Nat.mod_lt _ (by omega)
 have hmk := make_msgs n (by omega)
 obtain ⟨W2, hW2⟩ : ∃ W, w5.alloc (.cells (madeCells #[.int .i64 0, .int .i64 0, .string ⟨#[]⟩] (n * 3)) 30) = W := ⟨_, rfl⟩
 have b2 : Below w5.heap.size w5 W2 := by rw [← hW2]; exact bl_alloc (Below.refl _ _) _
 have R2 := R5.keep b2
 have hg2 : W2.heap[w5.heap.size]? = some (.cells (madeCells #[.int .i64 0, .int .i64 0, .string ⟨#[]⟩] (n * 3)) 30 (0, 0)) := by rw [← hW2]; exact heap_alloc_new w5 _
 have hsz2 : (madeCells #[.int .i64 0, .int .i64 0, .string ⟨#[]⟩] (n * 3)).size = n * 3 := size_madeCells _ _
 have bw : Below w.heap.size w W2 := bl_trans hB5 b2
 have hs5 := hB5.size
 clear hHeld hS5
 by_cases hsp : f % 17 + n ≤ 17
 ·have eA : spanA b o (f % 17) n = .slice (some ⟨b, o + f % 17 * 3, none⟩) n (17 - f % 17) := if_pos hsp
  have eB : spanB b o (f % 17) n = .slice none 0 0 := if_pos hsp
  rw [eA, eB]
  obtain ⟨w6, hr6, hc6⟩ := copy_msgs W2 w5.heap.size 0 n n (some ⟨b, o + f % 17 * 3, none⟩) n (17 - f % 17) (segP P (f % 17) n) _ _ hg2 (R2.seg HP.out hsp) (by omega)
  rw [show Nat.min n n = n from Nat.min_self n] at hr6 hc6
  obtain ⟨cur6, hg6, hsz6⟩ := hc6.blk _ _ hg2
  obtain ⟨w7, hr7, hc7⟩ := copy_msgs w6 w5.heap.size 0 0 0 none 0 0 [] cur6 _ hg6 (TmAt.nil _ _) (by omega)
  obtain ⟨cur7, hg7, hsz7⟩ := hc7.blk _ _ hg6
  have HQ := hidOf (show ItmP w (itemsP P f n) n (.returned (.slice (some ⟨w5.heap.size, 0, none⟩) n n)) w7 by
   refine ⟨_, rfl, row_of hs5 hg7 (by omega) (by omega) (itemsP_len _ _ _) (fun j hj => ?_), ((bw.grown hc6.grown bw.size (fun k hk => by injection hk with hk; omega)).grown hc7.grown (Nat.le_trans bw.size hc6.grown.size) (fun k hk => by injection hk with hk; omega))⟩
   rw [hc7.cells, if_neg (by simp), hc6.cells, if_pos (by omega), Nat.sub_zero]
   have e1 : segP P (f % 17) n = itemsP P f n := by
    unfold segP itemsP
    refine List.map_congr_left fun i hi => ?_
    rw [List.mem_range] at hi
    congr 1
    omega
   rw [e1])
  clear hc6 hc7 hg2 hg6 hg7 R2 R5 b2 bw hsz2 hsz6 hsz7
  go_wp2
  all_goals go_ret
  all_goals exact HQ.out
 ·have eA : spanA b o (f % 17) n = .slice (some ⟨b, o + f % 17 * 3, none⟩) (17 - f % 17) (17 - f % 17) := if_neg hsp
  have eB : spanB b o (f % 17) n = .slice (some ⟨b, o, none⟩) (f % 17 + n - 17) 17 := if_neg hsp
  rw [eA, eB]
  obtain ⟨w6, hr6, hc6⟩ := copy_msgs W2 w5.heap.size 0 n n (some ⟨b, o + f % 17 * 3, none⟩) (17 - f % 17) (17 - f % 17) (segP P (f % 17) (17 - f % 17)) _ _ hg2 (R2.seg HP.out (by omega)) (by omega)
  rw [show Nat.min (17 - f % 17) n = 17 - f % 17 from Nat.min_eq_left (by omega)] at hr6 hc6
  obtain ⟨cur6, hg6, hsz6⟩ := hc6.blk _ _ hg2
  have R6 : RndB b o P w6 := by
   have hbl := R5.lt
   have key := hc6.grown.block b (Nat.lt_of_lt_of_le hbl b2.size) (fun e => by injection e with e; omega)
   refine ⟨by obtain ⟨c1, t1, h1, h2⟩ := R2.blk; exact ⟨c1, t1, by rw [key]; exact h1, h2⟩, fun j hj => ?_⟩
   obtain ⟨h1, h2, h3⟩ := R2.pl j hj
   exact ⟨by rw [← h1]; exact World.cell?_of_block key, by rw [← h2]; exact World.cell?_of_block key, by rw [← h3]; exact World.cell?_of_block key⟩
  have I6 := R6.seg HP.out (s := 0) (n := f % 17 + n - 17) (by omega)
  rw [Nat.zero_mul, Nat.add_zero] at I6
  obtain ⟨w7, hr7, hc7⟩ := copy_msgs w6 w5.heap.size ((17 - f % 17) * 3) (n - (17 - f % 17)) (n - (17 - f % 17)) (some ⟨b, o, none⟩) (f % 17 + n - 17) 17 (segP P 0 (f % 17 + n - 17)) cur6 _ hg6 I6 (by omega)
  rw [show Nat.min (f % 17 + n - 17) (n - (17 - f % 17)) = f % 17 + n - 17 from Nat.min_eq_left (by omega)] at hr7 hc7
  obtain ⟨cur7, hg7, hsz7⟩ := hc7.blk _ _ hg6
  have HQ := hidOf (show ItmP w (itemsP P f n) n (.returned (.slice (some ⟨w5.heap.size, 0, none⟩) n n)) w7 by
   refine ⟨_, rfl, row_of hs5 hg7 (by omega) (by omega) (itemsP_len _ _ _) (fun j hj => ?_), ((bw.grown hc6.grown bw.size (fun k hk => by injection hk with hk; omega)).grown hc7.grown (Nat.le_trans bw.size hc6.grown.size) (fun k hk => by injection hk with hk; omega))⟩
   have ej : j / 3 * 3 + j % 3 = j := by omega
   have e0 := qflat_at (itemsP P f n) (j / 3) (j % 3) (by rw [itemsP_len]; omega) (by omega)
   rw [ej, itemsP_get (by omega)] at e0
   rw [e0, hc7.cells]
   by_cases h1 : (17 - f % 17) * 3 ≤ j
   ·rw [if_pos (by omega)]
    have e1 := qflat_at (segP P 0 (f % 17 + n - 17)) (j / 3 - (17 - f % 17)) (j % 3) (by rw [segP_len]; omega) (by omega)
    rw [show (j / 3 - (17 - f % 17)) * 3 + j % 3 = j - (17 - f % 17) * 3 by omega, segP_get (by omega)] at e1
    rw [e1, show (f + j / 3) % 17 = 0 + (j / 3 - (17 - f % 17)) by omega]
   ·rw [if_neg (by omega), hc6.cells, if_pos (by omega), Nat.sub_zero]
    have e1 := qflat_at (segP P (f % 17) (17 - f % 17)) (j / 3) (j % 3) (by rw [segP_len]; omega) (by omega)
    rw [ej, segP_get (by omega)] at e1
    rw [e1, show (f + j / 3) % 17 = f % 17 + j / 3 by omega])
  have hk1 : ((17 - f % 17 : Nat) : Int) ≤ (n : Int) := by omega
  have hk2 : ¬ n = 17 - f % 17 := by omega
  have hk3 : ¬ 17 - f % 17 = n := by omega
  have hsum : ((17 - f % 17 : Nat) : Int) + ((f % 17 + n - 17 : Nat) : Int) = (n : Int) := by omega
  obtain ⟨m, hm⟩ : ∃ m, 17 - f % 17 = m := ⟨_, rfl⟩
  obtain ⟨r, hr⟩ : ∃ r, f % 17 + n - 17 = r := ⟨_, rfl⟩
  rw [hm, hr] at hsum
  rw [hm] at hr6 hr7 hk1 hk2 hk3
  rw [hr] at hr7
  rw [hm, hr]
  have hrm : r ≤ 17 ∧ m ≤ 17 := by omega
  have hk0 : (0 : Int) ≤ (m : Int) := by omega
  clear hc6 hc7 hg2 hg6 hg7 R2 R5 R6 I6 b2 bw hsz2 hsz6 hsz7 hm hr eA eB
  go_wp2
  all_goals go_ret
  all_goals exact HQ.out
end Go.Proofs.YtdboaoejlkkoeaaGreat
namespace Go.Proofs.YtdboaoejlkkoeaaGreat
open Go.RowKit Go.Maps Pl Il
abbrev TurnB (b : Nat) (w w' : World) : Prop := TurnL [(some ⟨b, 0, none⟩, 1)] w w'
open Go.RowKit Go.Maps Pl Il
theorem newWaiters_any (a : Option Addr) (n cap : Nat) (ls : List Int) (a' : Option Addr) (n' cap' : Nat) (ts : List Int) (w : World) (hI : IntsAt w a n ls) (hJ : IntsAt w a' n' ts) (hn : n ≤ 2097152) (hn' : n' ≤ 2097152) :
    Calls Tryz.prog 142 #[.slice a n cap, .slice a' n' cap'] w fun e w' => ∃ a1 c1 a2 c2, e = .returned (.agg #[.slice a1 n c1, .slice a2 n' c2]) ∧ Rows2 w.heap.size w' ⟨a1, n, c1, a2, n', c2⟩ ls ts ∧ Below w.heap.size w w' := by
  generalize hW : w.alloc (.cells #[.slice none 0 0, .slice none 0 0] 140) = W
  have b0 : Below w.heap.size w W := by subst hW; exact bl_alloc (Below.refl _ _) _
  have s0 : W.heap.size = w.heap.size + 1 := by subst hW; simp
  have HI := hidOf (hI.keep b0)
  have HJ := hidOf (hJ.keep b0)
  have e0 : W.cell? ⟨w.heap.size, 0, none⟩ = some (.slice none 0 0) := by subst hW; simp
  have e1 : W.cell? ⟨w.heap.size, 1, none⟩ = some (.slice none 0 0) := by subst hW; simp
  have ef : ∀ o, W.frozen? ⟨w.heap.size, o, none⟩ = false := by subst hW; intro o; simp [go_sem]
  have hl0 : w.heap.size < W.heap.size := by omega
  clear hI hJ
  subst hW
  go_enter Tryz.func142, Tryz.ntmps142
  go_wp2_with fail
  refine (copied_row a n cap ls _ HI.out hn).mono ?_
  rintro e w1 ⟨a1, c1, rfl, hr1, hb1⟩
  have HJ1 := hidOf (HJ.out.keep hb1)
  have d0 := e0
  rw [← hb1.cell (p := ⟨w.heap.size, 0, none⟩) hl0] at d0
  have d1 := e1
  rw [← hb1.cell (p := ⟨w.heap.size, 1, none⟩) hl0] at d1
  have df : ∀ o, w1.frozen? ⟨w.heap.size, o, none⟩ = false := fun o => by rw [hb1.frozen (p := ⟨w.heap.size, o, none⟩) hl0]; exact ef o
  have Hr1 := hidOf hr1
  have B1 := hidOf (bl_trans b0 hb1)
  have hs1 := hb1.size
  clear e0 e1 ef HI HJ hr1 hb1 b0
  go_wp2_with fail
  refine (copied_row a' n' cap' ts _ HJ1.out hn').mono ?_
  rintro e w2 ⟨a2, c2, rfl, hr2, hb2⟩
  have f0 := d0
  rw [← hb2.cell (p := ⟨w.heap.size, 0, none⟩) (by simp only; omega)] at f0
  have f1 := d1
  rw [← hb2.cell (p := ⟨w.heap.size, 1, none⟩) (by simp only; omega)] at f1
  have ff : ∀ o, w2.frozen? ⟨w.heap.size, o, none⟩ = false := fun o => by rw [hb2.frozen (p := ⟨w.heap.size, o, none⟩) (by simp only; omega)]; exact df o
  have hR : Rows2 (w.heap.size + 1) w2 ⟨a1, n, c1, a2, n', c2⟩ ls ts := by
    rw [s0] at Hr1
    refine ⟨row_below Hr1.out hb2, row_mono hr2 (by omega), fun q e e' => ?_⟩
    have h1 := (Hr1.out.lt q e).2
    have h2 := (hr2.lt q e').1
    omega
  have hR2 := (hR.far w.heap.size 0 (by omega) (.slice a1 n c1)).far w.heap.size 1 (by omega) (.slice a2 n' c2)
  have hB2 := bl_set1 (bl_set1 (bl_trans B1.out hb2) w.heap.size 0 (Nat.le_refl _) (.slice a1 n c1)) w.heap.size 1 (Nat.le_refl _) (.slice a2 n' c2)
  have HR2 := hidOf hR2
  have HB2 := hidOf hB2
  clear hR hR2 hB2 hr2 hb2 Hr1 B1 d0 d1 df HJ1
  go_wp2
  refine bodyPost_ret (v := .agg #[.slice a1 n c1, .slice a2 n' c2]) (by simp [results, Tryz.results142, go_sem, f0, f1]) rfl ⟨a1, c1, a2, c2, rfl, HR2.out.mono (by omega), HB2.out⟩
end Go.Proofs.YtdboaoejlkkoeaaGreat
