/-
  What a law on a ring handed back and a list told in full holds on to b
  The program's round of messages: those of the first numbers are let go
  The program's round of messages: dropUpTo
  The program's ring: its oldest, and what is let go
-/
import Derived.Test.YtdboaoejlkkoeaaGreatZPu34
namespace Go.Proofs.YtdboaoejlkkoeaaGreat
open Go.RowKit Pl Il
theorem TdAt.turn {ls : List (Option Addr × Nat)} {w w' : World} {a : Option Addr} {n : Nat} {l : List Td} (h : TdAt w a n l) (ht : TurnL ls w w') (hf : ∀ p, p ∈ ls → Far p.1 p.2 a n) : TdAt w' a n l := by
  refine ⟨h.len, ?_⟩
  rcases Nat.eq_zero_or_pos n with h0 | h0
  · exact .inl h0
  rcases h.row with k | ⟨b, off, rfl, hlt, hc⟩
  · exact .inl k
  · have key := ht.keepB hlt h0 hf
    refine .inr ⟨b, off, rfl, Nat.lt_of_lt_of_le hlt ht.size, fun i hi => ?_⟩
    have h1 := hc i hi
    exact ⟨by rw [← h1.c0]; exact World.cell?_of_block key, by rw [← h1.c1]; exact World.cell?_of_block key, by rw [← h1.c2]; exact World.cell?_of_block key, by rw [← h1.c3]; exact World.cell?_of_block key, by rw [← h1.c4]; exact World.cell?_of_block key, by rw [← h1.c5]; exact World.cell?_of_block key⟩
theorem OwnD.turn {ls : List (Option Addr × Nat)} {B : Nat} {w w' : World} {a : Option Addr} {n : Nat} {l : List Td} (h : OwnD B w a n l) (ht : TurnL ls w w') (hf : ∀ p, p ∈ ls → Far p.1 p.2 a n) : OwnD B w' a n l := by
  refine ⟨h.td.turn ht hf, ?_⟩
  rcases Nat.eq_zero_or_pos n with h0 | h0
  · exact .inl h0
  rcases h.own with k | ⟨b, off, rfl, hB, hfr⟩
  · exact .inl k
  rcases h.td.row with k | ⟨b', off', e, hlt, _⟩
  · exact .inl k
  · cases e
    have key := ht.keepB hlt h0 hf
    exact .inr ⟨b, off, rfl, hB, fun o => by rw [← hfr o]; exact World.frozen?_of_block key⟩
theorem abv_d {B : Nat} {w : World} {a : Option Addr} {n : Nat} {l : List Td} (h : OwnD B w a n l) : Abv a n B := by
  rcases h.own with k | ⟨b', off', e, hB, _⟩
  · exact .inl k
  · exact .inr fun b1 o1 e1 => by rw [e] at e1; cases e1; exact hB
theorem und_d {w : World} {a : Option Addr} {n : Nat} {l : List Td} (h : TdAt w a n l) : Und a n w.heap.size := by
  rcases h.row with k | ⟨b', off', e, hlt, _⟩
  · exact .inl k
  · exact .inr fun b1 o1 e1 => by rw [e] at e1; cases e1; exact hlt
theorem eqToldS_two (a a' : Option Addr) (n n' cap cap' : Nat) (l : List Td) (w : World) (hI : TdAt w a n l) (hJ : TdAt w a' n' l) (hn : n ≤ 2097152) :
    Calls Tryz.prog 69 #[.slice a n cap, .slice a' n' cap'] w fun e w' => e = .returned (.bool true) ∧ Below w.heap.size w w' := by
  have h : n = n' := by rw [← hI.len, ← hJ.len]
  subst h
  exact eqToldS_same a a' n cap cap' l w hI hJ hn
def RgTd (w : World) (v : Rv) (l : List Td) (c : Int) (e : Ending) (w' : World) : Prop := ∃ (M : Rm) (a : Option Addr) (n k : Nat), e = .returned (.tuple #[.agg #[.int .i64 v.cp, .int .i64 v.se, .slice M.ia M.i M.ic, .int .i64 v.nx, .slice M.sa M.s M.sc, .slice M.la M.l M.lc, .slice M.ga M.g M.gc, .bool v.cl], .slice a n k, .int .i64 c]) ∧ ROwn w.heap.size w' M v ∧ RLe M 2097152 ∧ OwnD w.heap.size w' a n l ∧ n ≤ 2097152 ∧ (∀ p, p ∈ allR M → Far p.1 p.2 a n) ∧ Below w.heap.size w w'
theorem own_of_row {B : Nat} {w : World} {a : Option Addr} {n c : Nat} {l : List Td} (h : w.ownsRow B 53 6 (.slice a n c) n (dflat l)) : OwnD B w a n l := by
  refine ⟨td_of_row h, ?_⟩
  obtain ⟨hl, ⟨e, hn⟩ | ⟨g, cp, cur, e, hB, hg, hc, hm, hs, ht⟩⟩ := h
  · exact .inl hn
  · injection e with e1 e2 e3
    exact .inr ⟨g, 0, e1, hB, fun o => by simp [World.frozen?, hg]⟩
theorem PulS.weak {w : World} {v : Rv} {l : List Td} {c : Int} {e : Ending} {w' : World} (h : PulS w v l c e w') (hl : l.length ≤ 2097152) : RgTd w v l c e w' := by
  obtain ⟨M, a, n, k, he, hr, hm, ho, hf, hb⟩ := h
  have hd := own_of_row ho
  refine ⟨M, a, n, k, he, hr.own, hm, hd, by rw [← hd.td.len]; exact hl, fun p hp => ?_, hb⟩
  refine .inr (.inr fun b off b' off' e1 e2 hbb => ?_)
  subst hbb
  refine hf b (by rw [e2]; rfl) ?_
  unfold allR at hp
  unfold blkR
  simp only [List.mem_cons, List.mem_map] at hp ⊢
  rcases hp with rfl | rfl | rfl | rfl | ⟨x, hx, rfl⟩
  · exact .inl (by rw [show M.ia = some ⟨b, off, none⟩ from e1]; rfl)
  · exact .inr (.inl (by rw [show M.sa = some ⟨b, off, none⟩ from e1]; rfl))
  · exact .inr (.inr (.inl (by rw [show M.la = some ⟨b, off, none⟩ from e1]; rfl)))
  · exact .inr (.inr (.inr (.inl (by rw [show M.ga = some ⟨b, off, none⟩ from e1]; rfl))))
  · exact .inr (.inr (.inr (.inr ⟨x, hx, by rw [show x.a = some ⟨b, off, none⟩ from e1]; rfl⟩)))
theorem pullL_len : ∀ (n : Nat) (v : Rv) (k : Nat), (pullL n v k).2.1.length ≤ n
  | 0, _, _ => Nat.le_refl _
  | n + 1, v, k => by
    rw [pullL_succ]
    by_cases hc : readC v (v.sb.getD k Sb0) = 0
    · rw [if_pos hc]
      have := pullL_len n (trimR (rdV v k)) k
      simp only [List.length_cons]
      omega
    · rw [if_neg hc]
      exact Nat.zero_le _
theorem pulT_len (v : Rv) (id most : Int) : (pulT v id most).length ≤ 2097152 := by
  unfold pulT
  by_cases h : okR restR v = true ∧ 0 ≤ most ∧ most ≤ 50
  · rw [if_pos h]
    by_cases h1 : atR v.sb id < 0
    · rw [if_pos h1]
      exact Nat.zero_le _
    · rw [if_neg h1]
      by_cases h2 : (hasL v.ln id || hasL v.gs id) = true
      · rw [if_pos h2]
        exact Nat.zero_le _
      · rw [if_neg h2]
        have := pullL_len most.toNat v (atR v.sb id).toNat
        omega
  · rw [if_neg h]
    exact Nat.zero_le _
open Go.RowKit Pl Il
def zTm : Tm := (0, 0, ⟨#[]⟩)
theorem zero_flat (n : Nat) : (Builtin.zeroCells (Value.agg #[.int .i64 0, .int .i64 0, .string ⟨#[]⟩]).cells n).toList = qflat (List.replicate n zTm) := by
  have hz : (Value.agg #[.int .i64 0, .int .i64 0, .string ⟨#[]⟩]).cells = #[.int .i64 0, .int .i64 0, .string ⟨#[]⟩] := rfl
  rw [hz]
  refine List.ext_getElem? fun i => ?_
  by_cases hi : i < n * 3
  · have h := qflat_at (List.replicate n zTm) (i / 3) (i % 3) (by simp; omega) (by omega)
    rw [show i / 3 * 3 + i % 3 = i by omega, qg_eq (by simp; omega), List.getElem_replicate] at h
    rw [h]
    rw [List.getElem?_eq_getElem (by simp [Builtin.zeroCells]; omega)]
    simp only [Builtin.zeroCells, Array.getElem_toList, Array.getElem_map, Array.getElem_range]
    have : i % 3 = 0 ∨ i % 3 = 1 ∨ i % 3 = 2 := by omega
    rcases this with e | e | e <;> simp [e, qC, zTm]
  · rw [List.getElem?_eq_none (by simp [Builtin.zeroCells]; omega), List.getElem?_eq_none (by rw [length_qflat]; simp; omega)]
theorem clear_msgs (w : World) (b d n c : Nat) (cur : Array Value) (t : TypeId) (hn : 0 < n) (hg : w.heap[b]? = some (.cells cur t (0, 0))) (hs : d + n * 3 ≤ cur.size) :
    ∃ w', (∀ ty, (Builtin.clear_ #[24] ty #[.slice (some ⟨b, d, none⟩) n c]).run Tryz.prog w = .ok (.tuple #[]) w') ∧ CpyP b d n (List.replicate n zTm) w w' := by
  have hzl : (qflat (List.replicate n zTm)).length = n * 3 := by rw [length_qflat]; simp
  have hst := run_storeCells_at Tryz.prog b d t (qflat (List.replicate n zTm)) 0 cur w hg (by rw [hzl]; omega) (one_qflat _)
  simp only [Nat.add_zero] at hst
  refine ⟨w.setRow b (cur.toList.take d ++ qflat (List.replicate n zTm) ++ cur.toList.drop (d + (qflat (List.replicate n zTm)).length)).toArray, ?_, ⟨fun cur2 t2 h2 => ?_, grown_setRow _ _ _, fun j => ?_⟩⟩
  · intro ty
    obtain ⟨m, rfl⟩ : ∃ m, n = m + 1 := ⟨n - 1, by omega⟩
    have hst2 := hst
    rw [← zero_flat] at hst2
    simp only [Builtin.clear_]
    simp [run_underlying Tryz.underlying24, hst2]
    rw [zero_flat, hzl, ← Array.length_toList, zero_flat, hzl]
  · rw [hg] at h2
    cases h2
    refine ⟨_, setRow_heap w b cur _ t _ hg, ?_⟩
    simp only [List.size_toArray, List.length_append, List.length_take, List.length_drop, Array.length_toList, hzl]
    omega
  · rw [cell_setRow_same w b j cur _ t _ hg]
    have h := seg_at (l := cur.toList) (cs := qflat (List.replicate n zTm)) (d := d) (j := j) (by rw [hzl, Array.length_toList]; omega)
    rw [List.getElem?_toArray, h, hzl]
    split
    · rfl
    · simp [World.cell?, hg]
theorem clear_none (w : World) (ty : TypeId) (a : Option Addr) (c : Nat) : (Builtin.clear_ #[24] ty #[.slice a 0 c]).run Tryz.prog w = .ok (.tuple #[]) w := by
  cases a <;> simp [Builtin.clear_, run_underlying Tryz.underlying24]
structure DropP (b o f d n : Nat) (P P' : Nat → Tm) (w w' : World) : Prop where
  rnd : RndB b o P' w'
  grown : w.grownBy w' (some b)
  cells : ∀ j, (j < o ∨ o + 51 < j) → w'.cell? ⟨b, j, none⟩ = w.cell? ⟨b, j, none⟩
  fst : w'.cell? ⟨b, o + 51, none⟩ = some (.int .i64 ((f + d : Nat) : Int))
  same : ∀ i, d ≤ i → i < n → P' ((f + i) % 17) = P ((f + i) % 17)
  short : (∀ j, (P j).2.2.size ≤ maxLen) → ∀ j, (P' j).2.2.size ≤ maxLen
open Go.RowKit Pl Il
theorem grown_of {w u : World} {b : Nat} (h : Below w.heap.size w u) : w.grownBy u (some b) := ⟨h.os, h.tape, h.output, h.size, fun k hk _ => h.block k hk⟩
theorem grown_set (w : World) (b p : Nat) (v : Value) : w.grownBy (w.setCell ⟨b, p, none⟩ v) (some b) := ⟨rfl, rfl, rfl, by simp, fun k _ hk => Below.heap_setCell _ _ _ _ (by rintro rfl; exact hk rfl)⟩
theorem qg_rep {n i : Nat} (h : i < n) : qg (List.replicate n zTm) i = zTm := by rw [qg_eq (by simpa using h), List.getElem_replicate]
def clrP (P : Nat → Tm) (s k : Nat) (j : Nat) : Tm := if s ≤ j ∧ j < s + k then zTm else P j
theorem RndB.clear {b o s k : Nat} {P : Nat → Tm} {w w' : World} (h : RndB b o P w) (hc : CpyP b (o + s * 3) k (List.replicate k zTm) w w') : RndB b o (clrP P s k) w' :=
  (h.copied hc (by simp)).ext fun j _ => by
    unfold clrP
    split
    · rename_i h1; rw [qg_rep (by omega)]
    · rfl
theorem clr_short {P : Nat → Tm} {s k : Nat} (h : ∀ j, (P j).2.2.size ≤ maxLen) : ∀ j, (clrP P s k j).2.2.size ≤ maxLen := fun j => by
  unfold clrP
  split
  · exact Nat.zero_le _
  · exact h j
theorem DropP.mk' {b o f d n : Nat} {P P' : Nat → Tm} {w w1 w2 : World} (hb : Below w.heap.size w w1) (hlt : b < w.heap.size) (hR : RndB b o P' w2) (hg : w1.grownBy w2 (some b)) (hc : ∀ j, (j < o ∨ o + 51 ≤ j) → w2.cell? ⟨b, j, none⟩ = w1.cell? ⟨b, j, none⟩)
    (hs : ∀ i, d ≤ i → i < n → P' ((f + i) % 17) = P ((f + i) % 17)) (hsh : (∀ j, (P j).2.2.size ≤ maxLen) → ∀ j, (P' j).2.2.size ≤ maxLen) {u : Value} (h51 : w.cell? ⟨b, o + 51, none⟩ = some u) :
    DropP b o f d n P P' w (w2.setCell ⟨b, o + 51, none⟩ (.int .i64 ((f + d : Nat) : Int))) := by
  refine ⟨hR.set _ (Nat.le_refl _) _, World.grownBy.trans (grown_of hb) (World.grownBy.trans hg (grown_set _ _ _ _)), fun j hj => ?_, ?_, hs, hsh⟩
  · rw [World.cell?_setCell_other _ _ _ _ (by intro e; injection e with _ e2; omega), hc j (by omega), hb.cell (p := ⟨b, j, none⟩) hlt]
  · exact World.cell?_setCell_same _ _ _ (by rw [hc _ (by omega), hb.cell (p := ⟨b, o + 51, none⟩) hlt]; exact h51)
set_option maxRecDepth 100000 in
set_option maxHeartbeats 4000000 in
theorem dropUpTo_any (b o f d n : Nat) (P : Nat → Tm) (w : World) (hR : RndB b o P w) (c51 : w.cell? ⟨b, o + 51, none⟩ = some (.int .i64 (f : Int))) (hd : d ≤ n) (hn : n ≤ 17) (hf : f + n ≤ 2000000000) :
  Calls Tryz.prog 175 #[.pointer (some ⟨b, o, none⟩), .int .i64 ((f + d : Nat) : Int)] w fun e w' => e = .returned (.tuple #[]) ∧ ∃ P', DropP b o f d n P P' w w' := by
 have hlt := hR.lt
 have HC := hidOf (span_any b o f d w (by omega) (by omega))
 have hs17 : f % 17 < 17 := Nat.mod_lt _ (by omega)
 have HR := hidOf hR
 have H51 := hidOf c51
 obtain ⟨s, hs⟩ : ∃ s, f % 17 = s := ⟨_, rfl⟩
 rw [hs] at HC hs17
 have HS := hidOf hs
 obtain ⟨fd, hfd⟩ : ∃ fd : Int, ((f + d : Nat) : Int) = fd := ⟨_, rfl⟩
 have HFD := hidOf hfd
 rw [hfd] at HC ⊢
 clear hs hR hfd
 by_cases hA : s + d ≤ 17
 ·simp only [spanA, spanB, if_pos hA] at HC
  by_cases hd0 : d = 0
  ·subst hd0
   go_enter Tryz.func175, Tryz.ntmps175
   go_wp2_with fail
   refine HC.out.mono ?_
   rintro e w1 ⟨rfl, hb1⟩
   have HB1 := hidOf hb1
   have q51 : w1.cell? ⟨b, o + 51, none⟩ = some (.int .i64 (f : Int)) := by rw [hb1.cell (p := ⟨b, o + 51, none⟩) hlt]; exact H51.out
   have f51 : w1.frozen? ⟨b, o + 51, none⟩ = false := (HR.out.keep hb1).fr _
   have k1 := fun ty => clear_none w1 ty (some ⟨b, o + s * 3, none⟩) (17 - s)
   have k2 := fun ty => clear_none w1 ty none 0
   clear HC c51 hb1
   go_wp2_with fail
   go_end0
   rw [← HFD.out]
   exact ⟨rfl, P, DropP.mk' HB1.out hlt (HR.out.keep HB1.out) ⟨rfl, rfl, rfl, Nat.le_refl _, fun _ _ _ => rfl⟩ (fun _ _ => rfl) (fun _ _ _ => rfl) (fun h => h) H51.out⟩
  ·go_enter Tryz.func175, Tryz.ntmps175
   go_wp2_with fail
   refine HC.out.mono ?_
   rintro e w1 ⟨rfl, hb1⟩
   have HB1 := hidOf hb1
   have hR1 := HR.out.keep hb1
   obtain ⟨cur, t, hg, hsz⟩ := hR1.blk
   obtain ⟨w2, hr2, hc2⟩ := clear_msgs w1 b (o + s * 3) d (17 - s) cur t (by omega) hg (by omega)
   have hR2 := hR1.clear hc2
   have k2 := fun ty => clear_none w2 ty none 0
   have q51 : w2.cell? ⟨b, o + 51, none⟩ = some (.int .i64 (f : Int)) := by rw [hc2.cells, if_neg (by omega), hb1.cell (p := ⟨b, o + 51, none⟩) hlt]; exact H51.out
   have f51 : w2.frozen? ⟨b, o + 51, none⟩ = false := hR2.fr _
   have HR2 := hidOf hR2
   have HC2 := hidOf hc2
   clear HC c51 hb1 hR1 hR2 hc2 hg hsz
   go_wp2_with fail
   go_end0
   rw [← HFD.out]
   refine ⟨rfl, clrP P s d, DropP.mk' HB1.out hlt HR2.out HC2.out.grown (fun j hj => by rw [HC2.out.cells, if_neg (by omega)]) (fun i h1 h2 => ?_) clr_short H51.out⟩
   have := HS.out
   unfold clrP
   rw [if_neg (by omega)]
 ·simp only [spanA, spanB, if_neg hA] at HC
  go_enter Tryz.func175, Tryz.ntmps175
  go_wp2_with fail
  refine HC.out.mono ?_
  rintro e w1 ⟨rfl, hb1⟩
  have HB1 := hidOf hb1
  have hR1 := HR.out.keep hb1
  obtain ⟨cur, t, hg, hsz⟩ := hR1.blk
  obtain ⟨w2, hr2, hc2⟩ := clear_msgs w1 b (o + s * 3) (17 - s) (17 - s) cur t (by omega) hg (by omega)
  have hR2 := hR1.clear hc2
  obtain ⟨cur2, t2, hg2, hsz2⟩ := hR2.blk
  obtain ⟨w3, hr3, hc3⟩ := clear_msgs w2 b (o + 0 * 3) (s + d - 17) 17 cur2 t2 (by omega) hg2 (by omega)
  have hR3 := hR2.clear hc3
  rw [Nat.zero_mul, Nat.add_zero] at hr3
  have q51 : w3.cell? ⟨b, o + 51, none⟩ = some (.int .i64 (f : Int)) := by rw [hc3.cells, if_neg (by omega), hc2.cells, if_neg (by omega), hb1.cell (p := ⟨b, o + 51, none⟩) hlt]; exact H51.out
  have f51 : w3.frozen? ⟨b, o + 51, none⟩ = false := hR3.fr _
  have HR3 := hidOf hR3
  have HC2 := hidOf hc2
  have HC3 := hidOf hc3
  clear HC c51 hb1 hR1 hR2 hR3 hc2 hc3 hg hsz hg2 hsz2
  go_wp2_with fail
  go_end0
  rw [← HFD.out]
  refine ⟨rfl, clrP (clrP P s (17 - s)) 0 (s + d - 17), DropP.mk' HB1.out hlt HR3.out (HC2.out.grown.trans HC3.out.grown) (fun j hj => by rw [HC3.out.cells, if_neg (by omega), HC2.out.cells, if_neg (by omega)]) (fun i h1 h2 => ?_) (fun h => clr_short (clr_short h)) H51.out⟩
  have := HS.out
  unfold clrP
  rw [if_neg (by omega), if_neg (by omega)]
open Go.RowKit Pl Il
theorem RBody.drop {B b : Nat} {A : Na} {P P' : Nat → Tm} {f d : Nat} {v : Rv} {sa : Option Addr} {s sc : Nat} {ys : List Sa} {w w' : World} (h : RBody B b A P f v sa s sc ys w) (hD : DropP b 3 f d v.it.length P P' w w') (hd : d ≤ v.it.length) : RBody B b A P' (f + d) { v with it := v.it.drop d } sa s sc ys w' := by
  have hg := hD.grown
  have ct : ∀ j, (j < 3 ∨ 3 + 51 < j) → ∀ {u : Value}, w.cell? ⟨b, j, none⟩ = some u → w'.cell? ⟨b, j, none⟩ = some u := fun j hj u e => by rw [hD.cells j hj]; exact e
  have hl : (v.it.drop d).length = v.it.length - d := List.length_drop
  refine ⟨⟨Nat.lt_of_lt_of_le h.wst.lt hg.size, h.wst.ge, ct 0 (by omega) h.wst.c0, ct 1 (by omega) h.wst.c1, fun o => hD.rnd.fr o, ⟨rowG h.wst.rows.one hg (fun q e => by injection e with e; rw [← e]; exact h.wst.ne1), rowG h.wst.rows.two hg (fun q e => by injection e with e; rw [← e]; exact h.wst.ne2), h.wst.rows.ne⟩, h.wst.ne1, h.wst.ne2⟩, hD.rnd, ct 2 (by omega) h.c2, hD.fst, ?_, ct 56 (by omega) h.c56, ct 57 (by omega) h.c57, ct 58 (by omega) h.c58, ⟨rowG h.srow.sb hg (fun q e => by injection e with e; rw [← e]; exact h.nb.1), fun x hx => rowG (h.srow.fl x hx) hg (fun q e => by injection e with e; rw [← e]; exact h.nb.2 x hx), h.srow.fls, h.srow.apt⟩, h.sv, ?_, hD.short h.sh, ?_, ?_, h.nb, h.ap⟩
  · have := ct (3 + 52) (by omega) h.nxt
    rw [this]
    show some (Value.int .i64 ((f + v.it.length : Nat) : Int)) = some (.int .i64 ((f + d + (v.it.drop d).length : Nat) : Int))
    rw [hl, show f + d + (v.it.length - d) = f + v.it.length by omega]
  · show itemsP P' (f + d) (v.it.drop d).length = v.it.drop d
    have e := h.its
    refine List.ext_getElem (by rw [itemsP_len]) fun i h1 h2 => ?_
    rw [itemsP_len, hl] at h1
    have e2 : (v.it.drop d)[i]'h2 = (itemsP P f v.it.length)[d + i]'(by rw [itemsP_len]; omega) := by
      rw [List.getElem_drop]
      congr 1
      exact e.symm
    rw [e2]
    simp only [itemsP, List.getElem_map, List.getElem_range]
    rw [show f + d + i = f + (d + i) by omega]
    exact hD.same (d + i) (by omega) (by omega)
  · show v.se = ((f + d + (v.it.drop d).length : Nat) : Int)
    rw [hl, show f + d + (v.it.length - d) = f + v.it.length by omega]
    exact h.se
  · have := h.few
    show (v.it.drop d).length ≤ 17 ∧ f + d + (v.it.drop d).length ≤ 2000000000
    omega
open Go.RowKit Pl Il
theorem SRow.sub {B : Nat} {w : World} {a : Option Addr} {n c : Nat} {ys : List Sa} (h : SRow B w a n c ys) : SubAt w a n ys := by
  have hfl : ∀ x, x ∈ ys → OwnF B w x.a x.n x.s.fl := fun x hx => by
    obtain ⟨a1, c1, e1, _, h1⟩ := ownF_of (h.fl x hx) x.s.fl rfl (h.fls x hx)
    cases e1
    exact h1
  obtain ⟨hl, _, hr⟩ := rowS h.sb
  refine ⟨hl, fun x hx => (hfl x hx).tm, ?_⟩
  rcases hr with k | ⟨b, e, _, hlt, _, hc⟩
  · exact .inl k
  · exact .inr ⟨b, 0, e, hlt, hc⟩
set_option maxRecDepth 100000 in
set_option maxHeartbeats 4000000 in
theorem oldest_any (B b : Nat) (A : Na) (P : Nat → Tm) (f : Nat) (v : Rv) (sa : Option Addr) (s sc : Nat) (ys : List Sa) (w : World) (hR : RBody B b A P f v sa s sc ys w) (hs : s ≤ 2097152) (hse : 0 ≤ v.se ∧ v.se ≤ 1000000000) (hcp : 1 ≤ v.cp ∧ v.cp ≤ 16) :
    Calls Tryz.prog 128 #[.pointer (some ⟨b, 0, none⟩)] w fun e w' => e = .returned (.int .i64 (oldR v)) ∧ Below w.heap.size w w' := by
  have hH := hR.s
  have HC := hidOf (oldestOf_any ⟨none, 0, 0, sa, s, sc, ys, none, 0, 0, none, 0, 0⟩ v w.drew (hR.srow.keep (Below.refl _ _).drew).sub hR.sv hs hse hcp)
  simp only at HC
  clear hR hs hse hcp
  go_enter Tryz.func128, Tryz.ntmps128
  go_upto_region 1 with fail
  refine wp_region_noPanic ?_
  refine wp_region_held_drew (S := fun w' => RbS b A v sa s sc w') (by kernel_rfl) hH.drew (fun hHeld => ?_)
  refine tK 0 ?_ rfl (by kernel_rfl) (by rfl) ?_ (by assumption) (fun _ _ _ h => h) ?_
  case refine_2 => (intro w hSw; (try dsimp only at hSw); go_simp; try with_reducible rfl)
  simp only [Act.put, List.getElem_toArray, List.getElem_cons_zero, List.setIfInBounds_toArray, List.set_cons_zero, List.set_cons_succ]
  refine tR 1 ?_
  refine tR 2 ?_
  refine tR 3 ?_
  refine tR 4 ?_
  refine tR 5 ?_
  refine tR 6 ?_
  refine tR 7 ?_
  refine tR 8 ?_
  refine tR 9 ?_
  refine tR 10 ?_
  refine tR 11 ?_
  refine tR 12 ?_
  refine tW 13 (fun K hK => ?_)
  go_simp
  refine (HC.out).mono ?_
  rintro e w5 ⟨rfl, hb5⟩
  go_wp2_with fail
  have hS5 := RbS.keep hHeld hb5
  refine hK.out _ _ hS5 (fun hHeld => ?_)
  clear hK K
  refine tR 14 ?_
  refine wpAnyH_done (by kernel_rfl) ?_ _
  refine NoPanic.normal ?_
  go_wp2_with fail
  go_ret
  exact ⟨rfl, bl_trans (Below.refl _ _).drew hb5⟩
def DropD (B b : Nat) (A : Na) (f d : Nat) (v : Rv) (sa : Option Addr) (s sc : Nat) (ys : List Sa) (w : World) (e : Ending) (w' : World) : Prop := e = .returned (.tuple #[]) ∧ ∃ P', RBody B b A P' (f + d) { v with it := v.it.drop d } sa s sc ys w' ∧ w.grownBy w' (some b)
set_option maxRecDepth 100000 in
set_option maxHeartbeats 4000000 in
theorem dropOld_any (B b : Nat) (A : Na) (P : Nat → Tm) (f : Nat) (v : Rv) (sa : Option Addr) (s sc : Nat) (ys : List Sa) (w : World) (hR : RBody B b A P f v sa s sc ys w) (hs : s ≤ 2097152) (hse : 0 ≤ v.se ∧ v.se ≤ 1000000000) (hcp : 1 ≤ v.cp ∧ v.cp ≤ 16) (d : Nat) (hd : d ≤ v.it.length) (ho : oldR v = ((f + d : Nat) : Int)) :
    Calls Tryz.prog 146 #[.pointer (some ⟨b, 0, none⟩)] w fun e w' => DropD B b A f d v sa s sc ys w e w' := by
  have HRd := hidOf (hR.keep (Below.refl _ _).drew)
  have HR := hidOf hR
  have HC := hidOf (oldest_any B b A P f v sa s sc ys w.drew HRd.out hs hse hcp)
  have HO := hidOf ho.symm
  clear hR hs hse hcp ho
  generalize hov : oldR v = ov at *
  have HOv := hidOf hov
  clear hov
  go_enter Tryz.func146, Tryz.ntmps146
  go_upto_region 0 with fail
  refine wp_region_noPanic ?_
  refine wp_region_held_drew (S := fun _ => True) (by kernel_rfl) True.intro (fun hHeld => ?_)
  refine tK 0 ?_ rfl (by kernel_rfl) (by rfl) ?_ (by assumption) (fun _ _ _ h => h) ?_
  case refine_2 => (intro w hSw; (try dsimp only at hSw); go_simp; try with_reducible rfl)
  simp only [Act.put, List.getElem_toArray, List.getElem_cons_zero, List.setIfInBounds_toArray, List.set_cons_zero, List.set_cons_succ]
  refine tR 1 ?_
  refine tR 2 ?_
  refine tR 3 ?_
  refine tW 4 (fun K hK => ?_)
  go_simp
  refine (HC.out).mono ?_
  rintro e w5 ⟨rfl, hb5⟩
  go_wp2_with fail
  refine hK.out _ _ True.intro (fun hHeld => ?_)
  clear hK K
  have body5 := HRd.out.keep hb5
  have HD := hidOf (dropUpTo_any b 3 f d v.it.length P w5 body5.rnd body5.fst hd (by have := HR.out.few.1; omega) (by have := HR.out.few.2; omega))
  rw [HO.out] at HD
  refine tW 5 (fun K hK => ?_)
  go_simp
  refine (HD.out).mono ?_
  rintro e w6 ⟨rfl, P', hD6⟩
  go_wp2_with fail
  refine hK.out _ _ True.intro (fun hHeld => ?_)
  clear hK K
  refine wpAnyH_done (by kernel_rfl) ?_ _
  refine NoPanic.normal ?_
  go_wp2_with fail
  go_end0
  have bd : Below w.heap.size w w5 := bl_trans (Below.refl _ _).drew hb5
  exact ⟨rfl, P', body5.drop hD6 hd, (grown_of bd).trans hD6.grown⟩
end Go.Proofs.YtdboaoejlkkoeaaGreat
namespace Go.Proofs.YtdboaoejlkkoeaaGreat
open Go.RowKit Go.Maps Pl Il
theorem RBody.sub_row {B b : Nat} {A : Na} {P : Nat → Tm} {f : Nat} {v : Rv} {sa : Option Addr} {s sc : Nat} {ys : List Sa} {w : World} (h : RBody B b A P f v sa s sc ys w) {k : Nat} (hk : k < v.sb.length) : ∃ g, sa = some ⟨g, 0, none⟩ ∧ s = ys.length ∧ k < ys.length := by
  have hl : ys.length = v.sb.length := by rw [← h.sv]; simp [svs]
  obtain ⟨h1, ⟨e, e0⟩ | ⟨g, cp, cur, e, _⟩⟩ := h.srow.sb
  · rw [e0, length_sflat] at h1; omega
  · injection e with e1
    exact ⟨g, e1, by rw [length_sflat] at h1; omega, by omega⟩
theorem RBody.mono {B B' b : Nat} {A : Na} {P : Nat → Tm} {f : Nat} {v : Rv} {sa : Option Addr} {s sc : Nat} {ys : List Sa} {w : World} (h : RBody B b A P f v sa s sc ys w) (hb : B' ≤ B) : RBody B' b A P f v sa s sc ys w :=
  ⟨⟨h.wst.lt, Nat.le_trans hb h.wst.ge, h.wst.c0, h.wst.c1, h.wst.fr, ⟨rowM h.wst.rows.one hb, rowM h.wst.rows.two hb, h.wst.rows.ne⟩, h.wst.ne1, h.wst.ne2⟩, h.rnd, h.c2, h.fst, h.nxt, h.c56, h.c57, h.c58, h.srow.mono hb, h.sv, h.its, h.sh, h.se, h.few, h.nb, h.ap⟩
set_option maxRecDepth 100000 in
set_option maxHeartbeats 4000000 in
theorem sub_any (B b : Nat) (A : Na) (P : Nat → Tm) (f : Nat) (v : Rv) (g s sc : Nat) (ys : List Sa) (id : Int) (w : World) (hR : RBody B b A P f v (some ⟨g, 0, none⟩) s sc ys w) (hs : s ≤ 2097152) (k : Nat) (hat : atR v.sb id = (k : Int)) (hk : k < s) :
    Calls Tryz.prog 103 #[.pointer (some ⟨b, 0, none⟩), .int .i64 id] w fun e w' => e = .returned (.pointer (some ⟨g, k * 7, none⟩)) ∧ Below w.heap.size w w' := by
  have hH := hR.s
  have HC := hidOf (placeOfSub_any (some ⟨g, 0, none⟩) s sc ys id w.drew (hR.srow.keep (Below.refl _ _).drew).sub hs)
  rw [hR.sv, hat] at HC
  have hki : (k : Int) < (s : Int) := by omega
  clear hR hat
  go_enter Tryz.func103, Tryz.ntmps103
  go_upto_region 1 with fail
  refine wp_region_noPanic ?_
  refine wp_region_held_drew (S := fun w' => RbS b A v (some ⟨g, 0, none⟩) s sc w') (by kernel_rfl) hH.drew (fun hHeld => ?_)
  refine tK 0 ?_ rfl (by kernel_rfl) (by rfl) ?_ (by assumption) (fun _ _ _ h => h) ?_
  case refine_2 => (intro w hSw; (try dsimp only at hSw); go_simp; try with_reducible rfl)
  simp only [Act.put, List.getElem_toArray, List.getElem_cons_zero, List.setIfInBounds_toArray, List.set_cons_zero, List.set_cons_succ]
  refine tR 1 ?_
  refine tR 2 ?_
  refine tR 3 ?_
  refine tR 4 ?_
  refine tR 5 ?_
  refine tR 6 ?_
  refine tR 7 ?_
  refine tR 8 ?_
  refine tW 9 (fun K hK => ?_)
  go_simp
  refine (HC.out).mono ?_
  rintro e w5 ⟨rfl, hb5⟩
  go_wp2_with fail
  have hS5 := RbS.keep hHeld hb5
  refine hK.out _ _ hS5 (fun hHeld => ?_)
  clear hK K
  refine tR 10 ?_
  refine tR 11 ?_
  refine wpAnyH_done (by kernel_rfl) ?_ _
  refine NoPanic.normal ?_
  go_wp2_with fail
  go_ret
  exact ⟨rfl, bl_trans (Below.refl _ _).drew hb5⟩
def BtrP (w : World) (M : Rm) (v : Rv) (id : Int) (e : Ending) (w' : World) : Prop :=
  (okR restR v = false ∧ e = .returned (.tuple #[.pointer none, .int .i64 1]) ∧ Below w.heap.size w w') ∨
  (okR restR v = true ∧ atR v.sb id < 0 ∧ e = .returned (.tuple #[.pointer none, .int .i64 3]) ∧ Below w.heap.size w w') ∨
  (okR restR v = true ∧ ¬ atR v.sb id < 0 ∧ (hasL v.ln id || hasL v.gs id) = true ∧ e = .returned (.tuple #[.pointer none, .int .i64 5]) ∧ Below w.heap.size w w') ∨
  (okR restR v = true ∧ ¬ atR v.sb id < 0 ∧ (hasL v.ln id || hasL v.gs id) = false ∧ ∃ (b : Nat) (A : Na) (P : Nat → Tm) (f : Nat) (sa : Option Addr) (sc : Nat) (ys : List Sa), e = .returned (.tuple #[.pointer (some ⟨b, 0, none⟩), .int .i64 0]) ∧ RBody w.heap.size b A P f v sa M.s sc ys w' ∧ A.n = M.l ∧ A.n' = M.g ∧ (∀ y, y ∈ ys → ∃ x, x ∈ M.xs ∧ y.n = x.n) ∧ Below w.heap.size w w')
set_option maxRecDepth 100000 in
set_option maxHeartbeats 8000000 in
theorem bodyToRead_any (M : Rm) (v : Rv) (id : Int) (w : World) (hI : RIn w M v) (hm1 : RLe M 1048576) (hcap : RCap M) (hw : RWf v) (hid : (Lit.int .i64 id).wf = true) :
  Calls Tryz.prog 101 #[.agg #[.int .i64 v.cp, .int .i64 v.se, .slice M.ia M.i M.ic, .int .i64 v.nx, .slice M.sa M.s M.sc, .slice M.la M.l M.lc, .slice M.ga M.g M.gc, .bool v.cl], .int .i64 id] w fun e w' => BtrP w M v id e w' := by
 have hm := hm1.mono (k' := 2097152) (by omega)
 obtain ⟨U0, hU0⟩ : ∃ W, W = w.alloc (.cells #[.int .i64 v.cp, .int .i64 v.se, .slice M.ia M.i M.ic, .int .i64 v.nx, .slice M.sa M.s M.sc, .slice M.la M.l M.lc, .slice M.ga M.g M.gc, .bool v.cl] 28) := ⟨_, rfl⟩
 have B0 : Below w.heap.size w U0 := by rw [hU0]; exact bl_alloc (Below.refl _ _) _
 have A0 : BoxL w.heap.size (rC M v) U0 := by rw [hU0]; exact BoxL.new w (rC M v) _
 have HK := hidOf (implRingOk_any M v U0 (hI.keep B0) hm1 hcap hw)
 have p0 := A0.cs 0 (by simp)
 have p1 := A0.cs 1 (by simp)
 have p2 := A0.cs 2 (by simp)
 have p3 := A0.cs 3 (by simp)
 have p4 := A0.cs 4 (by simp)
 have p5 := A0.cs 5 (by simp)
 have p6 := A0.cs 6 (by simp)
 have p7 := A0.cs 7 (by simp)
 simp at p0 p1 p2 p3 p4 p5 p6 p7
 have HI := hidOf hI
 have HM := hidOf hm
 have HW := hidOf hw
 have HCap := hidOf hcap
 have HId := hidOf hid
 obtain ⟨q, hq⟩ : ∃ q, okR restR v = q := ⟨_, rfl⟩
 rw [hq] at HK
 have HQ := hidOf hq
 clear hI hm hm1 hcap hw hid hq
 go_enter Tryz.func101, Tryz.ntmps101
 go_upto_region 1 with fail
 rw [← hU0]
 clear hU0
 go_wp2_with fail
 refine (HK.out).mono ?_
 rintro e w1 ⟨rfl, b1⟩
 have A1 := A0.keep b1
 have B1 := bl_trans B0 b1
 have hs1 : w.heap.size < w1.heap.size := A1.lt
 clear A0 p0 p1 p2 p3 p4 p5 p6 p7 B0 b1 HK
 cases q
 ·go_wp2_with fail
  go_ret2
  exact .inl ⟨HQ.out, rfl, B1⟩
 have p0 := A1.cs 0 (by simp)
 have p1 := A1.cs 1 (by simp)
 have p2 := A1.cs 2 (by simp)
 have p3 := A1.cs 3 (by simp)
 have p4 := A1.cs 4 (by simp)
 have p5 := A1.cs 5 (by simp)
 have p6 := A1.cs 6 (by simp)
 have p7 := A1.cs 7 (by simp)
 simp at p0 p1 p2 p3 p4 p5 p6 p7
 have HPl := hidOf (placeOfSub_any M.sa M.s M.sc M.xs id w1 (HI.out.keep B1).sb HM.out.s)
 rw [HI.out.sv] at HPl
 obtain ⟨at', hat⟩ : ∃ a, atR v.sb id = a := ⟨_, rfl⟩
 rw [hat] at HPl
 have HAt := hidOf hat
 clear hat
 go_wp2_with fail
 refine (HPl.out).mono ?_
 rintro e w2 ⟨rfl, b2⟩
 have A2 := A1.keep b2
 have B2 := bl_trans B1 b2
 clear A1 B1 p0 p1 p2 p3 p4 p5 p6 p7 HPl
 by_cases hneg : at' < 0
 ·go_wp2_with fail
  go_ret2
  exact .inr (.inl ⟨HQ.out, by rw [HAt.out]; exact hneg, rfl, B2⟩)
 have HNeg := hidOf hneg
 obtain ⟨f, hse, hi, hf⟩ := ok_first HQ.out
 have HC := hidOf (ringBodyOf_any M v w2 f (HI.out.keep B2) HM.out HCap.out hse hi hf)
 have p0 := A2.cs 0 (by simp)
 have p1 := A2.cs 1 (by simp)
 have p2 := A2.cs 2 (by simp)
 have p3 := A2.cs 3 (by simp)
 have p4 := A2.cs 4 (by simp)
 have p5 := A2.cs 5 (by simp)
 have p6 := A2.cs 6 (by simp)
 have p7 := A2.cs 7 (by simp)
 simp at p0 p1 p2 p3 p4 p5 p6 p7
 clear hse hi hf
 go_wp2_with fail
 refine (HC.out).mono ?_
 rintro e w3 ⟨b, A, P, f2, sa, sc, ys, rfl, body3, hAn, hAn', hyn, b3⟩
 have B3 := bl_trans B2 b3
 have HT := hidOf (turnOf_any w2.heap.size b A v.ln v.gs id w3 body3.wst (by have := HM.out.l; omega) (by have := HM.out.g; omega) HW.out.ln HW.out.gs HId.out)
 have HBo := hidOf body3
 have HAn := hidOf (And.intro hAn hAn')
 clear A2 p0 p1 p2 p3 p4 p5 p6 p7 HC hAn hAn' body3 hneg
 obtain ⟨tt, htt⟩ : ∃ t, turnL v.ln v.gs id = t := ⟨_, rfl⟩
 rw [htt] at HT
 have HTt := hidOf htt
 clear htt
 go_wp2_with fail
 refine (HT.out).mono ?_
 rintro e w4 ⟨rfl, b4⟩
 have B4 := bl_trans B3 b4
 have HBo4 := hidOf ((HBo.out.keep b4).mono (B' := w.heap.size) B2.size)
 rcases turn_cases v.ln v.gs id with ⟨h0, h1⟩ | ⟨h0, h1, h2⟩ | ⟨h0, h1, h2⟩
 ·obtain rfl : tt = 4 := by rw [← HTt.out, h0]
  have HH := hidOf (show (hasL v.ln id || hasL v.gs id) = true by rw [h1]; rfl)
  clear h0 h1 HT
  go_wp2_with fail
  go_ret2
  exact .inr (.inr (.inl ⟨HQ.out, by rw [HAt.out]; have h := HNeg.out; omega, HH.out, rfl, B4⟩))
 ·obtain rfl : tt = 0 := by rw [← HTt.out, h0]
  have HH := hidOf (show (hasL v.ln id || hasL v.gs id) = true by rw [h1, h2]; rfl)
  clear h0 h1 h2 HT
  go_wp2_with fail
  go_ret2
  exact .inr (.inr (.inl ⟨HQ.out, by rw [HAt.out]; have h := HNeg.out; omega, HH.out, rfl, B4⟩))
 ·obtain rfl : tt = 3 := by rw [← HTt.out, h0]
  have HH := hidOf (show (hasL v.ln id || hasL v.gs id) = false by rw [h1, h2]; rfl)
  clear h0 h1 h2 HT
  go_wp2_with fail
  go_ret2
  exact .inr (.inr (.inr ⟨HQ.out, by rw [HAt.out]; have h := HNeg.out; omega, HH.out, b, A, P, f2, sa, sc, ys, rfl, HBo4.out, HAn.out.1, HAn.out.2, hyn, B4⟩))
open Go.RowKit Go.Maps Pl Il
theorem lostAhead_E (r s c : Int) (w : World) (h1 : IntKind.i64.wrap (s - r) = s - r) (h2 : IntKind.i64.wrap (s - r - c) = s - r - c) :
    Calls Tryz.prog 112 #[.int .i64 r, .int .i64 s, .int .i64 c] w fun e w' => e = .returned (.int .i64 (if s - r - c < 0 then 0 else s - r - c)) ∧ w' = w := by
  by_cases hn : s - r - c < 0
  · rw [if_pos hn]
    go_enter Tryz.func112, Tryz.ntmps112
    go_wp2
    all_goals go_ret
    all_goals exact ⟨rint (by omega), rfl⟩
  · rw [if_neg hn]
    go_enter Tryz.func112, Tryz.ntmps112
    go_wp2
    all_goals go_ret
    all_goals exact ⟨rint (by omega), rfl⟩
abbrev SkE (b : Nat) (v : Rv) (g k : Nat) (cu : Int) (u : World) : Prop := u.cell? ⟨b, 2, none⟩ = some (.int .i64 v.cp) ∧ u.cell? ⟨b, 55, none⟩ = some (.int .i64 v.se) ∧ u.cell? ⟨g, k * 7 + 2, none⟩ = some (.int .i64 cu)
theorem passM_eq {fl : List Tm} {m1 m2 : Int} {m3 : ByteArray} (h1 : okF fl = true) (h2 : okB m1 m2 m3 = true) : passM fl m1 m2 m3 = pasR fl (m1, m2, m3) := by
  unfold passM pasR
  rw [h1, h2]
  rfl
def ysS (ys : List Sa) (k : Nat) (s' : Sb) : List Sa := ys.set k ⟨s', (sg ys k).a, (sg ys k).n, (sg ys k).c⟩
theorem ysS_len (ys : List Sa) (k : Nat) (s' : Sb) : (ysS ys k s').length = ys.length := by simp [ysS]
theorem ysS_get {ys : List Sa} {k : Nat} {s' : Sb} (hk : k < ys.length) : sg (ysS ys k s') k = ⟨s', (sg ys k).a, (sg ys k).n, (sg ys k).c⟩ := by
  rw [sg_eq (by rw [ysS_len]; exact hk)]
  simp [ysS]
theorem ysS_put {ys : List Sa} {k r : Nat} {s' : Sb} {z : Int} (hk : k < ys.length) : putS (ysS ys k s') k r z = ysS ys k (subPut s' r z) := by
  unfold putS
  rw [ysS_get hk]
  unfold ysS putA
  rw [List.set_set]
theorem ysS_self {ys : List Sa} {k : Nat} (hk : k < ys.length) : ysS ys k (sg ys k).s = ys := by
  unfold ysS
  rw [sg_eq hk]
  exact List.set_getElem_self hk
theorem ysS_mem {ys : List Sa} {k : Nat} {s' : Sb} (hk : k < ys.length) : ∀ y, y ∈ ysS ys k s' → ∃ x, x ∈ ys ∧ y.n = x.n := fun y hy => by
  rcases List.mem_or_eq_of_mem_set hy with h | h
  · exact ⟨y, h, rfl⟩
  · exact ⟨sg ys k, sg_mem hk, by rw [h]⟩
theorem GOk.grown {w w' : World} {q : Option Nat} (h : GOk w) (hg : w.grownBy w' q) (hq : q ≠ some 0) : GOk w' := by
  obtain ⟨m, hm⟩ := h
  have hl : 0 < w.heap.size := by
    rcases Nat.lt_or_ge 0 w.heap.size with h | h
    · exact h
    · unfold World.cell? at hm
      rw [Array.getElem?_eq_none h] at hm
      cases hm
  exact ⟨m, by rw [← hm]; exact World.cell?_of_block (hg.block _ hl (fun e => hq e.symm))⟩
theorem GOk.lt {w : World} (h : GOk w) : 0 < w.heap.size := by
  obtain ⟨m, hm⟩ := h
  rcases Nat.lt_or_ge 0 w.heap.size with h | h
  · exact h
  · unfold World.cell? at hm
    rw [Array.getElem?_eq_none h] at hm
    cases hm
structure RbL (B b : Nat) (A : Na) (P : Nat → Tm) (f : Nat) (v : Rv) (g s sc : Nat) (ys : List Sa) (k : Nat) (w : World) (N : Nat) (s' : Sb) (u : World) : Prop where
  body : RBody B b A P f { v with sb := v.sb.set k s' } (some ⟨g, 0, none⟩) s sc (ysS ys k s') u
  box : BoxL N [.int .i64 0, .int .i64 0, .int .i64 0, .string ⟨#[]⟩, .int .i64 0, .int .i64 0] u
  gr : w.grownBy u (some g)
theorem RbL.keep {B b : Nat} {A : Na} {P : Nat → Tm} {f : Nat} {v : Rv} {g s sc : Nat} {ys : List Sa} {k : Nat} {w : World} {N : Nat} {s' : Sb} {u u' : World} (h : RbL B b A P f v g s sc ys k w N s' u) (hb : Below u.heap.size u u') : RbL B b A P f v g s sc ys k w N s' u' :=
  ⟨h.body.keep hb, h.box.keep hb, h.gr.trans (grown_of hb)⟩
theorem RbL.put {B b : Nat} {A : Na} {P : Nat → Tm} {f : Nat} {v : Rv} {g s sc : Nat} {ys : List Sa} {k : Nat} {w : World} {N : Nat} {s' : Sb} {u : World} (h : RbL B b A P f v g s sc ys k w N s' u) (hk : k < ys.length) (hv : k < v.sb.length) (hN : N ≠ g) (r : Nat) (z : Int) (h2 : 2 ≤ r) (h5 : r ≤ 5) : RbL B b A P f v g s sc ys k w N (subPut s' r z) (u.setCell ⟨g, k * 7 + r, none⟩ (.int .i64 z)) := by
  have hb := h.body.put (k := k) (r := r) (by rw [ysS_len]; exact hk) h2 h5 z
  rw [ysS_put hk] at hb
  simp only at hb
  rw [putV_set hv] at hb
  exact ⟨hb, h.box.far _ _ hN _, h.gr.trans (grown_setC _ _ _ _)⟩
theorem RbL.cell {B b : Nat} {A : Na} {P : Nat → Tm} {f : Nat} {v : Rv} {g s sc : Nat} {ys : List Sa} {k : Nat} {w : World} {N : Nat} {s' : Sb} {u : World} (h : RbL B b A P f v g s sc ys k w N s' u) (hk : k < ys.length) (r : Nat) (hr : r < 7) : u.cell? ⟨g, k * 7 + r, none⟩ = (sC ⟨s', (sg ys k).a, (sg ys k).n, (sg ys k).c⟩)[r]? := by
  rw [row_cell h.body.srow.sb (by rw [ysS_len]; exact hk) hr, ysS_get hk]
theorem at_any (b o : Nat) (P : Nat → Tm) (n : Nat) (w : World) (hP : RndB b o P w) (_hn : n ≤ 2000000000) :
    Calls Tryz.prog 181 #[.pointer (some ⟨b, o, none⟩), .int .i64 (n : Int)] w fun e w' => e = .returned (.agg #[.int .i64 (P (n % 17)).1, .int .i64 (P (n % 17)).2.1, .string (P (n % 17)).2.2]) ∧ Below w.heap.size w w' := by
  have hs : n % 17 < 17 := Nat.mod_lt _ (by omega)
  have hr : (n : Int) % 17 = ((n % 17 : Nat) : Int) := by omega
  obtain ⟨s, hS⟩ : ∃ s, n % 17 = s := ⟨_, rfl⟩
  rw [hS] at hs hr ⊢
  obtain ⟨c0, c1, c2⟩ := hP.pl s hs
  obtain ⟨⟨m1, m2, m3⟩, hm⟩ : ∃ m, P s = m := ⟨_, rfl⟩
  rw [hm] at c0 c1 c2 ⊢
  have hlt := hP.lt
  have d0 := fun q : Obj => (World.cell?_alloc_past (w := w) q b (o + s * 3) hlt).trans c0
  have d1 := fun q : Obj => (World.cell?_alloc_past (w := w) q b (o + s * 3 + 1) hlt).trans c1
  have d2 := fun q : Obj => (World.cell?_alloc_past (w := w) q b (o + s * 3 + 2) hlt).trans c2
  have hsi : (s : Int) < 17 := by omega
  clear hS hm hP hlt c0 c1 c2
  go_enter Tryz.func181, Tryz.ntmps181
  go_wp2
  exact bodyPost_ret (v := .agg #[.int .i64 m1, .int .i64 m2, .string m3]) (by simp [results, Tryz.results181, go_sem]) rfl ⟨rfl, bl_alloc (Below.refl _ _) _⟩
end Go.Proofs.YtdboaoejlkkoeaaGreat
