/-
  The specification's draws: a clock, perhaps full, perhaps wrong.
-/
import Derived.Test.YtfahfbeemgigcaaD1k
namespace Go.Proofs.Ytfahfbeemgigcaa
open Go.RowKit Pl Il Th Dr

theorem setT_len40 (now : Int) (ts : List (Int × Int)) (i tok : Int) (h : ts.length ≤ 40) : (setT now ts i tok).1.length ≤ 40 := by
  unfold setT
  split
  · split
    · exact h
    · next h1 => rw [insL_length]; omega
  · exact h
theorem own_fz {B : Nat} {u : World} {b off n : Nat} {ts : List (Int × Int)} (h : OwnT B u (some ⟨b, off, none⟩) n ts) (hn : 0 < n) : ∀ o, u.frozen? ⟨b, o, none⟩ = false := by
  rcases h.own with h0 | ⟨b', off', e, _, hf⟩
  · omega
  · cases e; exact hf
theorem OwnT.setAt {B : Nat} {u : World} {b off n : Nat} {ts : List (Int × Int)} (h : OwnT B u (some ⟨b, off, none⟩) n ts) {i : Nat} (hi : i < n) (x : Int) : OwnT B (u.setCell ⟨b, off + i * 2, none⟩ (.int .i64 x)) (some ⟨b, off, none⟩) n (ts.set i (x, (tg ts i).2)) := by
  obtain ⟨⟨hl, hr⟩, ho⟩ := h
  rcases hr with h0 | ⟨b1, o1, e, hlt, hc⟩
  · omega
  cases e
  rcases ho with h0 | ⟨b2, o2, e, hB, hf⟩
  · omega
  cases e
  have hg : ∀ j, j < n → tg (ts.set i (x, (tg ts i).2)) j = if j = i then (x, (tg ts i).2) else tg ts j := fun j hj => by
    unfold tg
    rw [List.getD_eq_getElem?_getD, List.getD_eq_getElem?_getD, List.getElem?_set]
    by_cases e : i = j
    · subst e; simp [hl, hi]
    · simp [e, Ne.symm e]
  refine ⟨⟨by simpa using hl, .inr ⟨b, off, rfl, by simpa using hlt, fun j hj => ?_⟩⟩, .inr ⟨b, off, rfl, hB, fun o => by simpa using hf o⟩⟩
  rw [hg j hj]
  by_cases e : j = i
  · subst e
    rw [if_pos rfl]
    refine ⟨World.cell?_setCell_same _ _ _ (hc j hj).1, ?_⟩
    rw [World.cell?_setCell_other _ _ _ _ (by intro e'; injection e' with _ e2; omega)]
    exact (hc j hj).2
  · rw [if_neg e, World.cell?_setCell_other _ _ _ _ (by intro e'; injection e' with _ e2; omega), World.cell?_setCell_other _ _ _ _ (by intro e'; injection e' with _ e2; omega)]
    exact hc j hj
abbrev KVX (c : Nat) (a : Option Addr) (len cap : Nat) (w : World) (NK R : Nat) (now : Int) (ra : Option Addr) (n rc : Nat) (u : World) : Prop :=
  u.cell? ⟨NK, 0, none⟩ = some (.int .i64 now) ∧ u.cell? ⟨NK, 1, none⟩ = some (.slice ra n rc) ∧ ∃ ts, KV c a len cap w NK R now ra n rc ts u
section
variable {c : Nat} {a : Option Addr} {len cap : Nat} {w : World} {NK R : Nat} {now : Int} {ra : Option Addr} {n rc : Nat} {u u' : World}
theorem KVX.drew (h : KVX c a len cap w NK R now ra n rc u) : KVX c a len cap w NK R now ra n rc u.drew := by
  obtain ⟨_, _, ts, h⟩ := h
  have k := h.keep (Below.refl _ _).drew
  exact ⟨k.box.c0, k.box.c1, ts, k⟩
theorem KVX.alloc (h : KVX c a len cap w NK R now ra n rc u) (o : Obj) : KVX c a len cap w NK R now ra n rc (u.alloc o) := by
  obtain ⟨_, _, ts, h⟩ := h
  have k := h.keep (bl_alloc (Below.refl _ _) o)
  exact ⟨k.box.c0, k.box.c1, ts, k⟩
theorem KVX.draw (h : KVX c a len cap w NK R now ra n rc u) (hd : Drawn c a len cap u u') : KVX c a len cap w NK R now ra n rc u' := by
  obtain ⟨_, _, ts, h⟩ := h
  have k := h.draw hd
  exact ⟨k.box.c0, k.box.c1, ts, k⟩
theorem KVX.setAt {b off : Nat} (h : KVX c a len cap w NK R now (some ⟨b, off, none⟩) n rc u) {i : Nat} (hi : i < n) (x : Int) : KVX c a len cap w NK R now (some ⟨b, off, none⟩) n rc (u.setCell ⟨b, off + i * 2, none⟩ (.int .i64 x)) := by
  obtain ⟨_, _, ts, h⟩ := h
  have hb : w.heap.size + 1 ≤ b ∧ b ≠ NK := by
    refine ⟨?_, ?_⟩
    · rcases h.own.own with h0 | ⟨b', off', e, hB, _⟩
      · omega
      · cases e; exact hB
    · rcases h.apn with h0 | h0
      · omega
      · exact h0 b off rfl
  have k : KV c a len cap w NK R now (some ⟨b, off, none⟩) n rc (ts.set i (x, (tg ts i).2)) (u.setCell ⟨b, off + i * 2, none⟩ (.int .i64 x)) := ⟨h.dr.store h.cur ⟨b, off + i * 2, none⟩ (by simp only; omega) _, h.box.far b _ (by omega) _, h.own.setAt hi x, h.apn, h.hR, h.hN, h.cur, by simpa using h.le, h.lt, h.res.far b _ (by omega) _⟩
  exact ⟨k.box.c0, k.box.c1, _, k⟩
end
/-- Another clock is put into the variable. -/
theorem KV.repl {c : Nat} {a : Option Addr} {len cap : Nat} {w : World} {NK R : Nat} {now : Int} {ra : Option Addr} {n rc : Nat} {ts : List (Int × Int)} {u u' : World} (h : KV c a len cap w NK R now ra n rc ts u) (hd : Drawn c a len cap u u') {now5 : Int} {a5 : Option Addr} {n5 c5 B : Nat} {ts5 : List (Int × Int)} (ho : OwnT B u' a5 n5 ts5) (hB : NK < B) :
    KV c a len cap w NK u'.heap.size now5 a5 n5 c5 ts5 ((u'.setCell ⟨NK, 0, none⟩ (.int .i64 now5)).setCell ⟨NK, 1, none⟩ (.slice a5 n5 c5)) := by
  have k := h.draw hd
  have hN := h.hN
  exact ⟨(k.dr.store k.cur ⟨NK, 0, none⟩ (Nat.le_of_lt hN) _).store k.cur ⟨NK, 1, none⟩ (Nat.le_of_lt hN) _, (k.box.set0 _).set1 _, own_set2 (ho.mono (by omega)) (own_ne ho hB), own_ne ho hB, ho.tim.lt, k.hN, k.cur, by simp, k.box.lt, (k.res.far NK 0 (by omega) _).far NK 1 (by omega) _⟩

set_option maxRecDepth 100000 in
set_option maxHeartbeats 4000000 in
theorem l4Some_any (a : Option Addr) (len cap : Nat) (c : Nat) (w : World) (hC : Cur c a len cap w) :
    Calls Try.prog 33 #[.pointer (some ⟨c, 0, none⟩)] w fun e w' => ClkOut c a len cap w e w' := by
  generalize hW0 : w.alloc (.cells #[.int .i64 0, .slice none 0 0] 26) = W0
  have s0 : W0.heap.size = w.heap.size + 1 := by subst hW0; simp
  have r0 : Box2 w.heap.size (.int .i64 0) (.slice none 0 0) W0 := by subst hW0; exact Box2.new w _ _ _
  have b0 : Below w.heap.size w W0 := by subst hW0; exact bl_alloc (Below.refl _ _) _
  have hC0 := hC.keep b0
  have hcl := hC.lt
  have HL := hidOf (l4Clock_any a len cap c 6 W0 hC0 (by omega) (by omega))
  have HR0 := hidOf r0
  have HD0 := hidOf (drawn_keep (Drawn.start hC) b0)
  have HCw := hidOf hC
  have S0 := hidOf s0
  clear r0 b0 hC0 s0 hC
  go_enter Try.func33, Try.ntmps33
  go_wp2_with fail
  refine (HL.out).mono ?_
  rintro e w2 ⟨nw, ra, n, rc, ts, rfl, ho2, hn40, hd2⟩
  have hs2 : w.heap.size + 1 ≤ w2.heap.size := by have := hd2.ex.size; rw [S0.out] at this; exact this
  rw [S0.out] at ho2
  generalize hW3 : w2.alloc (.cells #[.int .i64 nw, .slice ra n rc] 26) = W3
  have b3 : Below w2.heap.size w2 W3 := by subst hW3; exact bl_alloc (Below.refl _ _) _
  have s3 : W3.heap.size = w2.heap.size + 1 := by subst hW3; simp
  have xo : Box2 w2.heap.size (.int .i64 nw) (.slice ra n rc) W3 := by subst hW3; exact Box2.new w2 _ _ _
  have hlt2 := ho2.tim.lt
  have hK3 : KV c a len cap w w2.heap.size (w2.heap.size + 1) nw ra n rc ts W3 := ⟨drawn_keep (HD0.out.trans hd2) b3, xo, ho2.keep b3, hlt2.imp id (fun h b off e => by have := h b off e; omega), hlt2.imp id (fun h b off e => by have := h b off e; omega), by omega, HCw.out, by omega, by omega, (HR0.out.dr hd2 (by omega)).keep b3⟩
  have HK3 := hidOf hK3
  have hon := hidOf (once_any a len cap c 12 W3 hK3.dr.cur (by omega) (by omega))
  have hlt3 : w2.heap.size < W3.heap.size := by omega
  clear HL HR0 HD0 hd2 ho2 b3 s3 xo hlt2 hK3 hW0 S0
  go_wp2_with fail
  refine (hon.out).mono ?_
  rintro e w4 ⟨y4, rfl, hd4⟩
  have HK4 := hidOf (HK3.out.draw hd4)
  clear HK3 hon hd4 hW3 hlt3
  cases y4
  · have HKt := HK4
    clear HK4
    have hon := hidOf (once_any a len cap c 8 _ HKt.out.dr.cur (by omega) (by omega))
    go_wp2_with fail
    refine (hon.out).mono ?_
    rintro e w8 ⟨y8, rfl, hd8⟩
    have HK8 := hidOf (HKt.out.draw hd8)
    clear hon hd8 HKt
    cases y8
    · have hKe := HK8.out
      obtain ⟨_, o0, o1, of⟩ := id hKe.box
      obtain ⟨_, r0, r1, rf⟩ := id hKe.res
      have hN := hKe.hN
      have hO := (hKe.own.far w.heap.size 0 (by omega) (.int .i64 nw)).far w.heap.size 1 (by omega) (.slice ra n rc)
      have HO := hidOf (hO.mono (B' := w.heap.size) (by omega))
      have HD := hidOf ((hKe.dr.store hKe.cur ⟨w.heap.size, 0, none⟩ (Nat.le_refl _) (.int .i64 nw)).store hKe.cur ⟨w.heap.size, 1, none⟩ (Nat.le_refl _) (.slice ra n rc))
      clear hKe hO
      go_wp2
      exact bodyPost_ret (v := .agg #[.int .i64 nw, .slice ra n rc]) (by simp [results, Try.results33, go_sem, r0, r1]) rfl ⟨_, _, _, _, _, rfl, HO.out, hn40, HD.out⟩
    · by_cases hn0 : n = 0
      · have hn0' : ¬ (0 : Int) < (n : Int) := by omega
        have HN0 := hidOf hn0
        clear hn0
        have hKe := HK8.out
        obtain ⟨_, o0, o1, of⟩ := id hKe.box
        obtain ⟨_, r0, r1, rf⟩ := id hKe.res
        have hN := hKe.hN
        have hO := (hKe.own.far w.heap.size 0 (by omega) (.int .i64 nw)).far w.heap.size 1 (by omega) (.slice ra n rc)
        have HO := hidOf (hO.mono (B' := w.heap.size) (by omega))
        have HD := hidOf ((hKe.dr.store hKe.cur ⟨w.heap.size, 0, none⟩ (Nat.le_refl _) (.int .i64 nw)).store hKe.cur ⟨w.heap.size, 1, none⟩ (Nat.le_refl _) (.slice ra n rc))
        clear hKe hO
        go_wp2
        exact bodyPost_ret (v := .agg #[.int .i64 nw, .slice ra n rc]) (by simp [results, Try.results33, go_sem, r0, r1]) rfl ⟨_, _, _, _, _, rfl, HO.out, hn40, HD.out⟩
      · have hn0' : (0 : Int) < (n : Int) := by omega
        obtain ⟨_, o0, o1, of⟩ := id HK8.out.box
        have hbe := hidOf (below_any a len cap c (n : Int) _ HK8.out.dr.cur (by omega) (by omega))
        go_wp2_with fail
        refine (hbe.out).mono ?_
        rintro e w9 ⟨j, rfl, j0, j1, hd9⟩
        obtain ⟨jj, rfl⟩ := Int.eq_ofNat_of_zero_le j0
        have hK9 := HK8.out.draw hd9
        clear hbe hd9 HK8 o0 o1 of
        have hjj : (0 : Int) ≤ (jj : Int) ∧ (jj : Int) < (n : Int) := by omega
        obtain ⟨_, h' | ⟨b, off, e, hb, hcell⟩⟩ := id hK9.own.tim
        · omega
        subst e
        have hKw : KV c a len cap w w2.heap.size w9.heap.size nw (some ⟨b, off, none⟩) n rc ts w9 := ⟨hK9.dr, hK9.box, hK9.own, hK9.apn, hK9.own.tim.lt, hK9.hN, hK9.cur, Nat.le_refl _, by have := hK9.lt; have := hK9.le; omega, hK9.res⟩
        have hSr : KVX c a len cap w w2.heap.size w9.heap.size nw (some ⟨b, off, none⟩) n rc w9 := ⟨hKw.box.c0, hKw.box.c1, ts, hKw⟩
        have hcw := hKw.dr.cur.lt
        have hrow : ∀ i, i < 3 → ∃ v : Int, (w9.alloc (.cells #[.int .i64 0, .int .i64 nw, .int .i64 1000000001] 3)).drew.cell? ⟨w9.heap.size, i, none⟩ = some (.int .i64 v) := row_ints w9 #[.int .i64 0, .int .i64 nw, .int .i64 1000000001] 3 3 (by rfl)
        have hpk := pickInt_any a len cap c w9.heap.size 3 (w9.alloc (.cells #[.int .i64 0, .int .i64 nw, .int .i64 1000000001] 3)).drew (hKw.dr.cur.alloc _).drew (by show w9.heap.size < (w9.alloc _).heap.size; simp) (by omega) (by omega) (by omega) hrow
        have HPk := hidOf hpk
        have hKa := hidOf ((hKw.keep (bl_alloc (Below.refl _ _) (.cells #[.int .i64 0, .int .i64 nw, .int .i64 1000000001] 3))).keep (Below.refl _ _).drew)
        clear hK9 hpk hrow hcell hKw
        go_wp2_with fail
        go_region_held3 (fun w' => KVX c a len cap w w2.heap.size w9.heap.size nw (some ⟨b, off, none⟩) n rc w') (first | (with_reducible exact hSr.drew) | (with_reducible exact (hSr.alloc _).drew) | (with_reducible exact KVX.draw (by assumption) hd10) | (with_reducible exact KVX.alloc (by assumption) _) | (with_reducible exact KVX.setAt (by assumption) (by omega) _))
          (first
            | (go_at_call 34; refine (HPk.out).mono ?_; rintro e w10 ⟨x, rfl, hd10⟩; have hK10 := hKa.out.draw hd10; obtain ⟨_, h' | ⟨b', off', e', _, hcell10⟩⟩ := id hK10.own.tim; (· omega); cases e'; obtain ⟨cc0, cc1⟩ := hcell10 jj (by omega); have ccf : ∀ o, w10.frozen? ⟨b, o, none⟩ = false := own_fz hK10.own (by omega)))
        all_goals (rename_i hHeld; obtain ⟨_, _, ts', hKz⟩ := hHeld)
        all_goals have HKz := hidOf hKz
        all_goals clear hKz
        all_goals
          have hKe := HKz.out
          obtain ⟨_, o0, o1, of⟩ := id hKe.box
          obtain ⟨_, r0, r1, rf⟩ := id hKe.res
          have hN := hKe.hN
          have hO := (hKe.own.far w.heap.size 0 (by omega) (.int .i64 nw)).far w.heap.size 1 (by omega) (.slice (some ⟨b, off, none⟩) n rc)
          have HO := hidOf (hO.mono (B' := w.heap.size) (by omega))
          have HD := hidOf ((hKe.dr.store hKe.cur ⟨w.heap.size, 0, none⟩ (Nat.le_refl _) (.int .i64 nw)).store hKe.cur ⟨w.heap.size, 1, none⟩ (Nat.le_refl _) (.slice (some ⟨b, off, none⟩) n rc))
          clear hKe hO
          go_wp2
          exact bodyPost_ret (v := .agg #[.int .i64 nw, .slice (some ⟨b, off, none⟩) n rc]) (by simp [results, Try.results33, go_sem, r0, r1]) rfl ⟨_, _, _, _, _, rfl, HO.out, hn40, HD.out⟩
  · have HL4 := hidOf (l4Clock_any a len cap c 0 w4 HK4.out.dr.cur (by omega) (by omega))
    obtain ⟨_, o0, o1, of⟩ := id HK4.out.box
    have hltK := HK4.out.box.lt
    clear hn40
    go_wp2_with fail
    refine (HL4.out).mono ?_
    rintro e w5 ⟨nw5, ra5, n5, rc5, ts5, rfl, ho5, hn5, hd5⟩
    obtain ⟨_, o0, o1, of⟩ := HK4.out.box.dr hd5 (by have := HK4.out.hN; omega)
    have HK5 := hidOf (HK4.out.repl (now5 := nw5) (c5 := rc5) hd5 ho5 hltK)
    clear HL4 HK4 ho5 hd5 hltK
    go_wp2_with fail
    go_loopw [4] (fun i wr => ∃ (k R : Nat) (nw : Int) (ra : Option Addr) (n rc : Nat) (ts : List (Int × Int)), k ≤ 40 ∧ i = .int .i64 k ∧ n ≤ 40 ∧ KV c a len cap w w2.heap.size R nw ra n rc ts wr) (fun i _ => 40 - (intOf i).toNat)
    case atStart => exact ⟨0, _, _, _, _, _, _, Nat.zero_le _, rfl, hn5, HK5.out⟩
    case round =>
      rename_i wr
      clear HK5
      obtain ⟨k, R, nw, ra, n, rc, ts, hk, rfl, hn40, hK⟩ := hrel
      have HB2 := hidOf (below_any a len cap c 2 wr hK.dr.cur (by omega) (by omega))
      have HKr := hidOf hK
      clear hK o0 o1 of
      go_wp2_with fail
      refine (HB2.out).mono ?_
      rintro e w6 ⟨x, rfl, x0, x1, hd6⟩
      have hK6 := HKr.out.draw hd6
      have HK6 := hidOf hK6
      have hsub : (40 : Int) - x ≤ 40 := by omega
      clear HB2 HKr hd6
      by_cases hlt : (k : Int) < 40 - x
      · have hst := hidOf (specSet_any nw (1 + (k : Int) % 9) ((k : Int) % 5) ra n rc ts w6 hK6.own.tim (by omega))
        obtain ⟨_, o0, o1, of⟩ := id hK6.box
        have hlen6 := hK6.own.tim.len
        have HLn := hidOf hlen6
        clear hK6 hlen6
        go_wp2_with fail
        refine (hst.out).mono ?_
        intro e w7 hout
        obtain ⟨a7, n7, c7, rfl, ho7, hb7⟩ := hout.open
        have hn7 : n7 ≤ 40 := by rw [← ho7.tim.len]; exact setT_len40 _ _ _ _ (by rw [HLn.out]; exact hn40)
        have hK7 := HK6.out.keep hb7
        have hlt6 := HK6.out.box.lt
        have hX : Nxt c a len cap w w2.heap.size w7.heap.size nw (.slice ra n rc) nw a7 n7 c7 _ (w7.alloc (.cells #[.int .i64 nw, .slice a7 n7 c7] 26)) := Nxt.ofAlloc hK7.s ho7 HK6.out.le
        have HP := hidOf hX.put
        obtain ⟨_, p0, p1, pf⟩ := id hX.box
        clear hout hst HK6 hK7 ho7 hb7 hX o0 o1 of
        go_wp2
        go_roundw
        case rel => exact ⟨k + 1, _, _, _, _, _, _, by omega, by go_num, hn7, HP.out⟩
        case measure => simp [intOf]; omega
      · have HKt := HK6
        clear HK6 hK6
        have hon := hidOf (once_any a len cap c 8 _ HKt.out.dr.cur (by omega) (by omega))
        go_wp2_with fail
        refine (hon.out).mono ?_
        rintro e w8 ⟨y8, rfl, hd8⟩
        have HK8 := hidOf (HKt.out.draw hd8)
        clear hon hd8 HKt
        cases y8
        · have hKe := HK8.out
          obtain ⟨_, o0, o1, of⟩ := id hKe.box
          obtain ⟨_, r0, r1, rf⟩ := id hKe.res
          have hN := hKe.hN
          have hO := (hKe.own.far w.heap.size 0 (by omega) (.int .i64 nw)).far w.heap.size 1 (by omega) (.slice ra n rc)
          have HO := hidOf (hO.mono (B' := w.heap.size) (by omega))
          have HD := hidOf ((hKe.dr.store hKe.cur ⟨w.heap.size, 0, none⟩ (Nat.le_refl _) (.int .i64 nw)).store hKe.cur ⟨w.heap.size, 1, none⟩ (Nat.le_refl _) (.slice ra n rc))
          clear hKe hO
          go_wp2
          exact bodyPost_ret (v := .agg #[.int .i64 nw, .slice ra n rc]) (by simp [results, Try.results33, go_sem, r0, r1]) rfl ⟨_, _, _, _, _, rfl, HO.out, hn40, HD.out⟩
        · by_cases hn0 : n = 0
          · have hn0' : ¬ (0 : Int) < (n : Int) := by omega
            have HN0 := hidOf hn0
            clear hn0
            have hKe := HK8.out
            obtain ⟨_, o0, o1, of⟩ := id hKe.box
            obtain ⟨_, r0, r1, rf⟩ := id hKe.res
            have hN := hKe.hN
            have hO := (hKe.own.far w.heap.size 0 (by omega) (.int .i64 nw)).far w.heap.size 1 (by omega) (.slice ra n rc)
            have HO := hidOf (hO.mono (B' := w.heap.size) (by omega))
            have HD := hidOf ((hKe.dr.store hKe.cur ⟨w.heap.size, 0, none⟩ (Nat.le_refl _) (.int .i64 nw)).store hKe.cur ⟨w.heap.size, 1, none⟩ (Nat.le_refl _) (.slice ra n rc))
            clear hKe hO
            go_wp2
            exact bodyPost_ret (v := .agg #[.int .i64 nw, .slice ra n rc]) (by simp [results, Try.results33, go_sem, r0, r1]) rfl ⟨_, _, _, _, _, rfl, HO.out, hn40, HD.out⟩
          · have hn0' : (0 : Int) < (n : Int) := by omega
            obtain ⟨_, o0, o1, of⟩ := id HK8.out.box
            have hbe := hidOf (below_any a len cap c (n : Int) _ HK8.out.dr.cur (by omega) (by omega))
            go_wp2_with fail
            refine (hbe.out).mono ?_
            rintro e w9 ⟨j, rfl, j0, j1, hd9⟩
            obtain ⟨jj, rfl⟩ := Int.eq_ofNat_of_zero_le j0
            have hK9 := HK8.out.draw hd9
            clear hbe hd9 HK8 o0 o1 of
            have hjj : (0 : Int) ≤ (jj : Int) ∧ (jj : Int) < (n : Int) := by omega
            obtain ⟨_, h' | ⟨b, off, e, hb, hcell⟩⟩ := id hK9.own.tim
            · omega
            subst e
            have hKw : KV c a len cap w w2.heap.size w9.heap.size nw (some ⟨b, off, none⟩) n rc ts w9 := ⟨hK9.dr, hK9.box, hK9.own, hK9.apn, hK9.own.tim.lt, hK9.hN, hK9.cur, Nat.le_refl _, by have := hK9.lt; have := hK9.le; omega, hK9.res⟩
            have hSr : KVX c a len cap w w2.heap.size w9.heap.size nw (some ⟨b, off, none⟩) n rc w9 := ⟨hKw.box.c0, hKw.box.c1, ts, hKw⟩
            have hcw := hKw.dr.cur.lt
            have hrow : ∀ i, i < 3 → ∃ v : Int, (w9.alloc (.cells #[.int .i64 0, .int .i64 nw, .int .i64 1000000001] 3)).drew.cell? ⟨w9.heap.size, i, none⟩ = some (.int .i64 v) := row_ints w9 #[.int .i64 0, .int .i64 nw, .int .i64 1000000001] 3 3 (by rfl)
            have hpk := pickInt_any a len cap c w9.heap.size 3 (w9.alloc (.cells #[.int .i64 0, .int .i64 nw, .int .i64 1000000001] 3)).drew (hKw.dr.cur.alloc _).drew (by show w9.heap.size < (w9.alloc _).heap.size; simp) (by omega) (by omega) (by omega) hrow
            have HPk := hidOf hpk
            have hKa := hidOf ((hKw.keep (bl_alloc (Below.refl _ _) (.cells #[.int .i64 0, .int .i64 nw, .int .i64 1000000001] 3))).keep (Below.refl _ _).drew)
            clear hK9 hpk hrow hcell hKw
            go_wp2_with fail
            go_region_held3 (fun w' => KVX c a len cap w w2.heap.size w9.heap.size nw (some ⟨b, off, none⟩) n rc w') (first | (with_reducible exact hSr.drew) | (with_reducible exact (hSr.alloc _).drew) | (with_reducible exact KVX.draw (by assumption) hd10) | (with_reducible exact KVX.alloc (by assumption) _) | (with_reducible exact KVX.setAt (by assumption) (by omega) _))
              (first
                | (go_at_call 34; refine (HPk.out).mono ?_; rintro e w10 ⟨x, rfl, hd10⟩; have hK10 := hKa.out.draw hd10; obtain ⟨_, h' | ⟨b', off', e', _, hcell10⟩⟩ := id hK10.own.tim; (· omega); cases e'; obtain ⟨cc0, cc1⟩ := hcell10 jj (by omega); have ccf : ∀ o, w10.frozen? ⟨b, o, none⟩ = false := own_fz hK10.own (by omega)))
            all_goals (rename_i hHeld; obtain ⟨_, _, ts', hKz⟩ := hHeld)
            all_goals have HKz := hidOf hKz
            all_goals clear hKz
            all_goals
              have hKe := HKz.out
              obtain ⟨_, o0, o1, of⟩ := id hKe.box
              obtain ⟨_, r0, r1, rf⟩ := id hKe.res
              have hN := hKe.hN
              have hO := (hKe.own.far w.heap.size 0 (by omega) (.int .i64 nw)).far w.heap.size 1 (by omega) (.slice (some ⟨b, off, none⟩) n rc)
              have HO := hidOf (hO.mono (B' := w.heap.size) (by omega))
              have HD := hidOf ((hKe.dr.store hKe.cur ⟨w.heap.size, 0, none⟩ (Nat.le_refl _) (.int .i64 nw)).store hKe.cur ⟨w.heap.size, 1, none⟩ (Nat.le_refl _) (.slice (some ⟨b, off, none⟩) n rc))
              clear hKe hO
              go_wp2
              exact bodyPost_ret (v := .agg #[.int .i64 nw, .slice (some ⟨b, off, none⟩) n rc]) (by simp [results, Try.results33, go_sem, r0, r1]) rfl ⟨_, _, _, _, _, rfl, HO.out, hn40, HD.out⟩
end Go.Proofs.Ytfahfbeemgigcaa
