/-
  The program's clocks: right or not, a timer set, the clock advanced.
-/
import Derived.Test.YtfahfbeemgigcaaU6
namespace Go.Proofs.Ytfahfbeemgigcaa
open Go.RowKit Pl Il Th

theorem implClockOk_any (now : Int) (a : Option Addr) (n cap : Nat) (ts : List (Int × Int)) (w : World) (hI : TimAt w a n ts) (hn : n ≤ 9223372036854775807) :
    Calls Try.prog 24 #[.agg #[.int .i64 now, .slice a n cap]] w fun e w' => e = .returned (.bool (okClock now ts)) ∧ Below w.heap.size w w' := by
  have b0 : Below w.heap.size w (w.alloc (.cells #[.int .i64 now, .slice a n cap] 26)) := bl_alloc (Below.refl _ _) _
  have hc := ctimers_any now a n cap ts _ (hI.keep b0) hn
  have HC := hidOf hc
  clear hc hI
  go_enter Try.func24, Try.ntmps24
  go_wp2_with fail
  refine (HC.out).mono ?_
  rintro e w1 (⟨hok, hb, tv, rfl, _, hb1⟩ | ⟨hok, rfl, hb1⟩)
  · have hB := bl_trans b0 hb1
    have HOK := hidOf hok
    clear HC hb1 b0 hok
    go_wp2
    go_ret
    exact ⟨rbool HOK.out.symm, hB⟩
  · have hB := bl_trans b0 hb1
    have HOK := hidOf hok
    clear HC hb1 b0 hok
    go_wp2
    go_ret
    exact ⟨rbool HOK.out.symm, hB⟩

theorem HFr.newSet {B : Nat} {w u : World} (h : HFr B w u) (hB : B ≤ w.heap.size) (N o : Nat) (hN : w.heap.size ≤ N) (x : Value) : HFr B w (u.setCell ⟨N, o, none⟩ x) :=
  ⟨h.below.setCell (p := ⟨N, o, none⟩) (Nat.le_trans hB hN) x, fun b cs t z hbk h1 h2 => by
    rw [Below.heap_setCell u ⟨N, o, none⟩ x b (by have := lt_blk hbk; simp only; omega)]
    exact h.oth b cs t z hbk h1 h2⟩
theorem clockOf_any (B hb : Nat) (now : Int) (s : List NT) (w : World) (h : HSt B w hb s) (hB : B ≤ w.heap.size) (hs : ∀ x ∈ s, x.tm ≤ 1000000000) (hl : s.length ≤ 100) :
    Calls Try.prog 38 #[.int .i64 now, .pointer (some ⟨hb, 0, none⟩)] w fun e w' => ∃ a' c', e = .returned (.agg #[.int .i64 now, .slice a' s.length c']) ∧ w'.ownsRow w.heap.size 36 2 (.slice a' s.length c') s.length (tflat (s.map tmr)) ∧ HFr B w w' := by
  generalize hW : w.alloc (.cells #[.int .i64 0, .slice none 0 0] 26) = W
  have b0 : Below w.heap.size w W := by subst hW; exact bl_alloc (Below.refl _ _) _
  have s0 : W.heap.size = w.heap.size + 1 := by subst hW; simp
  have hblk : W.heap[w.heap.size]? = some (.cells #[.int .i64 0, .slice none 0 0] 26 (0, 0)) := by subst hW; exact heap_alloc_new w _
  have hc := takeUntil_any B hb 1000000000 s s [] W (h.keep b0) (by omega) (by simp) hs (.inl rfl) hl
  have HC := hidOf hc
  have HF0 := hidOf (HFr.of b0 hB)
  have HK := hidOf hblk
  have S0 := hidOf s0
  clear hc h hs b0 s0 hblk
  go_enter Try.func38, Try.ntmps38
  go_wp2_with fail
  refine (HC.out).mono ?_
  rintro e w1 ⟨v, rfl, ho1, _, hF1⟩
  obtain ⟨a', c', rfl, _, _⟩ := ownT_of ho1 (s.map tmr) rfl
  have hk1 := hF1.keepB _ _ _ HK.out (by decide) (by decide)
  have r0 : w1.cell? ⟨w.heap.size, 0, none⟩ = some (.int .i64 0) := by simp [World.cell?, hk1]
  have r1 : w1.cell? ⟨w.heap.size, 1, none⟩ = some (.slice none 0 0) := by simp [World.cell?, hk1]
  have rf : ∀ o, w1.frozen? ⟨w.heap.size, o, none⟩ = false := fun o => by simp [World.frozen?, hk1]
  have hsz := S0.out
  have ho2 := own_farT (own_farT ho1 w.heap.size 0 (by omega) (.int .i64 now)) w.heap.size 1 (by omega) (.slice a' s.length c')
  have HO := hidOf (ownsRow_mono ho2 (B' := w.heap.size) (by omega))
  have HFF := hidOf (((HF0.out.trans hF1).newSet hB w.heap.size 0 (Nat.le_refl _) (.int .i64 now)).newSet hB w.heap.size 1 (Nat.le_refl _) (.slice a' s.length c'))
  clear ho1 ho2 hF1 hk1 HC HK hsz S0 hW HF0
  go_wp2
  exact bodyPost_ret (v := .agg #[.int .i64 now, .slice a' s.length c']) (by simp [results, Try.results38, go_sem, r0, r1]) rfl ⟨_, _, rfl, HO.out, HFF.out⟩

/-- What a call on a clock holds on to: the argument's variable, the answer's. -/
structure CtxC (w : World) (now : Int) (a : Option Addr) (n cap : Nat) (ts : List (Int × Int)) (u : World) : Prop where
  box0 : Box2 w.heap.size (.int .i64 now) (.slice a n cap) u
  box1 : Box2 (w.heap.size + 1) (.int .i64 0) (.slice none 0 0) u
  tim : TimAt w a n ts
  below : Below w.heap.size w u
  sz : w.heap.size + 2 ≤ u.heap.size
theorem Box2.below {N B : Nat} {v0 v1 : Value} {w u : World} (h : Box2 N v0 v1 w) (hb : Below B w u) (hN : N < B) : Box2 N v0 v1 u where
  lt := Nat.lt_of_lt_of_le h.lt hb.size
  c0 := by rw [hb.cell (p := ⟨N, 0, none⟩) hN]; exact h.c0
  c1 := by rw [hb.cell (p := ⟨N, 1, none⟩) hN]; exact h.c1
  fr := fun o => by rw [hb.frozen (p := ⟨N, o, none⟩) hN]; exact h.fr o
section
variable {w : World} {now : Int} {a : Option Addr} {n cap : Nat} {ts : List (Int × Int)} {u u' : World}
theorem CtxC.keep {B : Nat} (h : CtxC w now a n cap ts u) (hb : Below B u u') (hB : w.heap.size + 2 ≤ B) : CtxC w now a n cap ts u' :=
  ⟨h.box0.below hb (by omega), h.box1.below hb (by omega), h.tim, h.below.trans (hb.mono (by omega)), Nat.le_trans h.sz hb.size⟩
theorem CtxC.timX (h : CtxC w now a n cap ts u) : TimAt u a n ts := h.tim.keep h.below
theorem CtxC.fin {v : Value} {m : Nat} {xs : List Value} (h : CtxC w now a n cap ts u) (x y : Value) (ho : u'.ownsRow u.heap.size 36 2 v m xs) (hb : Below u.heap.size u u') :
    ((u'.setCell ⟨w.heap.size + 1, 0, none⟩ x).setCell ⟨w.heap.size + 1, 1, none⟩ y).ownsRow w.heap.size 36 2 v m xs ∧ Below w.heap.size w ((u'.setCell ⟨w.heap.size + 1, 0, none⟩ x).setCell ⟨w.heap.size + 1, 1, none⟩ y) := by
  have hs := h.sz
  refine ⟨ownsRow_mono (own_farT (own_farT ho (w.heap.size + 1) 0 (by omega) x) (w.heap.size + 1) 1 (by omega) y) (by omega), ?_⟩
  exact ((h.below.trans (hb.mono (by omega))).setCell (p := ⟨w.heap.size + 1, 0, none⟩) (by simp) x).setCell (p := ⟨w.heap.size + 1, 1, none⟩) (by simp) y
theorem CtxC.fin2 {v : Value} {m B : Nat} {xs : List Value} (h : CtxC w now a n cap ts u) (x y : Value) (ho : u'.ownsRow u.heap.size 36 2 v m xs) (hb : Below B u u') (hB : w.heap.size + 2 ≤ B) :
    ((u'.setCell ⟨w.heap.size + 1, 0, none⟩ x).setCell ⟨w.heap.size + 1, 1, none⟩ y).ownsRow w.heap.size 36 2 v m xs ∧ Below w.heap.size w ((u'.setCell ⟨w.heap.size + 1, 0, none⟩ x).setCell ⟨w.heap.size + 1, 1, none⟩ y) := by
  have hs := h.sz
  refine ⟨ownsRow_mono (own_farT (own_farT ho (w.heap.size + 1) 0 (by omega) x) (w.heap.size + 1) 1 (by omega) y) (by omega), ?_⟩
  exact ((h.below.trans (hb.mono (by omega))).setCell (p := ⟨w.heap.size + 1, 0, none⟩) (by simp) x).setCell (p := ⟨w.heap.size + 1, 1, none⟩) (by simp) y
theorem ctx_new (hI : TimAt w a n ts) : CtxC w now a n cap ts ((w.alloc (.cells #[.int .i64 now, .slice a n cap] 26)).alloc (.cells #[.int .i64 0, .slice none 0 0] 26)) := by
  have s0 : (w.alloc (.cells #[.int .i64 now, .slice a n cap] 26)).heap.size = w.heap.size + 1 := by simp
  refine ⟨(Box2.new w _ _ _).alloc _, by rw [← s0]; exact Box2.new _ _ _ _, hI, bl_alloc (bl_alloc (Below.refl _ _) _) _, by simp⟩
end

/-- What setting a timer answers. -/
def setT (now : Int) (ts : List (Int × Int)) (i tok : Int) : List (Int × Int) × Int :=
  if okClock now ts = true ∧ 1 ≤ i ∧ (0 ≤ tok ∧ tok ≤ 23) ∧ i ≤ 1000000000 - now then
    if ts.length = 40 then (ts, 2) else (insL (now + i, tok) ts, 0)
  else (ts, 1)
theorem ok_parts {now : Int} {ts : List (Int × Int)} (h : okClock now ts = true) : 0 ≤ now ∧ now ≤ 1000000000 ∧ ts.length ≤ 40 ∧ okL (now + 1) ts = true := by
  simpa [okClock, and_assoc] using h
/-- A clock is handed back, and a number. -/
def OutC (w : World) (now : Int) (ts' : List (Int × Int)) (r : List Value) (e : Ending) (w' : World) : Prop :=
  ∃ a' n' c', e = .returned (.tuple (#[.agg #[.int .i64 now, .slice a' n' c']] ++ r.toArray)) ∧ OwnT w.heap.size w' a' n' ts' ∧ Below w.heap.size w w'
theorem outC {w : World} {now : Int} {ts' : List (Int × Int)} {r : List Value} {a' : Option Addr} {n' c' : Nat} {w' : World} (ho : w'.ownsRow w.heap.size 36 2 (.slice a' n' c') n' (tflat ts')) (hb : Below w.heap.size w w') : OutC w now ts' r (.returned (.tuple (#[.agg #[.int .i64 now, .slice a' n' c']] ++ r.toArray))) w' := by
  obtain ⟨a1, c1, e, _, hO⟩ := ownT_of ho ts' rfl
  cases e
  exact ⟨_, _, _, rfl, hO, hb⟩

set_option maxRecDepth 100000 in
set_option maxHeartbeats 2000000 in
theorem implSet_any (now i tok : Int) (a : Option Addr) (n cap : Nat) (ts : List (Int × Int)) (w : World) (hI : TimAt w a n ts) (hn : n ≤ 2097152) :
    Calls Try.prog 17 #[.agg #[.int .i64 now, .slice a n cap], .int .i64 i, .int .i64 tok] w fun e w' => OutC w now (setT now ts i tok).1 [.int .i64 (setT now ts i tok).2] e w' := by
  have hctx := ctx_new (now := now) (cap := cap) hI
  have s1 : ((w.alloc (.cells #[.int .i64 now, .slice a n cap] 26)).alloc (.cells #[.int .i64 0, .slice none 0 0] 26)).heap.size = w.heap.size + 2 := by simp
  have hc := ctimers_any now a n cap ts _ (hctx.timX) (by omega)
  have HCt := hidOf hc
  have HX := hidOf hctx
  have S1 := hidOf s1
  have HLen := hidOf hI.len
  clear hc hctx s1 hI
  go_enter Try.func17, Try.ntmps17
  go_wp2_with fail
  refine (HCt.out).mono ?_
  rintro e w1 (⟨hok, hb, tv, rfl, hM, hb1⟩ | ⟨hok, rfl, hb1⟩)
  · have HC := hidOf (HX.out.keep hb1 (by rw [S1.out]; omega))
    obtain ⟨_, p0, p1, _⟩ := HC.out.box0
    obtain ⟨hp0, hp1, hp2, hp3⟩ := ok_parts hok
    have HM := hidOf hM
    have HOK := hidOf hok
    clear HCt HX hb1 hM hok
    by_cases t1 : i < 1
    · have hres : setT now ts i tok = (ts, 1) := by unfold setT; rw [if_neg (by omega)]
      go_wp2_with fail
      refine (copiedClock_any now a n cap ts _ (HC.out.timX) hn).mono ?_
      rintro e9 w9 ⟨a9, c9, rfl, ho9, hb9⟩
      obtain ⟨_, r0, r1, rf⟩ := HC.out.box1.keep hb9
      obtain ⟨_, q0, q1, _⟩ := HC.out.box0.keep hb9
      have hE := HC.out.fin (.int .i64 now) (.slice a9 n c9) ho9 hb9
      obtain ⟨ho10, hb10⟩ := hE
      have HO := hidOf ho10
      have HBl := hidOf hb10
      have HR := hidOf hres
      clear HC ho9 hb9 ho10 hb10 hres p0 p1
      go_wp2
      refine bodyPost_ret (v := .tuple #[.agg #[.int .i64 now, .slice a9 n c9], .int .i64 1]) (by simp [results, Try.results17, go_sem, r0, r1]) rfl ?_
      rw [HR.out]
      exact outC (r := [.int .i64 1]) HO.out HBl.out
    · by_cases t2 : 0 ≤ tok ∧ tok ≤ 23
      · have ht2 : (decide (0 ≤ tok) && decide (tok ≤ 23)) = true := by simp [t2]
        go_wp2_with fail
        refine (isTok_any tok _).mono ?_
        rintro e2 w2 ⟨rfl, rfl⟩
        rw [ht2]
        by_cases t3 : 1000000000 - now < i
        · have hres : setT now ts i tok = (ts, 1) := by unfold setT; rw [if_neg (by omega)]
          clear ht2 t2
          go_wp2_with fail
          refine (copiedClock_any now a n cap ts _ (HC.out.timX) hn).mono ?_
          rintro e9 w9 ⟨a9, c9, rfl, ho9, hb9⟩
          obtain ⟨_, r0, r1, rf⟩ := HC.out.box1.keep hb9
          obtain ⟨_, q0, q1, _⟩ := HC.out.box0.keep hb9
          have hE := HC.out.fin (.int .i64 now) (.slice a9 n c9) ho9 hb9
          obtain ⟨ho10, hb10⟩ := hE
          have HO := hidOf ho10
          have HBl := hidOf hb10
          have HR := hidOf hres
          clear HC ho9 hb9 ho10 hb10 hres p0 p1
          go_wp2
          refine bodyPost_ret (v := .tuple #[.agg #[.int .i64 now, .slice a9 n c9], .int .i64 1]) (by simp [results, Try.results17, go_sem, r0, r1]) rfl ?_
          rw [HR.out]
          exact outC (r := [.int .i64 1]) HO.out HBl.out
        · clear ht2
          go_wp2_with fail
          refine (len_any _ hb tv _ _ _ HM.out).mono ?_
          rintro e3 w3 ⟨rfl, rfl⟩
          rw [length_numL, HLen.out]
          by_cases t4 : n = 40
          · have hres : setT now ts i tok = (ts, 2) := by unfold setT; rw [if_pos ⟨HOK.out, by omega, t2, by omega⟩, if_pos (by rw [HLen.out]; exact t4)]
            have t4' : ((n : Int) == 40) = true := by simp; omega
            have T4 := hidOf t4
            clear t4 t2
            go_wp2_with fail
            refine (copiedClock_any now a n cap ts _ (HC.out.timX) hn).mono ?_
            rintro e9 w9 ⟨a9, c9, rfl, ho9, hb9⟩
            obtain ⟨_, r0, r1, rf⟩ := HC.out.box1.keep hb9
            obtain ⟨_, q0, q1, _⟩ := HC.out.box0.keep hb9
            have hE := HC.out.fin (.int .i64 now) (.slice a9 n c9) ho9 hb9
            obtain ⟨ho10, hb10⟩ := hE
            have HO := hidOf ho10
            have HBl := hidOf hb10
            have HR := hidOf hres
            clear HC ho9 hb9 ho10 hb10 hres p0 p1
            go_wp2
            refine bodyPost_ret (v := .tuple #[.agg #[.int .i64 now, .slice a9 n c9], .int .i64 2]) (by simp [results, Try.results17, go_sem, r0, r1]) rfl ?_
            rw [HR.out]
            exact outC (r := [.int .i64 2]) HO.out HBl.out
          · have hres : setT now ts i tok = (insL (now + i, tok) ts, 0) := by unfold setT; rw [if_pos ⟨HOK.out, by omega, t2, by omega⟩, if_neg (by rw [HLen.out]; exact t4)]
            have t4' : ((n : Int) == 40) = false := by simp; omega
            have hset := set_any _ hb tv (n : Int) (numL 0 ts) (now + i, tok) w3 HM.out (by rw [length_numL, HLen.out]; have := HLen.out; omega) (by omega) (by have := HLen.out; omega)
            have HSet := hidOf hset
            have HR := hidOf hres
            clear hset t2 hres
            go_wp2_with fail
            refine (HSet.out).mono ?_
            rintro e4 w4 ⟨rfl, ⟨tv4, hM4⟩, hF4⟩
            have hsn := numL_sorted (k := 0) hp3
            have hP : (pushL (numL 0 ts) ⟨now + i, tok, (n : Int)⟩).Perm (insN ⟨now + i, tok, (n : Int)⟩ (numL 0 ts)) := (push_perm _ _).trans (List.perm_append_comm.trans (insN_perm _ _).symm)
            have hH := push_heap (numL 0 ts) ⟨now + i, tok, (n : Int)⟩ (heap_of_sorted hsn)
            rw [← length_push (numL 0 ts) ⟨now + i, tok, (n : Int)⟩] at hH
            have hst : HSt _ w4 hb (insN ⟨now + i, tok, (n : Int)⟩ (numL 0 ts)) := ⟨⟨_, _, _, hM4, hH, hP⟩, insN_sorted hsn (fun y hy => by have := (numL_mem hp3 y hy).2.2.2; rw [HLen.out] at this; simp only; omega)⟩
            have hlen4 : (insN ⟨now + i, tok, (n : Int)⟩ (numL 0 ts)).length = n + 1 := by rw [(insN_perm _ _).length_eq, List.length_cons, length_numL, HLen.out]
            have hmap : (insN ⟨now + i, tok, (n : Int)⟩ (numL 0 ts)).map tmr = insL (now + i, tok) ts := by rw [insN_map, map_numL]; rfl
            have htm : ∀ x ∈ insN ⟨now + i, tok, (n : Int)⟩ (numL 0 ts), x.tm ≤ 1000000000 := fun x hx => by
              rcases insN_tm x hx with rfl | hx
              · simp only; omega
              · exact (numL_mem hp3 x hx).2.1
            have hn100 : n ≤ 40 := by have := HLen.out; omega
            have hC4 := HC.out.keep hF4.below (by rw [S1.out]; omega)
            have hco := clockOf_any _ hb now _ w4 hst hM4.size htm (by rw [hlen4]; omega)
            rw [hmap, hlen4] at hco
            have HCo := hidOf hco
            have HC4 := hidOf hC4
            obtain ⟨_, q0, q1, _⟩ := hC4.box0
            clear HSet hM4 hF4 hsn hP hH hst hlen4 hmap htm hC4 hco HC p0 p1
            go_wp2_with fail
            refine (HCo.out).mono ?_
            rintro e5 w5 ⟨a5, c5, rfl, ho5, hF5⟩
            obtain ⟨_, r0, r1, rf⟩ := HC4.out.box1.below hF5.below (by rw [S1.out]; omega)
            obtain ⟨ho6, hb6⟩ := HC4.out.fin2 (.int .i64 now) (.slice a5 (n + 1) c5) ho5 hF5.below (by rw [S1.out]; omega)
            have HO := hidOf ho6
            have HBl := hidOf hb6
            clear ho5 hF5 ho6 hb6 HCo HC4 q0 q1
            go_wp2
            refine bodyPost_ret (v := .tuple #[.agg #[.int .i64 now, .slice a5 (n + 1) c5], .int .i64 0]) (by simp [results, Try.results17, go_sem, r0, r1]) rfl ?_
            rw [HR.out]
            exact outC (r := [.int .i64 0]) HO.out HBl.out
      · have ht2 : (decide (0 ≤ tok) && decide (tok ≤ 23)) = false := by
          cases e : (decide (0 ≤ tok) && decide (tok ≤ 23)) with
          | false => rfl
          | true => simp at e; omega
        have hres : setT now ts i tok = (ts, 1) := by unfold setT; rw [if_neg (by omega)]
        go_wp2_with fail
        refine (isTok_any tok _).mono ?_
        rintro e2 w2 ⟨rfl, rfl⟩
        rw [ht2]
        clear ht2 t2
        go_wp2_with fail
        refine (copiedClock_any now a n cap ts _ (HC.out.timX) hn).mono ?_
        rintro e9 w9 ⟨a9, c9, rfl, ho9, hb9⟩
        obtain ⟨_, r0, r1, rf⟩ := HC.out.box1.keep hb9
        obtain ⟨_, q0, q1, _⟩ := HC.out.box0.keep hb9
        have hE := HC.out.fin (.int .i64 now) (.slice a9 n c9) ho9 hb9
        obtain ⟨ho10, hb10⟩ := hE
        have HO := hidOf ho10
        have HBl := hidOf hb10
        have HR := hidOf hres
        clear HC ho9 hb9 ho10 hb10 hres p0 p1
        go_wp2
        refine bodyPost_ret (v := .tuple #[.agg #[.int .i64 now, .slice a9 n c9], .int .i64 1]) (by simp [results, Try.results17, go_sem, r0, r1]) rfl ?_
        rw [HR.out]
        exact outC (r := [.int .i64 1]) HO.out HBl.out
  · have HC := hidOf (HX.out.keep hb1 (by rw [S1.out]; omega))
    have hres : setT now ts i tok = (ts, 1) := by unfold setT; rw [if_neg (by rw [hok]; simp)]
    obtain ⟨_, p0, p1, _⟩ := HC.out.box0
    clear HCt HX hb1 hok
    go_wp2_with fail
    refine (copiedClock_any now a n cap ts _ (HC.out.timX) hn).mono ?_
    rintro e9 w9 ⟨a9, c9, rfl, ho9, hb9⟩
    obtain ⟨_, r0, r1, rf⟩ := HC.out.box1.keep hb9
    obtain ⟨_, q0, q1, _⟩ := HC.out.box0.keep hb9
    have hE := HC.out.fin (.int .i64 now) (.slice a9 n c9) ho9 hb9
    obtain ⟨ho10, hb10⟩ := hE
    have HO := hidOf ho10
    have HBl := hidOf hb10
    have HR := hidOf hres
    clear HC ho9 hb9 ho10 hb10 hres p0 p1
    go_wp2
    refine bodyPost_ret (v := .tuple #[.agg #[.int .i64 now, .slice a9 n c9], .int .i64 1]) (by simp [results, Try.results17, go_sem, r0, r1]) rfl ?_
    rw [HR.out]
    exact outC (r := [.int .i64 1]) HO.out HBl.out
end Go.Proofs.Ytfahfbeemgigcaa
