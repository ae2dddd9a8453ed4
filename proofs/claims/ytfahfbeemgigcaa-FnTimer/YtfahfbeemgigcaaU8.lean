/-
  The program's clocks: a clock is advanced.
-/
import Derived.Test.YtfahfbeemgigcaaU7
namespace Go.Proofs.Ytfahfbeemgigcaa
open Go.RowKit Pl Il Th

/-- What advancing a clock answers: the time, the timers, the tokens, the code. -/
def advT (now : Int) (ts : List (Int × Int)) (d : Int) : Int × List (Int × Int) × List Int × Int :=
  if okClock now ts = true ∧ 0 ≤ d ∧ d ≤ 1000000000 - now then (now + d, laterL (now + d) ts, (dueL (now + d) ts).map Prod.snd, 0) else (now, ts, [], 1)
/-- A clock, a list of tokens, a code are handed back. -/
structure OutA (w : World) (now' : Int) (ts' : List (Int × Int)) (told : List Int) (code : Int) (a1 : Option Addr) (n1 c1 : Nat) (a2 : Option Addr) (n2 c2 : Nat) (e : Ending) (w' : World) : Prop where
  ret : e = .returned (.tuple #[.agg #[.int .i64 now', .slice a1 n1 c1], .slice a2 n2 c2, .int .i64 code])
  one : OwnT w.heap.size w' a1 n1 ts'
  two : Il.OwnAt w.heap.size w' a2 n2 told
  apart : n1 = 0 ∨ n2 = 0 ∨ ∀ b off b' off', a1 = some ⟨b, off, none⟩ → a2 = some ⟨b', off', none⟩ → b ≠ b'
  below : Below w.heap.size w w'
def OutAx (w : World) (now' : Int) (ts' : List (Int × Int)) (told : List Int) (code : Int) (e : Ending) (w' : World) : Prop := ∃ a1 n1 c1 a2 n2 c2, OutA w now' ts' told code a1 n1 c1 a2 n2 c2 e w'

theorem outA_bad {w : World} {now : Int} {ts' : List (Int × Int)} {a' : Option Addr} {n' c' : Nat} {w' : World} (ho : w'.ownsRow w.heap.size 36 2 (.slice a' n' c') n' (tflat ts')) (hb : Below w.heap.size w w') : OutAx w now ts' [] 1 (.returned (.tuple #[.agg #[.int .i64 now, .slice a' n' c'], .slice none 0 0, .int .i64 1])) w' := by
  obtain ⟨a1, c1, e, _, hO⟩ := ownT_of ho ts' rfl
  cases e
  exact ⟨_, _, _, _, _, _, ⟨rfl, hO, ⟨⟨rfl, .inl rfl⟩, .inl rfl⟩, .inr (.inl rfl), hb⟩⟩
theorem aside_ne {t u : TypeId} {sz B' : Nat} {w : World} {v : Value} {n : Nat} {xs : List Value} (ho : w.ownsRow B' t sz v n xs) {b : Nat} {cs : Array Value} {z : Nat × Nat} (hbk : w.heap[b]? = some (.cells cs u z)) (ht : u ≠ t) : some b ≠ v.ownBlock := by
  intro e
  obtain ⟨_, ⟨rfl, _⟩ | ⟨q, cap, cur, rfl, _, hq, _⟩⟩ := ho
  · cases e
  · simp [Value.ownBlock] at e
    subst e
    rw [hbk] at hq
    simp at hq
    exact ht hq.2.1
/-- A row of another type grows: the heap stays. -/
theorem HMem.aside' {t : TypeId} {sz : Nat} {B B' : Nat} {w w' : World} {hb : Nat} {tv : Value} {k : Int} {l : List NT} {v : Value} {n : Nat} {xs : List Value} (h : HMem B w hb tv k l) (ho : w.ownsRow B' t sz v n xs) (h1 : 80 ≠ t) (h2 : 83 ≠ t) (hg : w.grownBy w' v.ownBlock) : HMem B w' hb tv k l := by
  refine ⟨by rw [hg.block hb h.lt (aside_ne ho h.blk h1)]; exact h.blk, ?_, h.ge⟩
  obtain ⟨hl, hn | ⟨q, cap, cur, rfl, hB, hq, hr⟩⟩ := h.row
  · exact ⟨hl, .inl hn⟩
  · exact ⟨hl, .inr ⟨q, cap, cur, rfl, hB, by rw [hg.block q (lt_blk hq) (aside_ne ho hq h2)]; exact hq, hr⟩⟩
theorem HSt.aside' {t : TypeId} {sz : Nat} {B B' : Nat} {w w' : World} {hb : Nat} {s : List NT} {v : Value} {n : Nat} {xs : List Value} (h : HSt B w hb s) (ho : w.ownsRow B' t sz v n xs) (h1 : 80 ≠ t) (h2 : 83 ≠ t) (hg : w.grownBy w' v.ownBlock) : HSt B w' hb s := by
  obtain ⟨⟨tv, k, l, hM, hH, hP⟩, hs⟩ := h
  exact ⟨⟨tv, k, l, hM.aside' ho h1 h2 hg, hH, hP⟩, hs⟩
theorem own_aside {t u : TypeId} {sz sz' : Nat} {B B' : Nat} {w w' : World} {v v' : Value} {n m : Nat} {xs ys : List Value} (h : w.ownsRow B u sz' v' m ys) (ho : w.ownsRow B' t sz v n xs) (ht : u ≠ t) (hg : w.grownBy w' v.ownBlock) : w'.ownsRow B u sz' v' m ys := by
  obtain ⟨hl, hn | ⟨q, cap, cur, rfl, hB, hq, hr⟩⟩ := h
  · exact ⟨hl, .inl hn⟩
  · exact ⟨hl, .inr ⟨q, cap, cur, rfl, hB, by rw [hg.block q (lt_blk hq) (aside_ne ho hq ht)]; exact hq, hr⟩⟩
theorem own_frI {t : TypeId} {sz B' B : Nat} {w w' : World} {v : Value} {n : Nat} {xs : List Value} (h : w.ownsRow B' t sz v n xs) (hF : HFr B w w') (h1 : t ≠ 80) (h2 : t ≠ 83) : w'.ownsRow B' t sz v n xs := by
  obtain ⟨hl, hn | ⟨g, cap, cur, rfl, hB, hg, hr⟩⟩ := h
  · exact ⟨hl, .inl hn⟩
  · exact ⟨hl, .inr ⟨g, cap, cur, rfl, hB, hF.keepB g cur _ hg h1 h2, hr⟩⟩
theorem own_keepI {t : TypeId} {sz B : Nat} {w w' : World} {v : Value} {n : Nat} {xs : List Value} (h : w.ownsRow B t sz v n xs) (q : Below w.heap.size w w') : w'.ownsRow B t sz v n xs := by
  refine h.kept (row := none) ⟨q.os, q.tape, q.output, q.size, fun k hk _ => q.block k hk⟩ ?_
  cases v.ownBlock <;> simp
theorem snd_take (ts : List (Int × Int)) (k : Nat) (h : k < ts.length) : (ts.take (k + 1)).map Prod.snd = (ts.take k).map Prod.snd ++ [(tg ts k).2] := by rw [take_tg h]; simp

/-- What the loop over the timers that are due holds on to. -/
structure AdvR (w : World) (now : Int) (a : Option Addr) (n cap : Nat) (ts : List (Int × Int)) (hb : Nat) (r : List NT) (q : List (Int × Int)) (a1 : Option Addr) (c1 : Nat) (k : Nat) (gv : Value) (wr : World) : Prop where
  ctx : CtxC w now a n cap ts wr
  hst : HSt (w.heap.size + 2) wr hb r
  list : wr.ownsRow (w.heap.size + 2) 36 2 (.slice a1 q.length c1) q.length (tflat q)
  gone : wr.ownsRow (w.heap.size + 2) 3 1 gv k (((q.take k).map Prod.snd).map (Value.int .i64))
theorem AdvR.keep {w : World} {now : Int} {a : Option Addr} {n cap : Nat} {ts : List (Int × Int)} {hb : Nat} {r : List NT} {q : List (Int × Int)} {a1 : Option Addr} {c1 k : Nat} {gv : Value} {wr u : World} (h : AdvR w now a n cap ts hb r q a1 c1 k gv wr) (hB : Below wr.heap.size wr u) : AdvR w now a n cap ts hb r q a1 c1 k gv u :=
  ⟨h.ctx.keep hB h.ctx.sz, h.hst.keep hB, own_keepI h.list hB, own_keepI h.gone hB⟩

set_option maxRecDepth 100000 in
set_option maxHeartbeats 4000000 in
theorem implAdv_any (now d : Int) (a : Option Addr) (n cap : Nat) (ts : List (Int × Int)) (w : World) (hI : TimAt w a n ts) (hn : n ≤ 2097152) :
    Calls Try.prog 11 #[.agg #[.int .i64 now, .slice a n cap], .int .i64 d] w fun e w' => OutAx w (advT now ts d).1 (advT now ts d).2.1 (advT now ts d).2.2.1 (advT now ts d).2.2.2 e w' := by
  have hctx := ctx_new (now := now) (cap := cap) hI
  have s1 : ((w.alloc (.cells #[.int .i64 now, .slice a n cap] 26)).alloc (.cells #[.int .i64 0, .slice none 0 0] 26)).heap.size = w.heap.size + 2 := by simp
  have hc := ctimers_any now a n cap ts _ (hctx.timX) (by omega)
  unfold CtP at hc
  rw [s1] at hc
  have HCt := hidOf hc
  have HX := hidOf hctx
  have HLen := hidOf hI.len
  have S1 := hidOf s1
  clear hc hctx s1 hI
  go_enter Try.func11, Try.ntmps11
  go_wp2_with fail
  refine (HCt.out).mono ?_
  rintro e w1 (⟨hok, hb, tv, rfl, hM, hb1⟩ | ⟨hok, rfl, hb1⟩)
  · have HC := hidOf (HX.out.keep hb1 (Nat.le_refl _))
    obtain ⟨_, p0, p1, _⟩ := HC.out.box0
    obtain ⟨hp0, hp1, hp2, hp3⟩ := ok_parts hok
    have HM := hidOf hM
    have HOK := hidOf hok
    clear HCt HX hb1 hM hok
    by_cases t1 : d < 0
    · have hres : advT now ts d = (now, ts, [], 1) := by unfold advT; rw [if_neg (by omega)]
      go_wp2_with fail
      refine (copiedClock_any now a n cap ts _ (HC.out.timX) hn).mono ?_
      rintro e9 w9 ⟨a9, c9, rfl, ho9, hb9⟩
      obtain ⟨_, r0, r1, rf⟩ := HC.out.box1.keep hb9
      obtain ⟨_, q0, q1, _⟩ := HC.out.box0.keep hb9
      have hE := HC.out.fin (.int .i64 now) (.slice a9 n c9) ho9 hb9
      obtain ⟨ho10, hb10⟩ := hE
      have HO := hidOf ho10
      have HBl := hidOf hb10
      have HR := hidOf hres
      clear HC ho9 hb9 ho10 hb10 hres p0 p1
      go_wp2
      refine bodyPost_ret (v := .tuple #[.agg #[.int .i64 now, .slice a9 n c9], .slice none 0 0, .int .i64 1]) (by simp [results, Try.results11, go_sem, r0, r1]) rfl ?_
      rw [HR.out]
      exact outA_bad HO.out HBl.out
    · by_cases t2 : 1000000000 - now < d
      · have hres : advT now ts d = (now, ts, [], 1) := by unfold advT; rw [if_neg (by omega)]
        go_wp2_with fail
        refine (copiedClock_any now a n cap ts _ (HC.out.timX) hn).mono ?_
        rintro e9 w9 ⟨a9, c9, rfl, ho9, hb9⟩
        obtain ⟨_, r0, r1, rf⟩ := HC.out.box1.keep hb9
        obtain ⟨_, q0, q1, _⟩ := HC.out.box0.keep hb9
        have hE := HC.out.fin (.int .i64 now) (.slice a9 n c9) ho9 hb9
        obtain ⟨ho10, hb10⟩ := hE
        have HO := hidOf ho10
        have HBl := hidOf hb10
        have HR := hidOf hres
        clear HC ho9 hb9 ho10 hb10 hres p0 p1
        go_wp2
        refine bodyPost_ret (v := .tuple #[.agg #[.int .i64 now, .slice a9 n c9], .slice none 0 0, .int .i64 1]) (by simp [results, Try.results11, go_sem, r0, r1]) rfl ?_
        rw [HR.out]
        exact outA_bad HO.out HBl.out
      · have hres : advT now ts d = (now + d, laterL (now + d) ts, (dueL (now + d) ts).map Prod.snd, 0) := by unfold advT; rw [if_pos ⟨HOK.out, by omega, by omega⟩]
        have HR := hidOf hres
        obtain ⟨p, r, e1, hpp, hrr, e2, e3⟩ := due_split (k := 0) (t := now + d) hp3
        have hsn := numL_sorted (k := 0) hp3
        have hst : HSt (w.heap.size + 2) w1 hb (numL 0 ts) := ⟨⟨_, _, _, HM.out, heap_of_sorted hsn, .refl _⟩, hsn⟩
        have hl100 : (numL 0 ts).length ≤ 100 := by rw [length_numL]; omega
        have hrl : r.length ≤ 100 := by have := congrArg List.length e1; rw [List.length_append] at this; omega
        have hpl : p.length ≤ 100 := by have := congrArg List.length e1; rw [List.length_append] at this; omega
        have htk := takeUntil_any (w.heap.size + 2) hb (now + d) (numL 0 ts) p r w1 hst HC.out.sz e1 hpp (by
          cases r with
          | nil => exact .inl rfl
          | cons x r => exact .inr (hrr x List.mem_cons_self)) hl100
        have hrtm : ∀ x ∈ r, x.tm ≤ 1000000000 := fun x hx => (numL_mem (k := 0) hp3 x (by rw [e1]; exact List.mem_append_right _ hx)).2.1
        have HTk := hidOf htk
        have HRt := hidOf hrtm
        have E2 := hidOf e2
        have E3 := hidOf e3
        clear htk hst hsn hres e1 hpp hrr hrtm e2 e3 hl100
        go_wp2_with fail
        refine (HTk.out).mono ?_
        rintro e4 w4 ⟨v4, rfl, ho4, hst4, hF4⟩
        obtain ⟨a4, c4, rfl, hc4, hO4⟩ := ownT_of ho4 (p.map tmr) rfl
        have hsz := HC.out.sz
        obtain ⟨q, hq⟩ : ∃ q, p.map tmr = q := ⟨_, rfl⟩
        have hql : p.length = q.length := by rw [← hq, List.length_map]
        rw [hq, hql] at ho4
        rw [hq, hql] at hO4
        rw [hql]
        have hR0 : AdvR w now a n cap ts hb r q a4 c4 0 (.slice none 0 0) w4 := ⟨HC.out.keep hF4.below (Nat.le_refl _), hst4, ownsRow_mono ho4 hsz, World.ownsRow_nil _ _ _ _⟩
        have HR0 := hidOf hR0
        have HQ := hidOf hq
        have hq100 : q.length ≤ 100 := by omega
        clear ho4 hst4 hF4 hc4 hO4 hR0 hq hql p0 p1 HTk HM HC hpl
        generalize hQl : q.length = m at *
        have HQl := hidOf hQl
        clear hQl
        go_wp2_with fail
        go_loopw [10, 41] (fun g i wr => ∃ (k : Nat) (ga : Option Addr) (gc : Nat), k ≤ m ∧ i = .int .i64 k ∧ g = .slice ga k gc ∧ AdvR w now a n cap ts hb r q a4 c4 k (.slice ga k gc) wr) (fun _ i _ => m - (intOf i).toNat)
        case atStart => exact ⟨0, none, 0, Nat.zero_le _, rfl, rfl, HR0.out⟩
        case round =>
          rename_i wr
          obtain ⟨k, ga, gc, hk, rfl, rfl, hR⟩ := hrel
          have HRr := hidOf hR
          clear HR0
          by_cases hlt : k < m
          · have hqk : k < q.length := by rw [HQl.out]; exact hlt
            obtain ⟨a5, c5, e5, _, hO5⟩ := ownT_of hR.list q rfl
            cases e5
            obtain ⟨_, h' | ⟨b, off, e6, hbl, hcell⟩⟩ := hO5.tim
            · omega
            subst e6
            obtain ⟨hx1, hx2⟩ := hcell k hqk
            have hki : (k : Int) < (m : Int) := by omega
            obtain ⟨y, hy⟩ : ∃ y, tg q k = y := ⟨_, rfl⟩
            rw [hy] at hx1 hx2
            have hA := hR.keep (bl_alloc (Below.refl _ _) (.cells #[.int .i64 y.1, .int .i64 y.2] 36))
            have hv1 : (wr.alloc (.cells #[.int .i64 y.1, .int .i64 y.2] 36)).cell? ⟨wr.heap.size, 1, none⟩ = some (.int .i64 y.2) := by simp
            generalize hWX : wr.alloc (.cells #[.int .i64 y.1, .int .i64 y.2] 36) = WX at hA hv1
            have hgl : ((q.take k).map Prod.snd).length = k := by rw [List.length_map, List.length_take]; omega
            have hgo := hA.gone
            have hgo' : WX.ownsRow (w.heap.size + 2) 3 1 (.slice ga k gc) k (((q.take k).map Prod.snd).map (Value.int .i64)) := hgo
            obtain ⟨g7, c7, w7, hr7, ho7, hg7, _⟩ := append_own1 (w.heap.size + 2) k (.slice ga k gc) ((q.take k).map Prod.snd) y.2 _ hgo' hA.ctx.sz (by omega)
            have e7 : (q.take k).map Prod.snd ++ [y.2] = (q.take (k + 1)).map Prod.snd := by rw [snd_take q k hqk, hy]
            rw [e7] at ho7
            have hbel : Below (w.heap.size + 2) WX w7 := (Below.refl _ _).grown hg7 hA.ctx.sz (fun j hj => (hgo.lt j hj).1)
            have hR7 : AdvR w now a n cap ts hb r q (some ⟨b, off, none⟩) c4 (k + 1) (.slice (some ⟨g7, 0, none⟩) (k + 1) c7) w7 := ⟨hA.ctx.keep hbel (Nat.le_refl _), hA.hst.aside' hgo (by decide) (by decide) hg7, own_aside hA.list hgo (by decide) hg7, ho7⟩
            have Hr7 := hidOf hr7
            have HR7 := hidOf hR7
            clear hR HRr hA hgo hgo' hr7 ho7 hg7 e7 hbel hR7 hcell hy hO5 hgl hqk
            go_wp2_with (at_builtin; refine wpList_append_run rfl _ _ 29 rfl _ _ _ rfl rfl Hr7.out ?_)
            go_roundw
            case rel => exact ⟨k + 1, some ⟨g7, 0, none⟩, c7, by omega, by go_num, rfl, HR7.out⟩
            case measure => simp [intOf]; omega
          · have hki : ¬ (k : Int) < (m : Int) := by omega
            have hco := clockOf_any _ hb (now + d) r wr hR.hst hR.ctx.sz HRt.out hrl
            have HCo := hidOf hco
            clear hco hR
            go_wp2_with fail
            refine (HCo.out).mono ?_
            rintro e5 w5 ⟨a5, c5, rfl, ho5, hF5⟩
            have hR5 := HRr.out
            obtain ⟨_, r0, r1, rf⟩ := hR5.ctx.box1.below hF5.below (by omega)
            obtain ⟨ho6, hb6⟩ := hR5.ctx.fin2 (.int .i64 (now + d)) (.slice a5 r.length c5) ho5 hF5.below (Nat.le_refl _)
            have hg5 := own_frI hR5.gone hF5 (by decide) (by decide)
            have hkm : k = q.length := by rw [HQl.out]; omega
            have hgone : OutAx w (now + d) (r.map tmr) (q.map Prod.snd) 0 (.returned (.tuple #[.agg #[.int .i64 (now + d), .slice a5 r.length c5], .slice ga k gc, .int .i64 0])) ((w5.setCell ⟨w.heap.size + 1, 0, none⟩ (.int .i64 (now + d))).setCell ⟨w.heap.size + 1, 1, none⟩ (.slice a5 r.length c5)) := by
              obtain ⟨ax, cx, ex, _, hOx⟩ := ownT_of ho6 (r.map tmr) rfl
              cases ex
              obtain ⟨ay, cy, ey, hOy⟩ := own_of hg5 _ rfl
              cases ey
              have hOy2 := (hOy.far (w.heap.size + 1) 0 (by omega) (.int .i64 (now + d))).far (w.heap.size + 1) 1 (by omega) (.slice a5 r.length c5)
              have etk : q.take k = q := List.take_of_length_le (by omega)
              rw [etk] at hOy2
              refine ⟨_, _, _, _, _, _, ⟨rfl, hOx, hOy2.mono (by omega), ?_, hb6⟩⟩
              obtain ⟨_, ⟨e8, _⟩ | ⟨g8, _, _, e8, hB8, _⟩⟩ := ho5
              · injection e8 with e8 _ _; subst e8; exact .inr (.inr fun b off b' off' e => by cases e)
              · injection e8 with e8 _ _; subst e8
                obtain ⟨_, ⟨e9, _⟩ | ⟨g9, _, _, e9, _, hg9, _⟩⟩ := hR5.gone
                · injection e9 with e9 _ _; subst e9; exact .inr (.inr fun b off b' off' _ e => by cases e)
                · injection e9 with e9 _ _; subst e9
                  refine .inr (.inr fun b off b' off' e e' => ?_)
                  cases e
                  cases e'
                  have := lt_blk hg9
                  omega
            have HG := hidOf hgone
            have eqs : (dueL (now + d) ts).map Prod.snd = q.map Prod.snd := by rw [← HQ.out, E2.out]
            have HEq := hidOf eqs
            clear ho5 ho6 hb6 hg5 hR5 hF5 hgone HCo HRr eqs hkm
            go_wp2
            refine bodyPost_ret (v := .tuple #[.agg #[.int .i64 (now + d), .slice a5 r.length c5], .slice ga k gc, .int .i64 0]) (by simp [results, Try.results11, go_sem, r0, r1]) rfl ?_
            rw [HR.out, ← E3.out]
            simp only
            rw [HEq.out]
            exact HG.out
  · have HC := hidOf (HX.out.keep hb1 (Nat.le_refl _))
    have hres : advT now ts d = (now, ts, [], 1) := by unfold advT; rw [if_neg (by rw [hok]; simp)]
    obtain ⟨_, p0, p1, _⟩ := HC.out.box0
    clear HCt HX hb1 hok
    go_wp2_with fail
    refine (copiedClock_any now a n cap ts _ (HC.out.timX) hn).mono ?_
    rintro e9 w9 ⟨a9, c9, rfl, ho9, hb9⟩
    obtain ⟨_, r0, r1, rf⟩ := HC.out.box1.keep hb9
    obtain ⟨_, q0, q1, _⟩ := HC.out.box0.keep hb9
    have hE := HC.out.fin (.int .i64 now) (.slice a9 n c9) ho9 hb9
    obtain ⟨ho10, hb10⟩ := hE
    have HO := hidOf ho10
    have HBl := hidOf hb10
    have HR := hidOf hres
    clear HC ho9 hb9 ho10 hb10 hres p0 p1
    go_wp2
    refine bodyPost_ret (v := .tuple #[.agg #[.int .i64 now, .slice a9 n c9], .slice none 0 0, .int .i64 1]) (by simp [results, Try.results11, go_sem, r0, r1]) rfl ?_
    rw [HR.out]
    exact outA_bad HO.out HBl.out
end Go.Proofs.Ytfahfbeemgigcaa
