/-
  The program's copy of a list of topics.
-/
import Derived.Test.YtojajaibeifhoaaGreatDoorZTo25
import Derived.Test.YtojajaibeifhoaaGreatDoorZTo26
namespace Go.Proofs.YtojajaibeifhoaaGreatDoor
open Go.RowKit Pl Il

def setLT : List Value → Nat → List Value → List Value
  | l, _, [] => l
  | l, o, v :: vs => setLT (l.set o v) (o + 1) vs
theorem setLT_get : ∀ (vs l : List Value) (o i : Nat), o + vs.length ≤ l.length → (setLT l o vs)[i]? = if o ≤ i ∧ i < o + vs.length then vs[i - o]? else l[i]?
  | [], l, o, i, _ => by unfold setLT; rw [if_neg (by simp only [List.length_nil]; omega)]
  | v :: vs, l, o, i, h => by
    unfold setLT
    simp only [List.length_cons] at h ⊢
    rw [setLT_get vs _ (o + 1) i (by simp; omega)]
    by_cases h1 : i = o
    · subst h1
      rw [if_neg (by omega), if_pos (by omega), List.getElem?_set, if_pos rfl, if_pos (by omega), Nat.sub_self]
      rfl
    · by_cases h2 : o + 1 ≤ i ∧ i < o + 1 + vs.length
      · rw [if_pos h2, if_pos (by omega), show i - o = (i - (o + 1)) + 1 by omega, List.getElem?_cons_succ]
      · rw [if_neg h2, if_neg (by omega), List.getElem?_set, if_neg (by omega)]
theorem row_setLT {B g n c : Nat} {t : TypeId} {sz : Nat} : ∀ (vs : List Value) (w : World) (o : Nat) (l : List Value), w.ownsRow B t sz (.slice (some ⟨g, 0, none⟩) n c) n l → (setL w g o vs).ownsRow B t sz (.slice (some ⟨g, 0, none⟩) n c) n (setLT l o vs)
  | [], _, _, _, h => h
  | v :: vs, w, o, l, h => by
    unfold setL setLT
    exact row_setLT vs _ _ _ (h.stored o v).1
theorem tg_set_same {ys : List Ta} {k : Nat} {x : Ta} (h : k < ys.length) : tg (ys.set k x) k = x := by rw [tg_eq (by simpa using h)]; simp
theorem tg_set_ne {ys : List Ta} {k i : Nat} {x : Ta} (h : i ≠ k) : tg (ys.set k x) i = tg ys i := by
  unfold tg
  rw [List.getD_eq_getElem?_getD, List.getD_eq_getElem?_getD, List.getElem?_set_ne (fun e => h e.symm)]
/-- One ring is another one. -/
theorem tflat_setR {ys : List Ta} {k : Nat} {M : Rm} {v : Rv} (hk : k < ys.length) : setLT (tflat ys) (k * 9 + 1) (rC M v) = tflat (ys.set k ⟨(tg ys k).nm, M, v⟩) := by
  have hl : (tflat ys).length = ys.length * 9 := length_tflat ys
  have hl2 : (tflat (ys.set k ⟨(tg ys k).nm, M, v⟩)).length = ys.length * 9 := by rw [length_tflat, List.length_set]
  refine List.ext_getElem? fun i => ?_
  rw [setLT_get _ _ _ _ (by rw [hl]; simp; omega)]
  by_cases hi : i < ys.length * 9
  · have e1 := tflat_at (ys.set k ⟨(tg ys k).nm, M, v⟩) (i / 9) (i % 9) (by rw [List.length_set]; omega) (by omega)
    have e2 := tflat_at ys (i / 9) (i % 9) (by omega) (by omega)
    rw [show i / 9 * 9 + i % 9 = i by omega] at e1 e2
    rw [e1]
    by_cases hik : i / 9 = k
    · rw [hik, tg_set_same hk]
      by_cases h0 : i % 9 = 0
      · rw [if_neg (by simp; omega), e2, hik, h0]
        rfl
      · rw [if_pos (by simp; omega), show i - (k * 9 + 1) = i % 9 - 1 by omega]
        obtain ⟨r, hr⟩ : ∃ r, i % 9 = r + 1 := ⟨i % 9 - 1, by omega⟩
        rw [hr]
        rfl
    · rw [if_neg (by simp; omega), e2, tg_set_ne hik]
  · rw [if_neg (by simp; omega), List.getElem?_eq_none (by omega), List.getElem?_eq_none (by omega)]
theorem copiedT_any (a : Option Addr) (n cap : Nat) (xs : List Ta) (w : World) (hI : TopAt w a n xs) (hn : n ≤ 2097152) :
    Calls Tryz.prog 79 #[.slice a n cap] w fun e w' => ∃ a' c', e = .returned (.slice a' n c') ∧ w'.ownsRow w.heap.size 40 9 (.slice a' n c') n (tflat xs) ∧ Below w.heap.size w w' := by
  obtain ⟨a', c', w', hr, ho, hg, _⟩ := append_topR w.heap.size 0 (.slice none 0 0) [] a n cap xs w (World.ownsRow_nil _ _ _ _) (Nat.le_refl _) hI.len hI.src (by omega)
  rw [Nat.zero_add] at hr ho
  rw [List.nil_append] at ho
  have hb : Below w.heap.size w w' := (Below.refl _ _).grown hg (Nat.le_refl _) (fun k hk => by cases hk)
  have Hr := hidOf hr
  have HO := hidOf ho
  clear hr ho hI hg
  go_enter Tryz.func79, Tryz.ntmps79
  go_wp2_with (at_builtin; refine wpList_append_run rfl _ _ 24 rfl _ _ _ rfl rfl Hr.out ?_)
  go_ret
  exact ⟨_, _, rfl, HO.out, hb⟩
/-- The first k rings are copied. -/
structure CtT (w : World) (g n c k : Nat) (xs ys : List Ta) (u : World) : Prop where
  len : ys.length = n
  sb : u.ownsRow w.heap.size 40 9 (.slice (some ⟨g, 0, none⟩) n c) n (tflat ys)
  same : ∀ i, i < n → (tg ys i).nm = (tg xs i).nm ∧ (tg ys i).v = (tg xs i).v
  le : ∀ i, i < n → ∀ m, RLe (tg xs i).M m → RLe (tg ys i).M m
  rest : ∀ i, i < n → k ≤ i → tg ys i = tg xs i
  rr : ∀ i, i < k → RRow w.heap.size u (tg ys i).M (tg ys i).v
  ne : ∀ i, i < k → some g ∉ blkR (tg ys i).M
  ap : ∀ i j, i < j → j < k → ∀ b, some b ∈ blkR (tg ys i).M → some b ∉ blkR (tg ys j).M
  below : Below w.heap.size w u
/-- One more. -/
theorem CtT.step {w : World} {g n c k : Nat} {xs ys : List Ta} {u u' : World} {M' : Rm} (h : CtT w g n c k xs ys u) (hk : k < n) (ho : RRow u.heap.size u' M' (tg xs k).v) (hle : ∀ m, RLe (tg xs k).M m → RLe M' m) (hb : Below u.heap.size u u') :
    CtT w g n c (k + 1) xs (ys.set k ⟨(tg ys k).nm, M', (tg xs k).v⟩) (setL u' g (k * 9 + 1) (rC M' (tg xs k).v)) := by
  have hky : k < ys.length := by rw [h.len]; exact hk
  have hg := row_lt h.sb (q := g) rfl
  have st := row_setLT (rC M' (tg xs k).v) u' (k * 9 + 1) _ (ownsRow_keep h.sb hb)
  rw [tflat_setR hky] at st
  have nb : ∀ q, some q ∈ blkR M' → u.heap.size ≤ q := fun q e => (ho.blk q e).1
  have hs : u.heap.size ≤ u'.heap.size := hb.size
  have gs : u'.grownBy (setL u' g (k * 9 + 1) (rC M' (tg xs k).v)) (some g) := setL_grown ⟨rfl, rfl, rfl, Nat.le_refl _, fun _ _ _ => rfl⟩
  refine ⟨by simpa using h.len, st, fun i hi => ?_, fun i hi => ?_, fun i hi hki => ?_, fun i hi => ?_, fun i hi => ?_, fun i j hij hj => ?_, setL_below hg.1 (bl_trans h.below hb)⟩
  · by_cases e : i = k
    · subst e
      rw [tg_set_same hky]
      exact ⟨(h.same i hi).1, rfl⟩
    · rw [tg_set_ne e]
      exact h.same i hi
  · by_cases e : i = k
    · subst e
      rw [tg_set_same hky]
      exact hle
    · rw [tg_set_ne e]
      exact h.le i hi
  · rw [tg_set_ne (by omega)]
    exact h.rest i hi (by omega)
  · by_cases e : i = k
    · subst e
      rw [tg_set_same hky]
      exact (ho.mono h.below.size).grownW gs (fun q e1 hm => by injection e1 with e1; have := nb q hm; omega)
    · rw [tg_set_ne e]
      exact ((h.rr i (by omega)).keep hb).grownW gs (fun q e1 hm => by injection e1 with e1; exact h.ne i (by omega) (by rw [e1]; exact hm))
  · by_cases e : i = k
    · subst e
      rw [tg_set_same hky]
      intro e2
      have := nb g e2
      omega
    · rw [tg_set_ne e]
      exact h.ne i (by omega)
  · by_cases e : j = k
    · subst e
      rw [tg_set_same hky, tg_set_ne (by omega)]
      intro b e1 e2
      have h1 := ((h.rr i hij).blk b e1).2
      have h2 := nb b e2
      omega
    · rw [tg_set_ne e, tg_set_ne (by omega)]
      exact h.ap i j hij (by omega)
theorem CtT.done {w : World} {g n c : Nat} {xs ys : List Ta} {u : World} (h : CtT w g n c n xs ys u) (hl : xs.length = n) (hnm : ∀ x, x ∈ xs → x.nm.size ≤ maxLen) : TRow w.heap.size u (some ⟨g, 0, none⟩) n c ys ∧ tvs ys = tvs xs ∧ ∀ y, y ∈ ys → ∃ x, x ∈ xs ∧ ∀ k, RLe x.M k → RLe y.M k := by
  have mem : ∀ y, y ∈ ys → ∃ i, i < n ∧ y = tg ys i := fun y hy => by
    obtain ⟨i, hi, rfl⟩ := List.getElem_of_mem hy
    exact ⟨i, by rw [← h.len]; exact hi, (tg_eq hi).symm⟩
  refine ⟨⟨h.sb, fun y hy => ?_, fun y hy => ?_, fun q e hm => ?_, ?_⟩, ?_, fun y hy => ?_⟩
  · obtain ⟨i, hi, rfl⟩ := mem y hy
    rw [(h.same i hi).1]
    exact hnm _ (tg_mem (by omega))
  · obtain ⟨i, hi, rfl⟩ := mem y hy
    exact h.rr i hi
  · obtain ⟨y, hy, hm2⟩ := mem_blkT.1 hm
    obtain ⟨i, hi, rfl⟩ := mem y hy
    have e' : g = q := by simpa [Value.ownBlock] using e
    rw [← e'] at hm2
    exact h.ne i hi hm2
  · unfold Apt blkT
    rw [List.pairwise_flatMap]
    refine ⟨fun y hy => ?_, ?_⟩
    · obtain ⟨i, hi, rfl⟩ := mem y hy
      exact (h.rr i hi).apt
    · rw [List.pairwise_iff_getElem]
      intro i j hi hj hij p hp q hq b ep eq
      rw [← tg_eq hi] at hp
      rw [← tg_eq hj] at hq
      subst ep eq
      exact h.ap i j hij (by rw [← h.len]; exact hj) b hp hq
  · refine List.ext_getElem (by simp [tvs, h.len, hl]) fun i h1 h2 => ?_
    have hi : i < n := by simpa [tvs, h.len] using h1
    have e1 : i < ys.length := by rw [h.len]; exact hi
    have e2 : i < xs.length := by omega
    simp only [tvs, List.getElem_map]
    rw [← tg_eq e1, ← tg_eq e2, (h.same i hi).1, (h.same i hi).2]
  · obtain ⟨i, hi, rfl⟩ := mem y hy
    exact ⟨tg xs i, tg_mem (by omega), h.le i hi⟩
set_option maxRecDepth 100000 in
set_option maxHeartbeats 4000000 in
theorem copiedTops_any (a : Option Addr) (n cap : Nat) (xs : List Ta) (w : World) (hI : TopAt w a n xs) (hn : n ≤ 2097152) (hf : TLe xs 2097152) :
    Calls Tryz.prog 38 #[.slice a n cap] w fun e w' => CpT w n xs e w' := by
  have HC := hidOf (copiedT_any a n cap xs w hI hn)
  have HI := hidOf hI
  have HF := hidOf hf
  clear hI hf
  go_enter Tryz.func38, Tryz.ntmps38
  go_wp2_with fail
  refine (HC.out).mono ?_
  rintro e w1 ⟨a', c', rfl, ho, hb⟩
  have HO := hidOf ho
  have HB := hidOf hb
  have hl := HI.out.len
  have HL := hidOf hl
  clear HC ho hb hl
  rcases Nat.eq_zero_or_pos n with h0 | hpos
  · subst h0
    have hx : xs = [] := List.length_eq_zero_iff.1 HL.out
    subst hx
    go_wp2_with fail
    go_loop [9] (fun i => i = .int .i64 0) (fun _ => 0)
    case atStart => rfl
    case round =>
      subst hrel
      go_wp2
      go_ret
      exact ⟨_, _, [], rfl, ⟨HO.out, fun x hx => (by cases hx), fun x hx => (by cases hx), fun q _ hm => (by cases hm), List.Pairwise.nil⟩, rfl, fun y hy => (by cases hy), HB.out⟩
  obtain ⟨g, rfl⟩ : ∃ g, a' = some ⟨g, 0, none⟩ := by
    obtain ⟨hl1, ⟨e, e0⟩ | ⟨g, cp, cur, e, _⟩⟩ := HO.out
    · injection e with e1 e2 e3
      omega
    · injection e with e1; exact ⟨g, e1⟩
  have HS := hidOf (show CtT w g n c' 0 xs xs w1 from ⟨HL.out, HO.out, fun i _ => ⟨rfl, rfl⟩, fun i _ m hm => hm, fun i _ _ => rfl, fun i hi => (by omega), fun i hi => (by omega), fun i j _ hj => (by omega), HB.out⟩)
  go_wp2_with fail
  go_loopw [9] (fun i wr => ∃ (k : Nat) (ys : List Ta), k ≤ n ∧ i = .int .i64 k ∧ CtT w g n c' k xs ys wr) (fun i _ => n - (intOf i).toNat)
  case atStart => exact ⟨0, xs, Nat.zero_le _, rfl, HS.out⟩
  case round =>
    rename World => wr
    obtain ⟨k, ys, hk, rfl, hS⟩ := hrel
    clear HS
    by_cases hlt : k < n
    · have hgl := (row_lt hS.sb (q := g) rfl).2
      have hfr := fun o => World.ownsRow.frozenAt hS.sb o
      have at' : ∀ r, r < 9 → wr.cell? ⟨g, k * 9 + r, none⟩ = (tC (tg xs k))[r]? := fun r hr => by
        obtain ⟨hl1, ⟨e, e0⟩ | ⟨g', cp, cur, e, hB, hg, hc, hm, hs, ht⟩⟩ := hS.sb
        · cases e
        · injection e with e1 e2 e3
          injection e1 with e1
          injection e1 with e1
          subst e1
          have hkl : k < ys.length := by rw [hS.len]; exact hlt
          rw [cell_of_row wr _ (k * 9 + r) cur _ (0, 0) hg, ← hS.rest k hlt (Nat.le_refl _), ← tflat_at ys k r hkl hr, ← ht, List.getElem?_take_of_lt (by omega), Array.getElem?_toList]
      have c1 := at' 1 (by omega)
      have c2 := at' 2 (by omega)
      have c3 := at' 3 (by omega)
      have c4 := at' 4 (by omega)
      have c5 := at' 5 (by omega)
      have c6 := at' 6 (by omega)
      have c7 := at' 7 (by omega)
      have c8 := at' 8 (by omega)
      have hkl : k < xs.length := by rw [HL.out]; exact hlt
      have HC := hidOf (copiedRing_any (tg xs k).M (tg xs k).v wr ((HI.out.rin _ (tg_mem hkl)).keep hS.below) (HF.out _ (tg_mem hkl)))
      have HSt := hidOf (fun (u' : World) (M' : Rm) => CtT.step (u' := u') (M' := M') hS hlt)
      obtain ⟨x, hx⟩ : ∃ x, tg xs k = x := ⟨_, rfl⟩
      rw [hx] at c1 c2 c3 c4 c5 c6 c7 c8 HC HSt
      simp only [tC, List.getElem?_cons_succ, List.getElem?_cons_zero] at c1 c2 c3 c4 c5 c6 c7 c8
      have hki : (k : Int) < (n : Int) := by omega
      clear hS hx hkl at'
      go_wp2_with fail
      refine (HC.out).mono ?_
      rintro e w5 ⟨M', rfl, ho6, hle6, hb6⟩
      have HSt2 := hidOf (HSt.out w5 M' ho6 hle6 hb6)
      have dd : ∀ r v, wr.cell? ⟨g, k * 9 + r, none⟩ = some v → w5.cell? ⟨g, k * 9 + r, none⟩ = some v := fun r v hv => by rw [hb6.cell (p := ⟨g, k * 9 + r, none⟩) hgl]; exact hv
      have d1 := dd 1 _ c1
      have d2 := dd 2 _ c2
      have d3 := dd 3 _ c3
      have d4 := dd 4 _ c4
      have d5 := dd 5 _ c5
      have d6 := dd 6 _ c6
      have d7 := dd 7 _ c7
      have d8 := dd 8 _ c8
      have df : ∀ o, w5.frozen? ⟨g, o, none⟩ = false := fun o => by rw [hb6.frozen (p := ⟨g, o, none⟩) hgl]; exact hfr o
      clear ho6 hb6 hle6 HC HSt c1 c2 c3 c4 c5 c6 c7 c8 hfr dd hgl
      simp only [setL] at HSt2
      go_wp2
      go_roundw
      case rel => exact ⟨k + 1, _, by omega, by go_num, HSt2.out⟩
      case measure => simp [intOf]; omega
    · obtain rfl : k = n := by omega
      have HD := hidOf (hS.done HL.out HI.out.nms)
      have HB2 := hidOf hS.below
      clear hS
      go_wp2
      go_ret
      exact ⟨_, _, ys, rfl, HD.out.1, HD.out.2.1, HD.out.2.2, HB2.out⟩
end Go.Proofs.YtojajaibeifhoaaGreatDoor
