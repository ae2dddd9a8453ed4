/-
  The program's round of messages: filled.
-/
import Derived.Test.YtffpecdjfcgadaaGreatDoorZTm27
namespace Go.Proofs.YtffpecdjfcgadaaGreatDoor
open Go.RowKit Pl Il

/-- What stands in the places. -/
def PlAt (w : World) (b o : Nat) (P : Nat → Tm) : Prop := ∀ j, j < 17 → w.cell? ⟨b, o + j * 3, none⟩ = some (.int .i64 (P j).1) ∧ w.cell? ⟨b, o + j * 3 + 1, none⟩ = some (.int .i64 (P j).2.1) ∧ w.cell? ⟨b, o + j * 3 + 2, none⟩ = some (.string (P j).2.2)
/-- How far place j is from the place of number f. -/
def dstP (f j : Nat) : Nat := (j + 17 - f % 17) % 17
/-- Messages are laid down from number f on. -/
def layP (P : Nat → Tm) (f : Nat) (its : List Tm) (j : Nat) : Tm := if dstP f j < its.length then qg its (dstP f j) else P j
/-- The round's block. -/
structure RndB (b o : Nat) (P : Nat → Tm) (w : World) : Prop where
  blk : ∃ cur t, w.heap[b]? = some (.cells cur t (0, 0)) ∧ o + 53 ≤ cur.size
  pl : PlAt w b o P
theorem RndB.lt {b o : Nat} {P : Nat → Tm} {w : World} (h : RndB b o P w) : b < w.heap.size := by
  obtain ⟨cur, t, hg, _⟩ := h.blk
  exact (Array.getElem?_eq_some_iff.1 hg).1
theorem RndB.fr {b o : Nat} {P : Nat → Tm} {w : World} (h : RndB b o P w) (p : Nat) : w.frozen? ⟨b, p, none⟩ = false := by
  obtain ⟨cur, t, hg, _⟩ := h.blk
  simp [World.frozen?, hg]
theorem RndB.cell {b o : Nat} {P : Nat → Tm} {w : World} (h : RndB b o P w) {p : Nat} (hp : p < o + 53) : ∃ v, w.cell? ⟨b, p, none⟩ = some v := by
  obtain ⟨cur, t, hg, hs⟩ := h.blk
  exact ⟨cur[p]'(by omega), by simp [World.cell?, hg, show p < cur.size by omega]⟩
theorem RndB.keep {b o : Nat} {P : Nat → Tm} {w w' : World} (h : RndB b o P w) (hb : Below w.heap.size w w') : RndB b o P w' := by
  have hl := h.lt
  have key := hb.block b hl
  refine ⟨by obtain ⟨cur, t, hg, hs⟩ := h.blk; exact ⟨cur, t, by rw [key]; exact hg, hs⟩, fun j hj => ?_⟩
  obtain ⟨h1, h2, h3⟩ := h.pl j hj
  exact ⟨by rw [← h1]; exact World.cell?_of_block key, by rw [← h2]; exact World.cell?_of_block key, by rw [← h3]; exact World.cell?_of_block key⟩
theorem RndB.set {b o : Nat} {P : Nat → Tm} {w : World} (h : RndB b o P w) (p : Nat) (hp : o + 51 ≤ p) (v : Value) : RndB b o P (w.setCell ⟨b, p, none⟩ v) := by
  refine ⟨?_, fun j hj => ?_⟩
  · obtain ⟨cur, t, hg, hs⟩ := h.blk
    exact ⟨cur.setIfInBounds p v, t, heap_setCell_same w b p cur t v hg, by simpa using hs⟩
  · obtain ⟨h1, h2, h3⟩ := h.pl j hj
    exact ⟨by rw [World.cell?_setCell_other _ _ _ _ (by intro e; injection e with _ e2; omega)]; exact h1, by rw [World.cell?_setCell_other _ _ _ _ (by intro e; injection e with _ e2; omega)]; exact h2, by rw [World.cell?_setCell_other _ _ _ _ (by intro e; injection e with _ e2; omega)]; exact h3⟩
/-- A copy into the places from d on. -/
theorem RndB.copied {b o s k : Nat} {P : Nat → Tm} {ts : List Tm} {w w' : World} (h : RndB b o P w) (hc : CpyP b (o + s * 3) k ts w w') (hk : k ≤ ts.length) : RndB b o (fun j => if s ≤ j ∧ j < s + k then qg ts (j - s) else P j) w' := by
  refine ⟨?_, fun j hj => ?_⟩
  · obtain ⟨cur, t, hg, hs⟩ := h.blk
    obtain ⟨cur', hg', hs'⟩ := hc.blk cur t hg
    exact ⟨cur', t, hg', by omega⟩
  · obtain ⟨h1, h2, h3⟩ := h.pl j hj
    by_cases hin : s ≤ j ∧ j < s + k
    · have e := fun r hr => qflat_at ts (j - s) r (by omega) hr
      rw [if_pos hin, hc.cells, hc.cells, hc.cells, if_pos (by omega), if_pos (by omega), if_pos (by omega)]
      refine ⟨?_, ?_, ?_⟩
      · rw [show o + j * 3 - (o + s * 3) = (j - s) * 3 + 0 by omega, e 0 (by omega)]; rfl
      · rw [show o + j * 3 + 1 - (o + s * 3) = (j - s) * 3 + 1 by omega, e 1 (by omega)]; rfl
      · rw [show o + j * 3 + 2 - (o + s * 3) = (j - s) * 3 + 2 by omega, e 2 (by omega)]; rfl
    · rw [if_neg hin, hc.cells, hc.cells, hc.cells, if_neg (by omega), if_neg (by omega), if_neg (by omega)]
      exact ⟨h1, h2, h3⟩
theorem RndB.ext {b o : Nat} {P Q : Nat → Tm} {w : World} (h : RndB b o P w) (e : ∀ j, j < 17 → P j = Q j) : RndB b o Q w := ⟨h.blk, fun j hj => by rw [← e j hj]; exact h.pl j hj⟩
theorem TmAt.drop {w : World} {b off n k : Nat} {ts : List Tm} (h : TmAt w (some ⟨b, off, none⟩) n ts) (hk : k ≤ n) : TmAt w (some ⟨b, off + k * 3, none⟩) (n - k) (ts.drop k) := by
  refine ⟨by simp [h.len], fun p hp => h.short p (List.mem_of_mem_drop hp), ?_⟩
  rcases h.row with e | ⟨b', off', e, hlt, hc⟩
  · exact .inl (by omega)
  · cases e
    refine .inr ⟨b, off + k * 3, rfl, hlt, fun i hi => ?_⟩
    have e2 : qg (ts.drop k) i = qg ts (k + i) := by simp [qg, List.getD_eq_getElem?_getD, List.getElem?_drop]
    have := hc (k + i) (by omega)
    rw [e2, show off + k * 3 + i * 3 = off + (k + i) * 3 by omega]
    exact this
theorem layP_no {P : Nat → Tm} {f : Nat} {its : List Tm} (h : f % 17 + its.length ≤ 17) (j : Nat) (hj : j < 17) : (if f % 17 ≤ j ∧ j < f % 17 + its.length then qg its (j - f % 17) else P j) = layP P f its j := by
  unfold layP dstP
  by_cases h1 : f % 17 ≤ j
  · rw [show (j + 17 - f % 17) % 17 = j - f % 17 by omega]
    by_cases h2 : j < f % 17 + its.length
    · rw [if_pos ⟨h1, h2⟩, if_pos (by omega)]
    · rw [if_neg (by omega), if_neg (by omega)]
  · rw [if_neg (by omega), if_neg (by omega)]
theorem layP_yes {P : Nat → Tm} {f : Nat} {its : List Tm} (h : ¬ f % 17 + its.length ≤ 17) (hl : its.length ≤ 17) (j : Nat) (hj : j < 17) : (if 0 ≤ j ∧ j < 0 + (f % 17 + its.length - 17) then qg (its.drop (17 - f % 17)) (j - 0) else if f % 17 ≤ j ∧ j < f % 17 + (17 - f % 17) then qg its (j - f % 17) else P j) = layP P f its j := by
  unfold layP dstP
  have hm : f % 17 < 17 := Nat.mod_lt _ (by omega)
  by_cases h1 : f % 17 ≤ j
  · rw [show (j + 17 - f % 17) % 17 = j - f % 17 by omega, if_neg (by omega), if_pos (by omega), if_pos (by omega)]
  · rw [show (j + 17 - f % 17) % 17 = j + 17 - f % 17 by omega]
    by_cases h2 : j < f % 17 + its.length - 17
    · rw [if_pos (by omega), if_pos (by omega)]
      have : qg (its.drop (17 - f % 17)) (j - 0) = qg its (17 - f % 17 + j) := by simp [qg, List.getD_eq_getElem?_getD, List.getElem?_drop]
      rw [this]
      congr 1
      omega
    · rw [if_neg (by omega), if_neg (by omega), if_neg (by omega)]
/-- The round is filled; nothing else of its block, and no other block, has turned. -/
structure FillP (b o f : Nat) (P : Nat → Tm) (its : List Tm) (w w' : World) : Prop where
  rnd : RndB b o (layP P f its) w'
  fst : w'.cell? ⟨b, o + 51, none⟩ = some (.int .i64 (f : Int))
  nxt : w'.cell? ⟨b, o + 52, none⟩ = some (.int .i64 ((f + its.length : Nat) : Int))
  out : ∀ j, j < o ∨ o + 53 ≤ j → w'.cell? ⟨b, j, none⟩ = w.cell? ⟨b, j, none⟩
  turn : TurnL [(some ⟨b, 0, none⟩, 1)] w w'
abbrev FilS (b o : Nat) (f n : Int) (w w' : World) : Prop := w'.cell? ⟨b, o + 51, none⟩ = some (.int .i64 f) ∧ w'.cell? ⟨b, o + 52, none⟩ = some (.int .i64 n) ∧ Below w.heap.size w w'
theorem FilS.keep {b o : Nat} {f n : Int} {w u u' : World} (h : FilS b o f n w u) (hb : Below u.heap.size u u') : FilS b o f n w u' := ⟨cellK h.1 hb, cellK h.2.1 hb, bl_trans h.2.2 hb⟩
theorem FilS.drew {b o : Nat} {f n : Int} {w u : World} (h : FilS b o f n w u) : FilS b o f n w u.drew := FilS.keep h (Below.refl _ _).drew
set_option maxRecDepth 100000 in
set_option maxHeartbeats 8000000 in
theorem fill_any (b o f i ic : Nat) (ia : Option Addr) (P : Nat → Tm) (its : List Tm) (w : World) (hR : RndB b o P w) (hI : TmAt w ia i its) (hi : i ≤ 17) (hf : f + i ≤ 2000000000) (hc : i ≤ ic) (hne : i = 0 ∨ ∀ b' off', ia = some ⟨b', off', none⟩ → b' ≠ b) :
    Calls Tryz.prog 87 #[.pointer (some ⟨b, o, none⟩), .slice ia i ic, .int .i64 ((f + i : Nat) : Int)] w fun e w' => e = .returned (.tuple #[]) ∧ FillP b o f P its w w' := by
  obtain ⟨x51, c51⟩ := hR.cell (p := o + 51) (by omega)
  obtain ⟨x52, c52⟩ := hR.cell (p := o + 52) (by omega)
  have fr := hR.fr
  have hw : IntKind.i64.wrap ((f : Int) + (i : Int) - (i : Int)) = (f : Int) := by rw [IntKind.wrap_i64]; omega
  have hw2 : (f : Int) + (i : Int) - (i : Int) = (f : Int) := by omega
  obtain ⟨W1, hW1⟩ : ∃ W, (w.setCell ⟨b, o + 51, none⟩ (.int .i64 (f : Int))).setCell ⟨b, o + 52, none⟩ (.int .i64 ((f : Int) + (i : Int))) = W := ⟨_, rfl⟩
  have R1 : RndB b o P W1 := by rw [← hW1]; exact (hR.set _ (by omega) _).set _ (by omega) _
  have HR1 := hidOf R1
  clear R1
  go_enter Tryz.func87, Tryz.ntmps87
  go_upto_region 1 with fail
  have i51 : W1.cell? ⟨b, o + 51, none⟩ = some (.int .i64 (f : Int)) := by rw [← hW1, World.cell?_setCell_other _ _ _ _ (by intro e; injection e with _ e2; omega)]; exact World.cell?_setCell_same _ _ _ c51
  have i52 : W1.cell? ⟨b, o + 52, none⟩ = some (.int .i64 ((f : Int) + (i : Int))) := by
    rw [← hW1]
    refine World.cell?_setCell_same _ _ _ (?_ : _ = some x52)
    rw [World.cell?_setCell_other _ _ _ _ (by intro e; injection e with _ e2; omega)]
    exact c52
  have iout : ∀ j, j < o ∨ o + 53 ≤ j → W1.cell? ⟨b, j, none⟩ = w.cell? ⟨b, j, none⟩ := fun j hj => by rw [← hW1, World.cell?_setCell_other _ _ _ _ (by intro e; injection e with _ e2; omega), World.cell?_setCell_other _ _ _ _ (by intro e; injection e with _ e2; omega)]
  have g1 : w.grownBy W1 (some b) := by
    rw [← hW1]
    exact ⟨rfl, rfl, rfl, by simp, fun k _ hk => by rw [Below.heap_setCell _ _ _ _ (by rintro rfl; exact hk rfl), Below.heap_setCell _ _ _ _ (by rintro rfl; exact hk rfl)]⟩
  have hH : FilS b o (f : Int) ((f : Int) + (i : Int)) W1 W1 := ⟨i51, i52, Below.refl _ _⟩
  have HG1 := hidOf (And.intro g1 iout)
  have HI1 := hidOf (show TmAt W1 ia i its by
    refine ⟨hI.len, hI.short, ?_⟩
    rcases hne with h0 | hne
    · exact .inl h0
    rcases hI.row with k | ⟨b', off', e, hlt, hcc⟩
    · exact .inl k
    · have key := g1.block b' hlt (fun e2 => hne b' off' e (Option.some.inj e2))
      exact .inr ⟨b', off', e, Nat.lt_of_lt_of_le hlt g1.size, fun j hj => by
        obtain ⟨h1, h2, h3⟩ := hcc j hj
        exact ⟨by rw [← h1]; exact World.cell?_of_block key, by rw [← h2]; exact World.cell?_of_block key, by rw [← h3]; exact World.cell?_of_block key⟩⟩)
  have HC := hidOf (fun (u : World) => span_any b o f i u (by omega) hi)
  simp only [show ((f + i : Nat) : Int) = (f : Int) + (i : Int) from by omega] at HC
  clear hW1 c51 c52 i51 i52 iout g1 fr hI hR hw hw2
  refine wp_region_noPanic ?_
  refine wp_region_held_drew (S := fun w' => FilS b o (f : Int) ((f : Int) + (i : Int)) W1 w') (by kernel_rfl) hH.drew (fun hHeld => ?_)
  refine wpAnyH_take (i := 0) (v := ?_) rfl (by kernel_rfl) (by kernel_rfl) (by kernel_rfl) (fun _ _ _ h => h) (Or.inl ⟨by rfl, ?_⟩) (by assumption) ?_
  case refine_2 => (intro w hSw; (try dsimp only at hSw); go_simp; try with_reducible rfl)
  simp only [Act.put, List.getElem_toArray, List.getElem_cons_zero, List.setIfInBounds_toArray, List.set_cons_zero, List.set_cons_succ]
  refine wpAnyH_take (i := 1) (v := ?_) rfl (by kernel_rfl) (by kernel_rfl) (by kernel_rfl) (fun _ _ _ h => h) (Or.inl ⟨by rfl, ?_⟩) (by assumption) ?_
  case refine_2 => (intro w hSw; (try dsimp only at hSw); go_simp; try with_reducible rfl)
  simp only [Act.put, zGA, zG0, zGC, zSA, zS0, zSC]
  refine wpAnyH_take (i := 2) (v := ?_) rfl (by kernel_rfl) (by kernel_rfl) (by kernel_rfl) (fun _ _ _ h => h) (Or.inl ⟨by rfl, ?_⟩) (by assumption) ?_
  case refine_2 => (intro w hSw; (try dsimp only at hSw); go_simp; try with_reducible rfl)
  simp only [Act.put, zGA, zG0, zGC, zSA, zS0, zSC]
  refine wpAnyH_take (i := 3) (v := ?_) rfl (by kernel_rfl) (by kernel_rfl) (by kernel_rfl) (fun _ _ _ h => h) (Or.inl ⟨by rfl, ?_⟩) (by assumption) ?_
  case refine_2 => (intro w hSw; (try dsimp only at hSw); go_simp; try with_reducible rfl)
  simp only [Act.put, zGA, zG0, zGC, zSA, zS0, zSC]
  refine wpAnyH_take (i := 4) (v := ?_) rfl (by kernel_rfl) (by kernel_rfl) (by kernel_rfl) (fun _ _ _ h => h) (Or.inl ⟨by rfl, ?_⟩) (by assumption) ?_
  case refine_2 => (intro w hSw; (try dsimp only at hSw); go_simp; try with_reducible rfl)
  simp only [Act.put, zGA, zG0, zGC, zSA, zS0, zSC]
  refine wpAnyH_take (i := 5) (v := ?_) rfl (by kernel_rfl) (by kernel_rfl) (by kernel_rfl) (fun _ _ _ h => h) (Or.inl ⟨by rfl, ?_⟩) (by assumption) ?_
  case refine_2 => (intro w hSw; (try dsimp only at hSw); go_simp; try with_reducible rfl)
  simp only [Act.put, zGA, zG0, zGC, zSA, zS0, zSC]
  refine wpAnyH_take (i := 6) (v := ?_) rfl (by kernel_rfl) (by kernel_rfl) (by kernel_rfl) (fun _ _ _ h => h) (Or.inl ⟨by rfl, ?_⟩) (by assumption) ?_
  case refine_2 => (intro w hSw; (try dsimp only at hSw); go_simp; try with_reducible rfl)
  simp only [Act.put, zGA, zG0, zGC, zSA, zS0, zSC]
  refine wpAnyH_take (i := 7) (v := ?_) rfl (by kernel_rfl) (by kernel_rfl) (by kernel_rfl) (fun _ _ _ h => h) (Or.inl ⟨by rfl, ?_⟩) (by assumption) ?_
  case refine_2 => (intro w hSw; (try dsimp only at hSw); go_simp; try with_reducible rfl)
  simp only [Act.put, zGA, zG0, zGC, zSA, zS0, zSC]
  refine wpAnyH_take (i := 8) (v := ?_) rfl (by kernel_rfl) (by kernel_rfl) (by kernel_rfl) (fun _ _ _ h => h) (Or.inl ⟨by rfl, ?_⟩) (by assumption) ?_
  case refine_2 => (intro w hSw; (try dsimp only at hSw); go_simp; try with_reducible rfl)
  simp only [Act.put, zGA, zG0, zGC, zSA, zS0, zSC]
  refine wpAnyH_ready (rs := [9]) (by kernel_rfl) (by simp) ?_
  refine AllReadyH.cons rfl (fun K hK => ?_) AllReadyH.nil
  go_simp
  refine (HC.out _).mono ?_
  rintro e w5 ⟨rfl, hb5⟩
  go_wp2_with fail
  have hS5 := FilS.keep hHeld hb5
  refine hK.out _ _ hS5 (fun hHeld => ?_)
  clear hK K
  refine wpAnyH_take (i := 10) (v := ?_) rfl (by kernel_rfl) (by kernel_rfl) (by kernel_rfl) (fun _ _ _ h => h) (Or.inl ⟨by rfl, ?_⟩) (by assumption) ?_
  case refine_2 => (intro w hSw; (try dsimp only at hSw); go_simp; try with_reducible rfl)
  simp only [Act.put, zGA, zG0, zGC, zSA, zS0, zSC]
  refine wpAnyH_take (i := 11) (v := ?_) rfl (by kernel_rfl) (by kernel_rfl) (by kernel_rfl) (fun _ _ _ h => h) (Or.inl ⟨by rfl, ?_⟩) (by assumption) ?_
  case refine_2 => (intro w hSw; (try dsimp only at hSw); go_simp; try with_reducible rfl)
  simp only [Act.put, zGA, zG0, zGC, zSA, zS0, zSC]
  refine wpAnyH_take (i := 12) (v := ?_) rfl (by kernel_rfl) (by kernel_rfl) (by kernel_rfl) (fun _ _ _ h => h) (Or.inl ⟨by rfl, ?_⟩) (by assumption) ?_
  case refine_2 => (intro w hSw; (try dsimp only at hSw); go_simp; try with_reducible rfl)
  simp only [Act.put, zGA, zG0, zGC, zSA, zS0, zSC]
  refine wpAnyH_take (i := 13) (v := ?_) rfl (by kernel_rfl) (by kernel_rfl) (by kernel_rfl) (fun _ _ _ h => h) (Or.inl ⟨by rfl, ?_⟩) (by assumption) ?_
  case refine_2 => (intro w hSw; (try dsimp only at hSw); go_simp; try with_reducible rfl)
  simp only [Act.put, zGA, zG0, zGC, zSA, zS0, zSC]
  refine wpAnyH_take (i := 14) (v := ?_) rfl (by kernel_rfl) (by kernel_rfl) (by kernel_rfl) (fun _ _ _ h => h) (Or.inl ⟨by rfl, ?_⟩) (by assumption) ?_
  case refine_2 => (intro w hSw; (try dsimp only at hSw); go_simp; try with_reducible rfl)
  simp only [Act.put, zGA, zG0, zGC, zSA, zS0, zSC]
  refine wpAnyH_done (by kernel_rfl) ?_ _
  refine NoPanic.normal ?_
  have hB5 := hS5.2.2
  have R5 := HR1.out.keep hB5
  have I5 := HI1.out.keep hB5
  have hlen := I5.len
  obtain ⟨cur, ty, hg, hsz⟩ := R5.blk
  have hmod : f % 17 < 17 := Nat.mod_lt _ (by omega)
  have T5 : TurnL [(some ⟨b, 0, none⟩, 1)] w w5 := (TurnL.ofGrown (by omega) rfl HG1.out.1).trans (TurnL.ofBelow hB5)
  have out5 : ∀ j, j < o ∨ o + 53 ≤ j → w5.cell? ⟨b, j, none⟩ = w.cell? ⟨b, j, none⟩ := fun j hj => by
    rw [hB5.cell (p := ⟨b, j, none⟩) HR1.out.lt]
    exact HG1.out.2 j hj
  by_cases hsp : f % 17 + i ≤ 17
  · have eA : spanA b o (f % 17) i = .slice (some ⟨b, o + f % 17 * 3, none⟩) i (17 - f % 17) := if_pos hsp
    have eB : spanB b o (f % 17) i = .slice none 0 0 := if_pos hsp
    rw [eA, eB]
    obtain ⟨w6, hr6, hc6⟩ := copy_msgs w5 b (o + f % 17 * 3) i (17 - f % 17) ia i ic its cur ty hg I5 (by omega)
    rw [show Nat.min i i = i from Nat.min_self i] at hr6 hc6
    have R6 := R5.copied hc6 (by omega)
    have HF := hidOf (show FillP b o f P its w w6 by
      refine ⟨R6.ext fun j hj => ?_, ?_, ?_, fun j hj => ?_, T5.trans (TurnL.ofGrown (by omega) rfl hc6.grown)⟩
      · have := layP_no (P := P) (f := f) (its := its) (by rw [hlen]; exact hsp) j hj
        rw [hlen] at this
        exact this
      · rw [hc6.cells, if_neg (by omega)]; exact hS5.1
      · rw [hc6.cells, if_neg (by omega), hlen, hS5.2.1]; exact congrArg (fun z => some (Value.int .i64 z)) (by omega)
      · rw [hc6.cells, if_neg (by omega)]; exact out5 j hj)
    clear hHeld hS5 hB5 R5 I5 R6 hc6 T5 out5 hg
    have htn := fun (u : World) (a : Option Addr) (n c : Nat) => copy_tonil u a n c
    go_wp2
    all_goals (first | go_ret | go_end0)
    all_goals exact ⟨rfl, HF.out⟩
  · have eA : spanA b o (f % 17) i = .slice (some ⟨b, o + f % 17 * 3, none⟩) (17 - f % 17) (17 - f % 17) := if_neg hsp
    have eB : spanB b o (f % 17) i = .slice (some ⟨b, o, none⟩) (f % 17 + i - 17) 17 := if_neg hsp
    rw [eA, eB]
    obtain ⟨w6, hr6, hc6⟩ := copy_msgs w5 b (o + f % 17 * 3) (17 - f % 17) (17 - f % 17) ia i ic its cur ty hg I5 (by omega)
    have hmin : Nat.min i (17 - f % 17) = 17 - f % 17 := Nat.min_eq_right (by omega)
    rw [hmin] at hr6 hc6
    have R6 := R5.copied hc6 (by omega)
    obtain ⟨cur6, hg6, hsz6⟩ := hc6.blk cur ty hg
    rcases I5.row with h0 | ⟨b', off', rfl, hlt', _⟩
    · omega
    have I6 : TmAt w6 (some ⟨b', off', none⟩) i its := I5.turn (TurnL.ofGrown (a := some ⟨b, 0, none⟩) (n := 1) (by omega) rfl hc6.grown) (fun p hp => by
      rw [List.mem_singleton.1 hp]
      exact .inr (.inr fun b1 o1 b2 o2 e1 e2 e3 => by
        cases e1
        cases e2
        exact (hne.resolve_left (by omega)) b' off' rfl e3.symm))
    have I7 := I6.drop (k := 17 - f % 17) (by omega)
    obtain ⟨w7, hr7, hc7⟩ := copy_msgs w6 b o (f % 17 + i - 17) 17 (some ⟨b', off' + (17 - f % 17) * 3, none⟩) (i - (17 - f % 17)) (ic - (17 - f % 17)) (its.drop (17 - f % 17)) cur6 ty hg6 I7 (by omega)
    have hmin2 : Nat.min (i - (17 - f % 17)) (f % 17 + i - 17) = f % 17 + i - 17 := Nat.min_eq_right (by omega)
    rw [hmin2] at hr7 hc7
    have hc7' : CpyP b (o + 0 * 3) (f % 17 + i - 17) (its.drop (17 - f % 17)) w6 w7 := by simpa using hc7
    have R7 := R6.copied hc7' (by simp [hlen]; omega)
    have HF := hidOf (show FillP b o f P its w w7 by
      refine ⟨R7.ext fun j hj => ?_, ?_, ?_, fun j hj => ?_, (T5.trans (TurnL.ofGrown (by omega) rfl hc6.grown)).trans (TurnL.ofGrown (by omega) rfl hc7.grown)⟩
      · have := layP_yes (P := P) (f := f) (its := its) (by rw [hlen]; exact hsp) (by omega) j hj
        rw [hlen] at this
        exact this
      · rw [hc7.cells, if_neg (by omega), hc6.cells, if_neg (by omega)]; exact hS5.1
      · rw [hc7.cells, if_neg (by omega), hc6.cells, if_neg (by omega), hlen, hS5.2.1]; exact congrArg (fun z => some (Value.int .i64 z)) (by omega)
      · rw [hc7.cells, if_neg (by omega), hc6.cells, if_neg (by omega)]; exact out5 j hj)
    have hk0 : (0 : Int) ≤ ((17 - f % 17 : Nat) : Int) := by omega
    have hk1 : ((17 - f % 17 : Nat) : Int) ≤ (i : Int) := by omega
    have hk2 : ¬ ic = 17 - f % 17 := by omega
    have hk3 : ¬ 17 - f % 17 = ic := by omega
    clear hHeld hS5 hB5 R5 I5 R6 hc6 T5 out5 hg R7 hc7 hc7' I6 I7 hg6 eA eB hmin hmin2
    obtain ⟨m, hm⟩ : ∃ m, 17 - f % 17 = m := ⟨_, rfl⟩
    rw [hm] at hr6 hr7 hk0 hk1 hk2 hk3 ⊢
    clear hm
    go_wp2
    all_goals (first | go_ret | go_end0)
    all_goals exact ⟨rfl, HF.out⟩
end Go.Proofs.YtffpecdjfcgadaaGreatDoor
