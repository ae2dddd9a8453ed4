/-
  The program's body of a ring.
-/
import Derived.Test.YtffpecdjfcgadaaGreatDoorZTm29
import Derived.Test.YtffpecdjfcgadaaGreatDoorZTm17
namespace Go.Proofs.YtffpecdjfcgadaaGreatDoor
open Go.RowKit Go.Maps Pl Il

def noP : Nat → Tm := fun _ => (0, 0, noT)
theorem TurnB.grown {b : Nat} {w w' : World} (h : TurnB b w w') : w.grownBy w' (some b) := ⟨h.os, h.tape, h.output, h.size, fun k hk hne => h.block k hk fun p hp _ off e => by
  rw [List.mem_singleton.1 hp] at e
  injection e with e
  injection e with e1 _ _
  exact hne (by rw [e1])⟩
theorem rowTurn {B b : Nat} {w w' : World} {t : TypeId} {s : Nat} {v : Value} {n : Nat} {xs : List Value} (h : w.ownsRow B t s v n xs) (ht : TurnB b w w') (hne : v.ownBlock ≠ some b) : w'.ownsRow B t s v n xs := rowG h ht.grown (fun q e => by injection e with e; rw [← e]; exact hne)
theorem lay_short {f : Nat} {its : List Tm} (h : ∀ p, p ∈ its → p.2.2.size ≤ maxLen) (j : Nat) : (layP noP f its j).2.2.size ≤ maxLen := by
  unfold layP
  split
  · exact h _ (qg_mem (by assumption))
  · exact Nat.zero_le _
/-- A ring's body in memory. -/
structure RBody (B b : Nat) (A : Na) (P : Nat → Tm) (f : Nat) (v : Rv) (sa : Option Addr) (s sc : Nat) (ys : List Sa) (w : World) : Prop where
  wst : WSt B b A v.ln v.gs w
  rnd : RndB b 3 P w
  c2 : w.cell? ⟨b, 2, none⟩ = some (.int .i64 v.cp)
  fst : w.cell? ⟨b, 3 + 51, none⟩ = some (.int .i64 (f : Int))
  nxt : w.cell? ⟨b, 3 + 52, none⟩ = some (.int .i64 ((f + v.it.length : Nat) : Int))
  c56 : w.cell? ⟨b, 56, none⟩ = some (.int .i64 v.nx)
  c57 : w.cell? ⟨b, 57, none⟩ = some (.slice sa s sc)
  c58 : w.cell? ⟨b, 58, none⟩ = some (.bool v.cl)
  srow : SRow B w sa s sc ys
  sv : svs ys = v.sb
  its : itemsP P f v.it.length = v.it
  sh : ∀ j, (P j).2.2.size ≤ maxLen
  se : v.se = ((f + v.it.length : Nat) : Int)
  few : v.it.length ≤ 17 ∧ f + v.it.length ≤ 2000000000
  nb : (Value.slice sa s sc).ownBlock ≠ some b ∧ ∀ x, x ∈ ys → (Value.slice x.a x.n x.c).ownBlock ≠ some b
  ap : ∀ q, ((Value.slice A.a A.n A.c).ownBlock = some q ∨ (Value.slice A.a' A.n' A.c').ownBlock = some q) → (Value.slice sa s sc).ownBlock ≠ some q ∧ ∀ x, x ∈ ys → (Value.slice x.a x.n x.c).ownBlock ≠ some q
/-- A body was made. -/
def BodyP (w : World) (M : Rm) (v : Rv) (e : Ending) (w' : World) : Prop := ∃ (b : Nat) (A : Na) (P : Nat → Tm) (f : Nat) (sa : Option Addr) (sc : Nat) (ys : List Sa), e = .returned (.pointer (some ⟨b, 0, none⟩)) ∧ RBody w.heap.size b A P f v sa M.s sc ys w' ∧ A.n = M.l ∧ A.n' = M.g ∧ (∀ y, y ∈ ys → ∃ x, x ∈ M.xs ∧ y.n = x.n) ∧ Below w.heap.size w w'
set_option maxRecDepth 100000 in
set_option maxHeartbeats 8000000 in
theorem ringBodyOf_any (M : Rm) (v : Rv) (w : World) (f : Nat) (hI : RIn w M v) (hm : RLe M 2097152) (hc : RCap M) (hse : v.se = ((f + v.it.length : Nat) : Int)) (hi : v.it.length ≤ 16) (hf : f + v.it.length ≤ 1000000000) :
    Calls Tryz.prog 64 #[.agg #[.int .i64 v.cp, .int .i64 v.se, .slice M.ia M.i M.ic, .int .i64 v.nx, .slice M.sa M.s M.sc, .slice M.la M.l M.lc, .slice M.ga M.g M.gc, .bool v.cl]] w fun e w' => BodyP w M v e w' := by
  obtain ⟨W0, hW0⟩ : ∃ W, W = w.alloc (.cells #[.int .i64 v.cp, .int .i64 v.se, .slice M.ia M.i M.ic, .int .i64 v.nx, .slice M.sa M.s M.sc, .slice M.la M.l M.lc, .slice M.ga M.g M.gc, .bool v.cl] 53) := ⟨_, rfl⟩
  have hX : RHold w M v W0 := by
    have b0 : Below w.heap.size w W0 := by rw [hW0]; exact bl_alloc (Below.refl _ _) _
    exact ⟨by rw [hW0]; exact BoxL.new w (rC M v) _, hI.keep b0, b0⟩
  have HC1 := hidOf (fun (u : World) (hu : RHold w M v u) => newWaiters_any M.la M.l M.lc v.ln M.ga M.g M.gc v.gs u hu.rin.ln hu.rin.gs hm.l hm.g)
  have HC2 := hidOf (fun (u : World) (hu : RHold w M v u) => copiedSubs_any M.sa M.s M.sc M.xs u hu.rin.sb hm.s hm.f)
  have HX := hidOf hX
  have hH := hX.cel
  have HSe := hidOf hse
  have HIi := hidOf hi
  have HFf := hidOf hf
  have HCap := hidOf hc
  have HI := hidOf hI
  clear hX hI hse hi hf hc hm
  go_enter Tryz.func64, Tryz.ntmps64
  go_upto_region 1 with fail
  rw [← hW0]
  clear hW0
  refine wp_region_noPanic ?_
  refine wp_region_held_drew (S := fun w' => RCel w M v w') (by kernel_rfl) hH.drew (fun hHeld => ?_)
  refine wpAnyH_take (i := 0) (v := ?_) rfl (by kernel_rfl) (by kernel_rfl) (by kernel_rfl) (fun _ _ _ h => h) (Or.inl ⟨by rfl, ?_⟩) (by assumption) ?_
  case refine_2 => (intro w hSw; (try dsimp only at hSw); go_simp; try with_reducible rfl)
  simp only [Act.put, List.getElem_toArray, List.getElem_cons_zero, List.setIfInBounds_toArray, List.set_cons_zero, List.set_cons_succ]
  refine wpAnyH_take (i := 1) (v := ?_) rfl (by kernel_rfl) (by kernel_rfl) (by kernel_rfl) (fun _ _ _ h => h) (Or.inl ⟨by rfl, ?_⟩) (by assumption) ?_
  case refine_2 => (intro w hSw; (try dsimp only at hSw); go_simp; try with_reducible rfl)
  simp only [Act.put, zGA, zG0, zGC, zSA, zS0, zSC]
  refine wpAnyH_take (i := 2) (v := ?_) rfl (by kernel_rfl) (by kernel_rfl) (by kernel_rfl) (fun _ _ _ h => h) (Or.inl ⟨by rfl, ?_⟩) (by assumption) ?_
  case refine_2 => (intro w hSw; (try dsimp only at hSw); go_simp; try with_reducible rfl)
  simp only [Act.put, zGA, zG0, zGC, zSA, zS0, zSC]
  refine wpAnyH_take (i := 3) (v := ?_) rfl (by kernel_rfl) (by kernel_rfl) (by kernel_rfl) (fun _ _ _ h => h) (Or.inl ⟨by rfl, ?_⟩) (by assumption) ?_
  case refine_2 => (intro w hSw; (try dsimp only at hSw); go_simp; try with_reducible rfl)
  simp only [Act.put, zGA, zG0, zGC, zSA, zS0, zSC]
  refine wpAnyH_take (i := 5) (v := ?_) rfl (by kernel_rfl) (by kernel_rfl) (by kernel_rfl) (fun _ _ _ h => h) (Or.inl ⟨by rfl, ?_⟩) (by assumption) ?_
  case refine_2 => (intro w hSw; (try dsimp only at hSw); go_simp; try with_reducible rfl)
  simp only [Act.put, zGA, zG0, zGC, zSA, zS0, zSC]
  refine wpAnyH_take (i := 6) (v := ?_) rfl (by kernel_rfl) (by kernel_rfl) (by kernel_rfl) (fun _ _ _ h => h) (Or.inl ⟨by rfl, ?_⟩) (by assumption) ?_
  case refine_2 => (intro w hSw; (try dsimp only at hSw); go_simp; try with_reducible rfl)
  simp only [Act.put, zGA, zG0, zGC, zSA, zS0, zSC]
  refine wpAnyH_take (i := 7) (v := ?_) rfl (by kernel_rfl) (by kernel_rfl) (by kernel_rfl) (fun _ _ _ h => h) (Or.inl ⟨by rfl, ?_⟩) (by assumption) ?_
  case refine_2 => (intro w hSw; (try dsimp only at hSw); go_simp; try with_reducible rfl)
  simp only [Act.put, zGA, zG0, zGC, zSA, zS0, zSC]
  refine wpAnyH_take (i := 8) (v := ?_) rfl (by kernel_rfl) (by kernel_rfl) (by kernel_rfl) (fun _ _ _ h => h) (Or.inl ⟨by rfl, ?_⟩) (by assumption) ?_
  case refine_2 => (intro w hSw; (try dsimp only at hSw); go_simp; try with_reducible rfl)
  simp only [Act.put, zGA, zG0, zGC, zSA, zS0, zSC]
  refine wpAnyH_take (i := 9) (v := ?_) rfl (by kernel_rfl) (by kernel_rfl) (by kernel_rfl) (fun _ _ _ h => h) (Or.inl ⟨by rfl, ?_⟩) (by assumption) ?_
  case refine_2 => (intro w hSw; (try dsimp only at hSw); go_simp; try with_reducible rfl)
  simp only [Act.put, zGA, zG0, zGC, zSA, zS0, zSC]
  refine wpAnyH_take (i := 10) (v := ?_) rfl (by kernel_rfl) (by kernel_rfl) (by kernel_rfl) (fun _ _ _ h => h) (Or.inl ⟨by rfl, ?_⟩) (by assumption) ?_
  case refine_2 => (intro w hSw; (try dsimp only at hSw); go_simp; try with_reducible rfl)
  simp only [Act.put, zGA, zG0, zGC, zSA, zS0, zSC]
  refine wpAnyH_take (i := 12) (v := ?_) rfl (by kernel_rfl) (by kernel_rfl) (by kernel_rfl) (fun _ _ _ h => h) (Or.inl ⟨by rfl, ?_⟩) (by assumption) ?_
  case refine_2 => (intro w hSw; (try dsimp only at hSw); go_simp; try with_reducible rfl)
  simp only [Act.put, zGA, zG0, zGC, zSA, zS0, zSC]
  refine wpAnyH_take (i := 13) (v := ?_) rfl (by kernel_rfl) (by kernel_rfl) (by kernel_rfl) (fun _ _ _ h => h) (Or.inl ⟨by rfl, ?_⟩) (by assumption) ?_
  case refine_2 => (intro w hSw; (try dsimp only at hSw); go_simp; try with_reducible rfl)
  simp only [Act.put, zGA, zG0, zGC, zSA, zS0, zSC]
  refine wpAnyH_ready (rs := [4]) (by kernel_rfl) (by simp) ?_
  refine AllReadyH.cons rfl (fun K hK => ?_) AllReadyH.nil
  go_simp
  refine (HC1.out _ (RCel.hold hHeld)).mono ?_
  rintro e w5 ⟨a1, c1, a2, c2, rfl, rows5, hb5⟩
  go_wp2_with fail
  have hS5 := RCel.keep hHeld hb5
  have hd0 := RCel.hold hHeld
  refine hK.out _ _ hS5 (fun hHeld => ?_)
  clear hK K
  refine wpAnyH_ready (rs := [11]) (by kernel_rfl) (by simp) ?_
  refine AllReadyH.cons rfl (fun K hK => ?_) AllReadyH.nil
  go_simp
  refine (HC2.out _ (RCel.hold hHeld)).mono ?_
  rintro e w6 ⟨a3, c3, ys, rfl, srow6, hsv, hyn, hb6⟩
  go_wp2_with fail
  have hS6 := RCel.keep hHeld hb6
  refine hK.out _ _ hS6 (fun hHeld => ?_)
  clear hK K
  refine wpAnyH_take (i := 14) (v := ?_) rfl (by kernel_rfl) (by kernel_rfl) (by kernel_rfl) (fun _ _ _ h => h) (Or.inl ⟨by rfl, ?_⟩) (by assumption) ?_
  case refine_2 => (intro w hSw; (try dsimp only at hSw); go_simp; try with_reducible rfl)
  simp only [Act.put, zGA, zG0, zGC, zSA, zS0, zSC]
  refine wpAnyH_ready (rs := [15]) (by kernel_rfl) (by simp) ?_
  refine AllReadyH.cons rfl (fun K hK => ?_) AllReadyH.nil
  go_simp
  obtain ⟨U1, hU1⟩ : ∃ U, w6.alloc (.cells #[.slice a1 M.l c1, .slice a2 M.g c2, .int .i64 v.cp, .int .i64 0, .int .i64 0, .string ⟨#[]⟩, .int .i64 0, .int .i64 0, .string ⟨#[]⟩, .int .i64 0, .int .i64 0, .string ⟨#[]⟩, .int .i64 0, .int .i64 0, .string ⟨#[]⟩, .int .i64 0, .int .i64 0, .string ⟨#[]⟩, .int .i64 0, .int .i64 0, .string ⟨#[]⟩, .int .i64 0, .int .i64 0, .string ⟨#[]⟩, .int .i64 0, .int .i64 0, .string ⟨#[]⟩, .int .i64 0, .int .i64 0, .string ⟨#[]⟩, .int .i64 0, .int .i64 0, .string ⟨#[]⟩, .int .i64 0, .int .i64 0, .string ⟨#[]⟩, .int .i64 0, .int .i64 0, .string ⟨#[]⟩, .int .i64 0, .int .i64 0, .string ⟨#[]⟩, .int .i64 0, .int .i64 0, .string ⟨#[]⟩, .int .i64 0, .int .i64 0, .string ⟨#[]⟩, .int .i64 0, .int .i64 0, .string ⟨#[]⟩, .int .i64 0, .int .i64 0, .string ⟨#[]⟩, .int .i64 0, .int .i64 0, .int .i64 v.nx, .slice a3 M.s c3, .bool v.cl] 113) = U := ⟨_, rfl⟩
  rw [hU1]
  have ba : Below w6.heap.size w6 U1 := by rw [← hU1]; exact bl_alloc (Below.refl _ _) _
  have hS7 := RCel.keep hS6 ba
  refine hK.out _ _ hS7 (fun hHeld => ?_)
  clear hK K
  refine wpAnyH_take (i := 16) (v := ?_) rfl (by kernel_rfl) (by kernel_rfl) (by kernel_rfl) (fun _ _ _ h => h) (Or.inl ⟨by rfl, ?_⟩) (by assumption) ?_
  case refine_2 => (intro w hSw; (try dsimp only at hSw); go_simp; try with_reducible rfl)
  simp only [Act.put, zGA, zG0, zGC, zSA, zS0, zSC]
  refine wpAnyH_done (by kernel_rfl) ?_ _
  refine NoPanic.normal ?_
  have X1 : BoxL w6.heap.size [.slice a1 M.l c1, .slice a2 M.g c2, .int .i64 v.cp, .int .i64 0, .int .i64 0, .string ⟨#[]⟩, .int .i64 0, .int .i64 0, .string ⟨#[]⟩, .int .i64 0, .int .i64 0, .string ⟨#[]⟩, .int .i64 0, .int .i64 0, .string ⟨#[]⟩, .int .i64 0, .int .i64 0, .string ⟨#[]⟩, .int .i64 0, .int .i64 0, .string ⟨#[]⟩, .int .i64 0, .int .i64 0, .string ⟨#[]⟩, .int .i64 0, .int .i64 0, .string ⟨#[]⟩, .int .i64 0, .int .i64 0, .string ⟨#[]⟩, .int .i64 0, .int .i64 0, .string ⟨#[]⟩, .int .i64 0, .int .i64 0, .string ⟨#[]⟩, .int .i64 0, .int .i64 0, .string ⟨#[]⟩, .int .i64 0, .int .i64 0, .string ⟨#[]⟩, .int .i64 0, .int .i64 0, .string ⟨#[]⟩, .int .i64 0, .int .i64 0, .string ⟨#[]⟩, .int .i64 0, .int .i64 0, .string ⟨#[]⟩, .int .i64 0, .int .i64 0, .string ⟨#[]⟩, .int .i64 0, .int .i64 0, .int .i64 v.nx, .slice a3 M.s c3, .bool v.cl] U1 := by rw [← hU1]; exact BoxL.new w6 _ _
  have hg1 : U1.heap[w6.heap.size]? = some (.cells #[.slice a1 M.l c1, .slice a2 M.g c2, .int .i64 v.cp, .int .i64 0, .int .i64 0, .string ⟨#[]⟩, .int .i64 0, .int .i64 0, .string ⟨#[]⟩, .int .i64 0, .int .i64 0, .string ⟨#[]⟩, .int .i64 0, .int .i64 0, .string ⟨#[]⟩, .int .i64 0, .int .i64 0, .string ⟨#[]⟩, .int .i64 0, .int .i64 0, .string ⟨#[]⟩, .int .i64 0, .int .i64 0, .string ⟨#[]⟩, .int .i64 0, .int .i64 0, .string ⟨#[]⟩, .int .i64 0, .int .i64 0, .string ⟨#[]⟩, .int .i64 0, .int .i64 0, .string ⟨#[]⟩, .int .i64 0, .int .i64 0, .string ⟨#[]⟩, .int .i64 0, .int .i64 0, .string ⟨#[]⟩, .int .i64 0, .int .i64 0, .string ⟨#[]⟩, .int .i64 0, .int .i64 0, .string ⟨#[]⟩, .int .i64 0, .int .i64 0, .string ⟨#[]⟩, .int .i64 0, .int .i64 0, .string ⟨#[]⟩, .int .i64 0, .int .i64 0, .string ⟨#[]⟩, .int .i64 0, .int .i64 0, .int .i64 v.nx, .slice a3 M.s c3, .bool v.cl] 113 (0, 0)) := by rw [← hU1]; exact heap_alloc_new w6 _
  have rnd1 : RndB w6.heap.size 3 noP U1 := by
    refine ⟨⟨_, _, hg1, by simp⟩, fun j hj => ?_⟩
    rcases (show j = 0 ∨ j = 1 ∨ j = 2 ∨ j = 3 ∨ j = 4 ∨ j = 5 ∨ j = 6 ∨ j = 7 ∨ j = 8 ∨ j = 9 ∨ j = 10 ∨ j = 11 ∨ j = 12 ∨ j = 13 ∨ j = 14 ∨ j = 15 ∨ j = 16 by omega) with rfl | rfl | rfl | rfl | rfl | rfl | rfl | rfl | rfl | rfl | rfl | rfl | rfl | rfl | rfl | rfl | rfl
    all_goals exact ⟨X1.cs _ (by simp), X1.cs _ (by simp), X1.cs _ (by simp)⟩
  have d0 := X1.cs 0 (by simp)
  have d1 := X1.cs 1 (by simp)
  have d2 := X1.cs 2 (by simp)
  have d56 := X1.cs 56 (by simp)
  have d57 := X1.cs 57 (by simp)
  have d58 := X1.cs 58 (by simp)
  simp at d0 d1 d2 d56 d57 d58
  have sD : w.heap.size ≤ W0.heap.size := HX.out.below.size
  have z5 : W0.heap.size ≤ w5.heap.size := hb5.size
  have z6 : w5.heap.size ≤ w6.heap.size := hb6.size
  have rows1 : Rows2 w.heap.size U1 ⟨a1, M.l, c1, a2, M.g, c2⟩ v.ln v.gs := ((rows5.keep hb6).keep ba).mono sD
  have lt5 : (∀ q, (Value.slice a1 M.l c1).ownBlock = some q → q < w5.heap.size) ∧ ∀ q, (Value.slice a2 M.g c2).ownBlock = some q → q < w5.heap.size := ⟨fun q e => (row_lt rows5.one e).2, fun q e => (row_lt rows5.two e).2⟩
  have srow1 := srow6.keep ba
  have blk6 := srow6.blk
  have hW1 : WSt w.heap.size w6.heap.size ⟨a1, M.l, c1, a2, M.g, c2⟩ v.ln v.gs U1 := ⟨X1.lt, by omega, d0, d1, X1.fr, rows1, fun e => by have := lt5.1 _ e; omega, fun e => by have := lt5.2 _ e; omega⟩
  have HD := hidOf (And.intro hW1 (And.intro d2 (And.intro d56 (And.intro d57 d58))))
  have HSr := hidOf srow1
  have HRn := hidOf rnd1
  have HBk := hidOf (And.intro lt5 blk6)
  have hH2 : RCel w M v U1 := hS7
  have zU : w6.heap.size < U1.heap.size := X1.lt
  have HCf := hidOf (fun (u : World) (hu : Below U1.heap.size U1 u) (hr : RHold w M v u) => fill_any w6.heap.size 3 f M.i M.ic M.ia noP v.it u (rnd1.keep hu) hr.rin.it (by have := HIi.out; have := hr.rin.it.len; omega) (by have := HFf.out; have := hr.rin.it.len; omega) HCap.out.1 (by
    rcases HI.out.it.lt with h | h
    · exact .inl h
    · exact .inr fun b' off' e => by have := h b' off' e; omega))
  have hseM : ((f + M.i : Nat) : Int) = v.se := by have := HSe.out; have := HI.out.it.len; omega
  rw [hseM] at HCf
  clear hU1 ba hS6 hS5 hHeld X1 hg1 rnd1 d0 d1 d2 d56 d57 d58 rows1 rows5 srow1 srow6 hW1 lt5 blk6 hd0 hb5 hb6
  go_upto_region 2 with fail
  refine wp_region_noPanic ?_
  refine wp_region_held_drew (S := fun w' => RCel w M v w') (by kernel_rfl) hH2.drew (fun hHeld => ?_)
  refine wpAnyH_take (i := 0) (v := ?_) rfl (by kernel_rfl) (by kernel_rfl) (by kernel_rfl) (fun _ _ _ h => h) (Or.inl ⟨by rfl, ?_⟩) (by assumption) ?_
  case refine_2 => (intro w hSw; (try dsimp only at hSw); go_simp; try with_reducible rfl)
  simp only [Act.put, List.getElem_toArray, List.getElem_cons_zero, List.setIfInBounds_toArray, List.set_cons_zero, List.set_cons_succ]
  refine wpAnyH_take (i := 1) (v := ?_) rfl (by kernel_rfl) (by kernel_rfl) (by kernel_rfl) (fun _ _ _ h => h) (Or.inl ⟨by rfl, ?_⟩) (by assumption) ?_
  case refine_2 => (intro w hSw; (try dsimp only at hSw); go_simp; try with_reducible rfl)
  simp only [Act.put, zGA, zG0, zGC, zSA, zS0, zSC]
  refine wpAnyH_take (i := 2) (v := ?_) rfl (by kernel_rfl) (by kernel_rfl) (by kernel_rfl) (fun _ _ _ h => h) (Or.inl ⟨by rfl, ?_⟩) (by assumption) ?_
  case refine_2 => (intro w hSw; (try dsimp only at hSw); go_simp; try with_reducible rfl)
  simp only [Act.put, zGA, zG0, zGC, zSA, zS0, zSC]
  refine wpAnyH_take (i := 3) (v := ?_) rfl (by kernel_rfl) (by kernel_rfl) (by kernel_rfl) (fun _ _ _ h => h) (Or.inl ⟨by rfl, ?_⟩) (by assumption) ?_
  case refine_2 => (intro w hSw; (try dsimp only at hSw); go_simp; try with_reducible rfl)
  simp only [Act.put, zGA, zG0, zGC, zSA, zS0, zSC]
  refine wpAnyH_take (i := 4) (v := ?_) rfl (by kernel_rfl) (by kernel_rfl) (by kernel_rfl) (fun _ _ _ h => h) (Or.inl ⟨by rfl, ?_⟩) (by assumption) ?_
  case refine_2 => (intro w hSw; (try dsimp only at hSw); go_simp; try with_reducible rfl)
  simp only [Act.put, zGA, zG0, zGC, zSA, zS0, zSC]
  refine wpAnyH_take (i := 5) (v := ?_) rfl (by kernel_rfl) (by kernel_rfl) (by kernel_rfl) (fun _ _ _ h => h) (Or.inl ⟨by rfl, ?_⟩) (by assumption) ?_
  case refine_2 => (intro w hSw; (try dsimp only at hSw); go_simp; try with_reducible rfl)
  simp only [Act.put, zGA, zG0, zGC, zSA, zS0, zSC]
  refine wpAnyH_take (i := 6) (v := ?_) rfl (by kernel_rfl) (by kernel_rfl) (by kernel_rfl) (fun _ _ _ h => h) (Or.inl ⟨by rfl, ?_⟩) (by assumption) ?_
  case refine_2 => (intro w hSw; (try dsimp only at hSw); go_simp; try with_reducible rfl)
  simp only [Act.put, zGA, zG0, zGC, zSA, zS0, zSC]
  refine wpAnyH_ready (rs := [7]) (by kernel_rfl) (by simp) ?_
  refine AllReadyH.cons rfl (fun K hK => ?_) AllReadyH.nil
  go_simp
  refine (HCf.out _ (Below.refl _ _).drew (RCel.hold hHeld)).mono ?_
  rintro e w7 ⟨rfl, hF⟩
  go_wp2_with fail
  have bd : Below U1.heap.size U1 U1.drew := (Below.refl _ _).drew
  have t7 : TurnL [(some ⟨w6.heap.size, 0, none⟩, 1)] U1 w7 := (TurnL.ofBelow bd).trans hF.turn
  have b7 : Below w6.heap.size U1 w7 := t7.below (by omega) (fun p hp => by rw [List.mem_singleton.1 hp]; exact .inr fun b off e => by cases e; exact Nat.le_refl _)
  have hold1 := RCel.hold hH2
  have b7w : Below w.heap.size w w7 := bl_trans2 hold1.below b7 (by omega)
  have hN6 : w.heap.size < w6.heap.size := by have := HX.out.box.lt; omega
  have hold7 : RHold w M v w7 := ⟨hold1.box.below b7 hN6, HI.out.keep b7w, b7w⟩
  refine hK.out _ _ hold7.cel (fun hHeld => ?_)
  clear hK K
  refine wpAnyH_done (by kernel_rfl) ?_ _
  refine NoPanic.normal ?_
  have hD := HD.out
  have hbk := HBk.out
  have cU : ∀ p, U1.drew.cell? ⟨w6.heap.size, p, none⟩ = U1.cell? ⟨w6.heap.size, p, none⟩ := fun p => bd.cell (p := ⟨w6.heap.size, p, none⟩) zU
  have hlen := HI.out.it.len
  have HRB := hidOf (show RBody w.heap.size w6.heap.size ⟨a1, M.l, c1, a2, M.g, c2⟩ (layP noP f v.it) f v a3 M.s c3 ys w7 from
    { wst := ⟨hF.rnd.lt, by omega, by rw [hF.out 0 (by omega), cU]; exact hD.1.c0, by rw [hF.out 1 (by omega), cU]; exact hD.1.c1, hF.rnd.fr, ⟨rowTurn hD.1.rows.one t7 hD.1.ne1, rowTurn hD.1.rows.two t7 hD.1.ne2, hD.1.rows.ne⟩, hD.1.ne1, hD.1.ne2⟩
      rnd := hF.rnd
      c2 := by rw [hF.out 2 (by omega), cU]; exact hD.2.1
      fst := hF.fst
      nxt := hF.nxt
      c56 := by rw [hF.out 56 (by omega), cU]; exact hD.2.2.1
      c57 := by rw [hF.out 57 (by omega), cU]; exact hD.2.2.2.1
      c58 := by rw [hF.out 58 (by omega), cU]; exact hD.2.2.2.2
      srow := ⟨rowM (rowTurn HSr.out.sb t7 (fun e => by have := (hbk.2.1 _ e).2; omega)) (by omega), fun x hx => rowM (rowTurn (HSr.out.fl x hx) t7 (fun e => by have := (hbk.2.2 x hx _ e).2; omega)) (by omega), HSr.out.fls, HSr.out.apt⟩
      sv := hsv.trans HI.out.sv
      its := itemsP_lay (by have := HIi.out; omega)
      sh := lay_short HI.out.it.short
      se := HSe.out
      few := ⟨by have := HIi.out; omega, by have := HFf.out; omega⟩
      nb := ⟨fun e => by have := (hbk.2.1 _ e).2; omega, fun x hx e => by have := (hbk.2.2 x hx _ e).2; omega⟩
      ap := fun q hq => by
        have hql : q < w5.heap.size := hq.elim (hbk.1.1 q) (hbk.1.2 q)
        exact ⟨fun e => by have := (hbk.2.1 _ e).1; omega, fun x hx e => by have := (hbk.2.2 x hx _ e).1; omega⟩ })
  have HB7 := hidOf b7w
  clear hF hold7 hold1 t7 b7 b7w bd cU hHeld hH2
  go_wp2
  go_ret
  exact ⟨_, _, _, f, _, _, ys, rfl, HRB.out, rfl, rfl, hyn, HB7.out⟩
end Go.Proofs.YtffpecdjfcgadaaGreatDoor
