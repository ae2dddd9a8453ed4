/-
  The program's notifications: a grant is dropped; its telling is passed
-/
import Derived.Test.YtfgknbflgmblmaaZPq4
import Derived.Test.YtfgknbflgmblmaaZPq10
import Derived.FnLit
namespace Go.Proofs.Ytfgknbflgmblmaa
open Go.RowKit Go.Maps Pl Il
/-- A row of grants is stored. -/
theorem NSt.toldR {B N : Nat} {A : Na} {x : Nt} {w : World} {a : Option Addr} {n c : Nat} {xs : List (Int × Bool)} (h : NSt B N A x w) (hr : w.ownsRow B 44 2 (.slice a n c) n (gflat xs)) (h1 : (Value.slice a n c).ownBlock ≠ some N) (h2 : A.n = 0 ∨ ∀ b off, A.a = some ⟨b, off, none⟩ → (Value.slice a n c).ownBlock ≠ some b) :
    NSt B N { A with a' := a, n' := n, c' := c } { x with gs := xs } (w.setCell ⟨N, 2, none⟩ (.slice a n c)) :=
  ⟨h.box.set2.lists x.ln xs, h.ge, h.one.of_block (by simp) (h.ne1.imp id fun l b off e => Below.heap_setCell w ⟨N, 2, none⟩ _ b (l b off e)), h.cap, own_set hr N 2 h1 _, h.ne1, h1, h2⟩
theorem NSt.lt1 {B N : Nat} {A : Na} {x : Nt} {w : World} (h : NSt B N A x w) : A.n = 0 ∨ ∀ b off, A.a = some ⟨b, off, none⟩ → b < w.heap.size := by
  rcases h.one.ints.row with h0 | ⟨b, off, e, hlt, _⟩
  · exact .inl h0
  · exact .inr fun b1 o1 e1 => by rw [e] at e1; cases e1; exact hlt
theorem NSt.farC {B N : Nat} {A : Na} {x : Nt} {w : World} (h : NSt B N A x w) (M o : Nat) (v : Value) (h0 : N ≠ M) (h1 : A.n = 0 ∨ ∀ b off, A.a = some ⟨b, off, none⟩ → b ≠ M) (h2 : (Value.slice A.a' A.n' A.c').ownBlock ≠ some M) : NSt B N A x (w.setCell ⟨M, o, none⟩ v) :=
  ⟨h.box.far M o h0 v, h.ge, h.one.of_block (by simp) (h1.imp id fun l b off e => Below.heap_setCell w ⟨M, o, none⟩ _ b (l b off e)), h.cap, own_set h.two M o h2 v, h.ne1, h.ne2, h.apart⟩
/-- The variables n, g and told of a dropping. -/
structure DropV (B N : Nat) (t : Value) (A : Na) (x : Nt) (s : Nat) (w : World) : Prop where
  st : NSt B N A x w
  n0 : w.cell? ⟨s, 0, none⟩ = some (.pointer (some ⟨N, 0, none⟩))
  t0 : w.cell? ⟨s + 1 + 1, 0, none⟩ = some t
  tf : w.frozen? ⟨s + 1 + 1, 0, none⟩ = false
  hN : N < s
  lt : s + 1 + 1 < w.heap.size
  own : ∀ q, (Value.slice A.a' A.n' A.c').ownBlock = some q → q < s ∨ s + 1 + 1 < q
  ln : A.n = 0 ∨ ∀ b off, A.a = some ⟨b, off, none⟩ → b < s
theorem DropV.tell {B N : Nat} {t : Value} {A : Na} {x : Nt} {s : Nat} {w : World} (h : DropV B N t A x s w) (v : Value) : DropV B N v A x s (w.setCell ⟨s + 1 + 1, 0, none⟩ v) :=
  have hN := h.hN
  ⟨h.st.farC (s + 1 + 1) 0 v (by omega) (h.ln.imp id fun l b off e => by have := l b off e; omega) (fun e => by rcases h.own _ e with h | h <;> omega), by rw [World.cell?_setCell_other _ _ _ _ (by simp)]; exact h.n0, World.cell?_setCell_same _ _ _ h.t0, by simpa using h.tf, h.hN, by simpa using h.lt, h.own, h.ln⟩
theorem drop1_any (B N : Nat) (A : Na) (x : Nt) (t : Value) (s : Nat) (u : FrameMode) (w : World) (hV : DropV B N t A x s w) (hB : B ≤ s) (hn : A.n ≤ 2097152) (hn' : A.n' ≤ 2097152) (hl : lineL x.ln = true) (hw : wfL x.ln) (hsp : 0 ≤ x.sp ∧ x.sp ≤ 1000000000) :
    CallsD Try.prog 82 #[.pointer (some ⟨s, 0, none⟩), .pointer (some ⟨s + 1 + 1, 0, none⟩)] u w fun e u' w' => u' = u ∧ (∃ A', e = .returned (.tuple #[]) ∧ NSt B N A' (oneM x).1 w' ∧ w'.cell? ⟨s + 1 + 1, 0, none⟩ = some (.int .i64 (oneM x).2) ∧ Below B w w') := by
  obtain ⟨hS, n0, t0, tf, hN, hlt, hown, _⟩ := hV
  go_enter_d Try.func82, Try.ntmps82
  go_wp2_with fail
  refine (placeTelling_fr B N A x w hS hn hn' hl hw hsp).mono ?_
  rintro e w1 ⟨A', rfl, hS1, hb1, hO⟩
  have hne : s + 1 + 1 ≠ N := by omega
  have hq : (Value.slice A.a' A.n' A.c').ownBlock ≠ some (s + 1 + 1) := fun e => by rcases hown _ e with h | h <;> omega
  have key := hO.blk (s + 1 + 1) hlt hne hq
  have t1 : w1.cell? ⟨s + 1 + 1, 0, none⟩ = some t := by rw [← t0]; exact World.cell?_of_block key
  have f1 : w1.frozen? ⟨s + 1 + 1, 0, none⟩ = false := by rw [← tf]; exact World.frozen?_of_block key
  have hS2 := hS1.farC (s + 1 + 1) 0 (.int .i64 (oneM x).2) (fun e => hne e.symm) (hO.line.imp id fun l b off e => by have := l b off e; omega) (fun e => (hO.row _ e).elim (fun h => hq h) (fun h => by omega))
  have hc : (w1.setCell ⟨s + 1 + 1, 0, none⟩ (.int .i64 (oneM x).2)).cell? ⟨s + 1 + 1, 0, none⟩ = some (.int .i64 (oneM x).2) := World.cell?_setCell_same _ _ _ t1
  have HF := hidOf (And.intro hS2 (And.intro hc (bl_set1' hb1 (s + 1 + 1) 0 (by omega) (.int .i64 (oneM x).2))))
  clear hS hS1 hS2 hc hb1 hO key
  go_wp2
  go_end0
  exact ⟨A', rfl, HF.out⟩
theorem ownG_len {B : Nat} {w : World} {a : Option Addr} {m c : Nat} {l : List (Int × Bool)} (h : w.ownsRow B 44 2 (.slice a m c) m (gflat l)) : l.length = m := by
  obtain ⟨a', c', e, _, ho⟩ := ownG_of h l rfl
  exact ho.gr.len
/-- Behind the call that makes the list without the grant. -/
theorem drop_mid {B N : Nat} {A : Na} {x : Nt} {w W w9 : World} {a9 : Option Addr} {m9 c9 : Nat} {l : List (Int × Bool)} {t : Value} (hS : NSt B N A x W) (hbW : Below w.heap.size w W) (hsW : W.heap.size = w.heap.size + 3) (ho : w9.ownsRow W.drew.heap.size 44 2 (.slice a9 m9 c9) m9 (gflat l)) (hb : Below W.drew.heap.size W.drew w9)
    (n0 : W.cell? ⟨w.heap.size, 0, none⟩ = some (.pointer (some ⟨N, 0, none⟩))) (t0 : W.cell? ⟨w.heap.size + 1 + 1, 0, none⟩ = some t) (tf : W.frozen? ⟨w.heap.size + 1 + 1, 0, none⟩ = false) (hN : N < w.heap.size) (hln : A.n = 0 ∨ ∀ b off, A.a = some ⟨b, off, none⟩ → b < w.heap.size) :
    w9.cell? ⟨w.heap.size, 0, none⟩ = some (.pointer (some ⟨N, 0, none⟩)) ∧ w9.cell? ⟨N, 2, none⟩ = some (.slice A.a' A.n' A.c') ∧ (∀ o, w9.frozen? ⟨N, o, none⟩ = false) ∧
    DropV B N t { A with a' := a9, n' := m9, c' := c9 } { x with gs := l } w.heap.size (w9.setCell ⟨N, 2, none⟩ (.slice a9 m9 c9)) ∧ Below B w (w9.setCell ⟨N, 2, none⟩ (.slice a9 m9 c9)) := by
  have hb' : Below W.heap.size W w9 := (Below.refl _ _).drew.trans hb
  have hS9 := hS.keep hb'
  have hge := hS.ge
  have hu : W.drew.heap.size = W.heap.size := rfl
  have ho' : ∀ q, (Value.slice a9 m9 c9).ownBlock = some q → W.heap.size ≤ q := fun q e => (ho.lt q e).1
  have hn9 : w9.cell? ⟨w.heap.size, 0, none⟩ = some (.pointer (some ⟨N, 0, none⟩)) := cellB n0 hb'
  have ht9 : w9.cell? ⟨w.heap.size + 1 + 1, 0, none⟩ = some t := cellB t0 hb'
  have htf : w9.frozen? ⟨w.heap.size + 1 + 1, 0, none⟩ = false := by rw [← tf]; exact World.frozen?_of_block (hb'.block _ (by simp only; omega))
  have hz := hb'.size
  have hS10 := hS9.toldR (own_mono1 ho (by omega)) (fun e => by have := ho' _ e; omega) (hS.lt1.imp id fun l b off e e2 => by have := l b off e; have := ho' _ e2; omega)
  refine ⟨hn9, hS9.box.c2, hS9.box.fr, ⟨hS10, ?_, ?_, ?_, hN, by simp; omega, fun q e => .inr (by have := ho' q e; omega), hln⟩, bl_set1' ((hbW.mono (by omega)).trans (hb'.mono (by omega))) N 2 hge _⟩
  · rw [World.cell?_setCell_other _ _ _ _ (by simp)]; exact hn9
  · rw [World.cell?_setCell_other _ _ _ _ (by simp)]; exact ht9
  · rw [← htf]; exact World.frozen?_of_block (Below.heap_setCell w9 ⟨N, 2, none⟩ _ _ (by simp only; omega))
theorem cell_new1 (v : World) (x : Value) (t : TypeId) (k : Nat) (hk : v.heap.size = k) : (v.alloc (.cells #[x] t)).cell? ⟨k, 0, none⟩ = some x ∧ (v.alloc (.cells #[x] t)).frozen? ⟨k, 0, none⟩ = false := by
  subst hk
  exact ⟨by simp, by simp [go_sem]⟩
/-- What the region holds on to. -/
abbrev DropH (s N : Nat) (g1 : Int) (gb : Bool) (w' : World) : Prop :=
  w'.cell? ⟨s, 0, none⟩ = some (.pointer (some ⟨N, 0, none⟩)) ∧ w'.cell? ⟨s + 1, 0, none⟩ = some (.int .i64 g1) ∧ w'.cell? ⟨s + 1, 1, none⟩ = some (.bool gb)
theorem DropH.drew {s N : Nat} {g1 : Int} {gb : Bool} {u : World} (h : DropH s N g1 gb u) : DropH s N g1 gb u.drew := h
theorem DropH.keep {s N : Nat} {g1 : Int} {gb : Bool} {u u' : World} (h : DropH s N g1 gb u) (hb : Below u.heap.size u u') : DropH s N g1 gb u' := ⟨cellB h.1 hb, cellB h.2.1 hb, cellB h.2.2 hb⟩
theorem DropH.far {s N : Nat} {g1 : Int} {gb : Bool} {u : World} (h : DropH s N g1 gb u) (hN : N < s) (o : Nat) (v : Value) : DropH s N g1 gb (u.setCell ⟨N, o, none⟩ v) := by
  refine ⟨?_, ?_, ?_⟩
  · rw [World.cell?_setCell_other _ _ _ _ (by simp)]; exact h.1
  · rw [World.cell?_setCell_other _ _ _ _ (by simp)]; exact h.2.1
  · rw [World.cell?_setCell_other _ _ _ _ (by simp)]; exact h.2.2
/-- What a dropping makes of a notification. -/
def dropM (x : Nt) (g1 : Int) (gb : Bool) : Nt × Int := if gb then oneM { x with gs := x.gs.filter fun h => !(h.1 == g1 && h.2 == gb) } else ({ x with gs := x.gs.filter fun h => !(h.1 == g1 && h.2 == gb) }, -1)
set_option maxRecDepth 100000 in
set_option maxHeartbeats 2000000 in
theorem dropGrant_any (B N : Nat) (A : Na) (x : Nt) (g1 : Int) (gb : Bool) (w : World) (hS : NSt B N A x w) (hn : A.n ≤ 2097152) (hn' : A.n' ≤ 2097152) (hl : lineL x.ln = true) (hw : wfL x.ln) (hsp : 0 ≤ x.sp ∧ x.sp ≤ 1000000000) :
  Calls Try.prog 51 #[.pointer (some ⟨N, 0, none⟩), .agg #[.int .i64 g1, .bool gb]] w fun e w' => ∃ A', e = .returned (.int .i64 (dropM x g1 gb).2) ∧ NSt B N A' (dropM x g1 gb).1 w' ∧ Below B w w' := by
 have hmf : ∀ (fn : Fn) (first cap : Array Value) (w : World), (Instr.makeFunc fn first cap).run Try.prog w = .ok (.func fn first cap) w := fun _ _ _ _ => rfl
 have hge := hS.ge
 have hltN := hS.box.lt
 have hL2 : x.gs.length = A.n' := hS.nin.grs.len
 have HLn := hidOf hS.lt1
 generalize hW : ((w.alloc (.cells #[.pointer (some ⟨N, 0, none⟩)] 55)).alloc (.cells #[.int .i64 g1, .bool gb] 44)).alloc (.cells #[.int .i64 0] 3) = W
 have bW : Below w.heap.size w W := by subst hW; exact bl_alloc (bl_alloc (bl_alloc (Below.refl _ _) _) _) _
 have n0 : W.cell? ⟨w.heap.size, 0, none⟩ = some (.pointer (some ⟨N, 0, none⟩)) := by
  subst hW
  exact cellB (w := w.alloc (.cells #[.pointer (some ⟨N, 0, none⟩)] 55)) (by simp) (bl_alloc (bl_alloc (Below.refl _ _) _) _)
 have s1 : (w.alloc (.cells #[.pointer (some ⟨N, 0, none⟩)] 55)).heap.size = w.heap.size + 1 := by simp
 have s2 : ((w.alloc (.cells #[.pointer (some ⟨N, 0, none⟩)] 55)).alloc (.cells #[.int .i64 g1, .bool gb] 44)).heap.size = w.heap.size + 1 + 1 := by simp
 have g0 : W.cell? ⟨w.heap.size + 1, 0, none⟩ = some (.int .i64 g1) := by
  subst hW
  exact cellB (w := (w.alloc (.cells #[.pointer (some ⟨N, 0, none⟩)] 55)).alloc (.cells #[.int .i64 g1, .bool gb] 44)) (by rw [← s1]; simp) (bl_alloc (Below.refl _ _) _)
 have g1' : W.cell? ⟨w.heap.size + 1, 1, none⟩ = some (.bool gb) := by
  subst hW
  exact cellB (w := (w.alloc (.cells #[.pointer (some ⟨N, 0, none⟩)] 55)).alloc (.cells #[.int .i64 g1, .bool gb] 44)) (by rw [← s1]; simp) (bl_alloc (Below.refl _ _) _)
 have t0 : W.cell? ⟨w.heap.size + 1 + 1, 0, none⟩ = some (.int .i64 0) := by subst hW; exact (cell_new1 _ _ _ _ s2).1
 have tf : W.frozen? ⟨w.heap.size + 1 + 1, 0, none⟩ = false := by subst hW; exact (cell_new1 _ _ _ _ s2).2
 have sW : W.heap.size = w.heap.size + 3 := by subst hW; simp
 have hSW := hS.keep bW
 have hId := hidOf (hSW.nin.grs.keep (Below.refl W.heap.size W).drew)
 have HC := hidOf (without_any A.a' A.n' A.c' x.gs g1 gb W.drew hId.out hn')
 obtain ⟨_, p0, p1, p2, p3, p4, p5, pf⟩ := id hSW.box
 have HS := hidOf hSW
 have HbW := hidOf bW
 have HsW := hidOf sW
 have HL2 := hidOf hL2
 clear hS bW hSW sW hL2 s1 s2 p0 p1 p3 p4 p5 hId
 cases gb
 ·have hH : DropH w.heap.size N g1 false W := ⟨n0, g0, g1'⟩
  go_enter_defers Try.func51, Try.ntmps51
  go_wp2_with fail
  clear hW hmf
  refine wp_region_noPanic ?_
  refine wp_region_held_drew (S := fun w' => DropH w.heap.size N g1 false w') (by kernel_rfl) hH.drew (fun hHeld => ?_)
  refine tK 0 ?_ rfl (by kernel_rfl) (by rfl) ?_ (by assumption) (fun _ _ _ h => h) ?_
  case refine_2 => (intro w hSw; (try dsimp only at hSw); go_simp; try with_reducible rfl)
  simp only [Act.put, List.getElem_toArray, List.getElem_cons_zero, List.setIfInBounds_toArray, List.set_cons_zero, List.set_cons_succ]
  refine tR 1 ?_
  refine tR 2 ?_
  refine tR 3 ?_
  refine tR 5 ?_
  refine tW 4 (fun K hK => ?_)
  go_simp
  refine hK.out _ _ hHeld (fun hHeld => ?_)
  clear hK K
  refine tW 6 (fun K hK => ?_)
  go_simp
  refine (HC.out).mono ?_
  rintro e w9 ⟨a9, m9, c9, rfl, ho9, hb9⟩
  obtain ⟨n9, p9, f9, hV9, hB9⟩ := drop_mid HS.out HbW.out HsW.out ho9 hb9 n0 t0 tf hltN HLn.out
  have hH9 := hHeld.keep hb9
  have HV9 := hidOf hV9
  have HB9 := hidOf hB9
  have hm9 := hidOf (ownG_len ho9)
  clear hV9 hB9 ho9 hb9
  refine hK.out _ _ hH9 (fun hHeld => ?_)
  clear hK K
  refine tR 7 ?_
  refine tR 8 ?_
  refine tW 9 (fun K hK => ?_)
  go_simp
  refine hK.out _ _ (hHeld.far (by omega) 2 (.slice a9 m9 c9)) (fun hHeld => ?_)
  clear hK K
  refine wpAnyH_done (by kernel_rfl) ?_ _
  refine NoPanic.normal ?_
  have tt := HV9.out.t0
  have tff := HV9.out.tf
  have hV10 := HV9.out.tell (.int .i64 (-1))
  have hB10 := bl_set1' HB9.out (w.heap.size + 1 + 1) 0 (by omega) (.int .i64 (-1))
  have HV10 := hidOf hV10
  have HB10 := hidOf hB10
  clear hV10 hB10 HV9 HB9
  go_wp2
  have t2 := HV10.out.t0
  exact ⟨.int .i64 (-1), by simp [results, Try.results51, go_sem, t2], _, rfl, HV10.out.st, HB10.out⟩
 ·have hH : DropH w.heap.size N g1 true W := ⟨n0, g0, g1'⟩
  go_enter_defers Try.func51, Try.ntmps51
  go_wp2_with fail
  clear hW hmf
  refine wp_region_noPanic ?_
  refine wp_region_held_drew (S := fun w' => DropH w.heap.size N g1 true w') (by kernel_rfl) hH.drew (fun hHeld => ?_)
  refine tK 0 ?_ rfl (by kernel_rfl) (by rfl) ?_ (by assumption) (fun _ _ _ h => h) ?_
  case refine_2 => (intro w hSw; (try dsimp only at hSw); go_simp; try with_reducible rfl)
  simp only [Act.put, List.getElem_toArray, List.getElem_cons_zero, List.setIfInBounds_toArray, List.set_cons_zero, List.set_cons_succ]
  refine tR 1 ?_
  refine tR 2 ?_
  refine tR 3 ?_
  refine tR 5 ?_
  refine tW 4 (fun K hK => ?_)
  go_simp
  refine hK.out _ _ hHeld (fun hHeld => ?_)
  clear hK K
  refine tW 6 (fun K hK => ?_)
  go_simp
  refine (HC.out).mono ?_
  rintro e w9 ⟨a9, m9, c9, rfl, ho9, hb9⟩
  obtain ⟨n9, p9, f9, hV9, hB9⟩ := drop_mid HS.out HbW.out HsW.out ho9 hb9 n0 t0 tf hltN HLn.out
  have hH9 := hHeld.keep hb9
  have HV9 := hidOf hV9
  have HB9 := hidOf hB9
  have hm9 := hidOf (ownG_len ho9)
  clear hV9 hB9 ho9 hb9
  refine hK.out _ _ hH9 (fun hHeld => ?_)
  clear hK K
  refine tR 7 ?_
  refine tR 8 ?_
  refine tW 9 (fun K hK => ?_)
  go_simp
  refine hK.out _ _ (hHeld.far (by omega) 2 (.slice a9 m9 c9)) (fun hHeld => ?_)
  clear hK K
  refine wpAnyH_done (by kernel_rfl) ?_ _
  refine NoPanic.normal ?_
  have tt := HV9.out.t0
  have tff := HV9.out.tf
  have hV10 := HV9.out.tell (.int .i64 (-1))
  have hB10 := bl_set1' HB9.out (w.heap.size + 1 + 1) 0 (by omega) (.int .i64 (-1))
  have HV10 := hidOf hV10
  have HB10 := hidOf hB10
  clear hV10 hB10 HV9 HB9
  go_wp2
  refine leaves_cons (f := 82) (args := #[.pointer (some ⟨w.heap.size, 0, none⟩), .pointer (some ⟨w.heap.size + 1 + 1, 0, none⟩)]) (by simp) (by simp [go_sem]) ?_
  refine (drop1_any B N _ _ _ w.heap.size .returning _ HV10.out (by omega) hn (by have h1 := hm9.out; have h2 := HL2.out; have h3 := List.length_filter_le (fun h : Int × Bool => !(h.1 == g1 && h.2 == true)) x.gs; simp only; omega) hl hw hsp).mono ?_
  rintro e u' w'' ⟨rfl, A2, rfl, hS2, t2, hb2⟩
  simp only [Leaves, settle]
  obtain ⟨tv, htv⟩ : ∃ tv, tv = (dropM x g1 true).2 := ⟨_, rfl⟩
  have t3 : w''.cell? ⟨w.heap.size + 1 + 1, 0, none⟩ = some (.int .i64 tv) := by rw [htv]; exact t2
  have HT := hidOf htv
  clear t2 htv
  exact ⟨.int .i64 tv, by simp [results, Try.results51, go_sem, t3], A2, by rw [HT.out], hS2, HB10.out.trans hb2⟩
end Go.Proofs.Ytfgknbflgmblmaa
