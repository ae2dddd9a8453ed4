/-
  The program's waiters behind a pointer: whose turn it is, who waits, who is taken out, who is let go.
-/
import Derived.Test.YtihdglmiecifjaaGreatZRa19
namespace Go.Proofs.YtihdglmiecifjaaGreat
open Go.RowKit Go.Maps Pl Il

/-- The first two cells of block b hold two lists of its own. -/
structure WSt (B b : Nat) (A : Na) (ln gs : List Int) (w : World) : Prop where
  lt : b < w.heap.size
  ge : B ≤ b
  c0 : w.cell? ⟨b, 0, none⟩ = some (.slice A.a A.n A.c)
  c1 : w.cell? ⟨b, 1, none⟩ = some (.slice A.a' A.n' A.c')
  fr : ∀ o, w.frozen? ⟨b, o, none⟩ = false
  rows : Rows2 B w A ln gs
  ne1 : (Value.slice A.a A.n A.c).ownBlock ≠ some b
  ne2 : (Value.slice A.a' A.n' A.c').ownBlock ≠ some b
/-- Behind a call on them: what else lies in their block, and all that is elder, stays. -/
structure WTo (B b : Nat) (w w' : World) : Prop where
  below : Below B w w'
  cells : ∀ o, 2 ≤ o → w'.cell? ⟨b, o, none⟩ = w.cell? ⟨b, o, none⟩
theorem WTo.refl (B b : Nat) (w : World) : WTo B b w w := ⟨Below.refl _ _, fun _ _ => rfl⟩
theorem WTo.trans {B b : Nat} {w u v : World} (h : WTo B b w u) (k : WTo B b u v) : WTo B b w v := ⟨h.below.trans k.below, fun o ho => (k.cells o ho).trans (h.cells o ho)⟩
theorem WTo.of {B b : Nat} {w w' : World} (h : Below w.heap.size w w') (hb : b < w.heap.size) (hB : B ≤ w.heap.size) : WTo B b w w' := ⟨h.mono hB, fun o _ => h.cell (p := ⟨b, o, none⟩) hb⟩
section
variable {B b : Nat} {A : Na} {ln gs : List Int} {w w' : World}
theorem WSt.keep (h : WSt B b A ln gs w) (hb : Below w.heap.size w w') : WSt B b A ln gs w' :=
  ⟨Nat.lt_of_lt_of_le h.lt hb.size, h.ge, by rw [hb.cell (p := ⟨b, 0, none⟩) h.lt]; exact h.c0, by rw [hb.cell (p := ⟨b, 1, none⟩) h.lt]; exact h.c1, fun o => by rw [hb.frozen (p := ⟨b, o, none⟩) h.lt]; exact h.fr o, h.rows.keep hb, h.ne1, h.ne2⟩
theorem WSt.to (h : WSt B b A ln gs w) (hb : Below w.heap.size w w') : WTo B b w w' := WTo.of hb h.lt (Nat.le_trans h.ge (Nat.le_of_lt h.lt))
/-- Another cell of the block is stored. -/
theorem WSt.setc (h : WSt B b A ln gs w) (o : Nat) (ho : 2 ≤ o) (v : Value) : WSt B b A ln gs (w.setCell ⟨b, o, none⟩ v) :=
  ⟨by simpa using h.lt, h.ge, by rw [World.cell?_setCell_other _ _ _ _ (by intro e; cases e; omega)]; exact h.c0, by rw [World.cell?_setCell_other _ _ _ _ (by intro e; cases e; omega)]; exact h.c1, fun k => by simpa using h.fr k, h.rows.set b o h.ne1 h.ne2 v, h.ne1, h.ne2⟩
/-- The line is another one. -/
theorem WSt.line {a : Option Addr} {n c : Nat} {xs : List Int} (h : WSt B b A ln gs w) (hr : w.ownsRow B 3 1 (.slice a n c) n (intsV xs)) (h1 : (Value.slice a n c).ownBlock ≠ some b) (h2 : ∀ q, (Value.slice a n c).ownBlock = some q → (Value.slice A.a' A.n' A.c').ownBlock ≠ some q) :
    WSt B b { A with a := a, n := n, c := c } xs gs (w.setCell ⟨b, 0, none⟩ (.slice a n c)) :=
  ⟨by simpa using h.lt, h.ge, World.cell?_setCell_same _ _ _ h.c0, by rw [World.cell?_setCell_other _ _ _ _ (by simp)]; exact h.c1, fun k => by simpa using h.fr k, ⟨row_set hr b 0 h1 _, row_set h.rows.two b 0 h.ne2 _, h2⟩, h1, h.ne2⟩
/-- Those who were told are others. -/
theorem WSt.told {a : Option Addr} {n c : Nat} {xs : List Int} (h : WSt B b A ln gs w) (hr : w.ownsRow B 3 1 (.slice a n c) n (intsV xs)) (h1 : (Value.slice a n c).ownBlock ≠ some b) (h2 : ∀ q, (Value.slice A.a A.n A.c).ownBlock = some q → (Value.slice a n c).ownBlock ≠ some q) :
    WSt B b { A with a' := a, n' := n, c' := c } ln xs (w.setCell ⟨b, 1, none⟩ (.slice a n c)) :=
  ⟨by simpa using h.lt, h.ge, by rw [World.cell?_setCell_other _ _ _ _ (by simp)]; exact h.c0, World.cell?_setCell_same _ _ _ h.c1, fun k => by simpa using h.fr k, ⟨row_set h.rows.one b 1 h.ne1 _, row_set hr b 1 h1 _, h2⟩, h.ne1, h1⟩
theorem WTo.set (h : WTo B b w w') (hB : B ≤ b) (o : Nat) (ho : o < 2) (v : Value) : WTo B b w (w'.setCell ⟨b, o, none⟩ v) :=
  ⟨bl_set1 h.below b o hB v, fun k hk => by rw [World.cell?_setCell_other _ _ _ _ (by intro e; cases e; omega)]; exact h.cells k hk⟩
theorem WTo.grown {g : Option Nat} (h : WTo B b w w') {u : World} (hg : w'.grownBy u g) (hB : B ≤ w'.heap.size) (hl : b < w'.heap.size) (hge : ∀ q, g = some q → B ≤ q) (hne : g ≠ some b) : WTo B b w u :=
  ⟨h.below.grown hg hB (fun k hk => hge k hk), fun o ho => by rw [← h.cells o ho]; exact World.cell?_of_block (hg.block b hl (fun e => hne e.symm))⟩
end
/-- Whose turn is it? -/
def turnL (ln gs : List Int) (who : Int) : Int := if hasL ln who then 4 else if hasL gs who then 0 else 3
theorem place_neg {xs : List Int} {x : Int} (h : hasL xs x = false) : placeL xs x = -1 := (place_none (Nat.le_refl _) (by rw [List.take_length]; exact h)).symm
theorem place_nneg {xs : List Int} {x : Int} (h : hasL xs x = true) : 0 ≤ placeL xs x := by
  unfold placeL
  cases hf : xs.findIdx? (· == x) with
  | none =>
    rw [List.findIdx?_eq_none_iff] at hf
    have := hf x (by simpa [hasL] using h)
    simp at this
  | some i => simp

theorem turnOf_any (B b : Nat) (A : Na) (ln gs : List Int) (who : Int) (w : World) (hS : WSt B b A ln gs w) (hn : A.n ≤ 2097152) (hn' : A.n' ≤ 2097152) (hw : wfL ln) (hw' : wfL gs) (hx : (Lit.int .i64 who).wf = true) :
    Calls Tryz.prog 155 #[.pointer (some ⟨b, 0, none⟩), .int .i64 who] w fun e w' => e = .returned (.int .i64 (turnL ln gs who)) ∧ Below w.heap.size w w' := by
  have c0 := hS.c0
  have HS := hidOf hS
  clear hS
  go_enter Tryz.func155, Tryz.ntmps155
  go_wp2_with fail
  refine (implPlaceOf_any A.a A.n A.c ln who _ (row_own HS.out.rows.one).1.ints hn hw hx).mono ?_
  rintro e w1 ⟨rfl, hb1⟩
  have hS1 := HS.out.keep hb1
  cases h1 : hasL ln who
  · rw [place_neg h1]
    have c1 := hS1.c1
    have HS1 := hidOf hS1
    clear hS1 c0 HS
    go_wp2_with fail
    refine (implPlaceOf_any A.a' A.n' A.c' gs who _ (row_own HS1.out.rows.two).1.ints hn' hw' hx).mono ?_
    rintro e w2 ⟨rfl, hb2⟩
    cases h2 : hasL gs who
    · rw [place_neg h2]
      go_wp2
      go_ret
      exact ⟨rint (by unfold turnL; rw [h1, h2]; rfl), bl_trans hb1 hb2⟩
    · have hp := place_nneg h2
      generalize placeL gs who = p at hp
      go_wp2
      go_ret
      exact ⟨rint (by unfold turnL; rw [h1, h2]; rfl), bl_trans hb1 hb2⟩
  · have hp := place_nneg h1
    generalize placeL ln who = p at hp
    clear hS1
    go_wp2
    go_ret
    exact ⟨rint (by unfold turnL; rw [h1]; rfl), hb1⟩

theorem wait_any (B b : Nat) (A : Na) (ln gs : List Int) (who : Int) (w : World) (hS : WSt B b A ln gs w) (hn : A.n ≤ 2097152) :
    Calls Tryz.prog 158 #[.pointer (some ⟨b, 0, none⟩), .int .i64 who] w fun e w' => ∃ A', e = .returned (.int .i64 (if ln.length = 32 then 2 else 4)) ∧ WSt B b A' (if ln.length = 32 then ln else ln ++ [who]) gs w' ∧ WTo B b w w' := by
  have c0 := hS.c0
  have hlen := hS.rows.len.1
  by_cases hf : A.n = 32
  · have hf' : ((A.n : Int) == 32) = true := by simp [hf]
    have hq : ln.length = 32 := by omega
    rw [if_pos hq, if_pos hq]
    have HS := hidOf hS
    clear hS hf hlen hq
    go_enter Tryz.func158, Tryz.ntmps158
    go_wp2
    go_ret
    exact ⟨A, rfl, HS.out, WTo.refl _ _ _⟩
  · have hf' : ((A.n : Int) == 32) = false := by simp; omega
    have hq : ¬ ln.length = 32 := by omega
    rw [if_neg hq, if_neg hq]
    obtain ⟨g', c', w', hr, ho', hg, hl⟩ := append_own1 B A.n _ ln who w hS.rows.one (Nat.le_trans hS.ge (Nat.le_of_lt hS.lt)) (by omega)
    have hlt := hS.lt
    have hge := hS.ge
    have hsz := hg.size
    have hblk : w'.heap[b]? = w.heap[b]? := hg.block b hlt (fun e => hS.ne1 e.symm)
    have hS1 : WSt B b A ln gs w → True := fun _ => trivial
    have d0 : w'.cell? ⟨b, 0, none⟩ = some (.slice A.a A.n A.c) := by rw [← hS.c0]; exact World.cell?_of_block hblk
    have d1 : w'.cell? ⟨b, 1, none⟩ = some (.slice A.a' A.n' A.c') := by rw [← hS.c1]; exact World.cell?_of_block hblk
    have df : ∀ o, w'.frozen? ⟨b, o, none⟩ = false := fun o => by rw [← hS.fr o]; exact World.frozen?_of_block hblk
    have hneb : (Value.slice (some ⟨g', 0, none⟩) (A.n + 1) c').ownBlock ≠ some b := fun e => by
      have e' : g' = b := by simpa [Value.ownBlock] using e
      rcases hl with hl | hl
      · exact hS.ne1 (by rw [hl, e'])
      · omega
    have htwo := row_grown hS.rows.two hg (fun q e => hS.rows.ne q e)
    have hn2 : ∀ q, (Value.slice (some ⟨g', 0, none⟩) (A.n + 1) c').ownBlock = some q → (Value.slice A.a' A.n' A.c').ownBlock ≠ some q := fun q e e2 => by
      have e' : g' = q := by simpa [Value.ownBlock] using e
      subst e'
      rcases hl with hl | hl
      · exact hS.rows.ne _ hl e2
      · have := (hS.rows.two.lt _ e2).2; omega
    have hF : WSt B b { A with a := some ⟨g', 0, none⟩, n := A.n + 1, c := c' } (ln ++ [who]) gs (w'.setCell ⟨b, 0, none⟩ (.slice (some ⟨g', 0, none⟩) (A.n + 1) c')) :=
      ⟨by simp; omega, hge, World.cell?_setCell_same _ _ _ d0, by rw [World.cell?_setCell_other _ _ _ _ (by simp)]; exact d1, fun k => by simpa using df k, ⟨row_set ho' b 0 hneb _, row_set htwo b 0 hS.ne2 _, hn2⟩, hneb, hS.ne2⟩
    have hT : WTo B b w (w'.setCell ⟨b, 0, none⟩ (.slice (some ⟨g', 0, none⟩) (A.n + 1) c')) :=
      ((WTo.refl B b w).grown hg (by omega) hlt (fun q e => (hS.rows.one.lt q e).1) hS.ne1).set hge 0 (by omega) _
    have HF := hidOf hF
    have HT := hidOf hT
    have Hr := hidOf hr
    clear hF hT hr hS hS1 d1 htwo hn2 hneb hblk ho' hg hl hlen hq hf
    go_enter Tryz.func158, Tryz.ntmps158
    go_wp2_with (at_builtin; refine wpList_append_run rfl _ _ 26 rfl _ _ _ rfl rfl Hr.out ?_)
    go_ret
    exact ⟨_, rfl, HF.out, HT.out⟩

/-- A list without x: what Leave leaves of a right one. -/
theorem leave_less {xs : List Int} (x : Int) (h : lineL xs = true) : (leaveL xs x).1 = lessL xs x := by
  cases hh : hasL xs x
  · rw [leave_none h hh]
    unfold lessL
    rw [List.erase_of_not_mem (by simpa [hasL] using hh)]
  · rw [leave_done h hh]
theorem without_row (a : Option Addr) (n cap : Nat) (xs : List Int) (x : Int) (w : World) (hI : IntsAt w a n xs) (hn : n ≤ 2097152) (hw : wfL xs) (hx : (Lit.int .i64 x).wf = true) (hnd : xs.Nodup) :
    Calls Tryz.prog 182 #[.slice a n cap, .int .i64 x] w fun e w' => ∃ a' m c', e = .returned (.slice a' m c') ∧ w'.ownsRow w.heap.size 3 1 (.slice a' m c') m (intsV (lessL xs x)) ∧ Below w.heap.size w w' := by
  have hlen := hI.len
  go_enter Tryz.func182, Tryz.ntmps182
  go_wp2_with fail
  refine (queueOf_any a n cap xs _ hI hn hw).mono ?_
  rintro e w1 ⟨qb, rfl, hQ, hb⟩
  clear hI
  go_wp2_with fail
  refine (leave_any _ qb xs [] x _ hQ hx).mono ?_
  rintro e w4 ⟨rfl, hQ4, hb4⟩
  have hS := standing_any _ qb xs [x] w4 hQ4 hw (by omega)
  rw [stand_less hnd x] at hS
  have HS := hidOf hS
  clear hS hQ4 hQ
  go_wp2_with fail
  refine HS.out.mono ?_
  rintro e w5 ⟨v, rfl, ho, hb5⟩
  obtain ⟨a', c', rfl, _⟩ := own_of ho _ rfl
  have HB := hidOf (And.intro (row_mono ho (hb.trans hb4).size) (bl_trans (hb.trans hb4) hb5))
  clear ho
  go_wp2
  go_ret
  exact ⟨_, _, _, rfl, HB.out.1, HB.out.2⟩
set_option maxHeartbeats 1000000 in
theorem remove_nd (B b : Nat) (A : Na) (ln gs : List Int) (who : Int) (w : World) (hS : WSt B b A ln gs w) (hn : A.n ≤ 2097152) (hn' : A.n' ≤ 2097152) (hw : wfL ln) (hw' : wfL gs) (hx : (Lit.int .i64 who).wf = true) (hl : ln.Nodup) (hl' : gs.Nodup) :
    Calls Tryz.prog 161 #[.pointer (some ⟨b, 0, none⟩), .int .i64 who] w fun e w' => ∃ A', e = .returned (.tuple #[]) ∧ WSt B b A' (lessL ln who) (lessL gs who) w' ∧ WTo B b w w' := by
  have c0 := hS.c0
  have HS := hidOf hS
  clear hS
  go_enter Tryz.func161, Tryz.ntmps161
  go_wp2_with fail
  refine (without_row A.a A.n A.c ln who _ (row_own HS.out.rows.one).1.ints hn hw hx hl).mono ?_
  rintro e w1 ⟨a1, m1, c1, rfl, hr1, hb1⟩
  have hS1 := HS.out.keep hb1
  have hlt0 := HS.out.lt
  have hS2 := hS1.line (row_mono hr1 (Nat.le_trans HS.out.ge (Nat.le_of_lt HS.out.lt))) (fun e => by have := (hr1.lt b e).1; omega) (fun q e e2 => by have h1 := (hr1.lt q e).1; have h2 := (HS.out.rows.two.lt q e2).2; omega)
  have hT2 := (HS.out.to hb1).set HS.out.ge 0 (by omega) (.slice a1 m1 c1)
  have d0 := hS1.c0
  have df := hS1.fr
  have e1 := hS2.c1
  have HS2 := hidOf hS2
  have HT2 := hidOf hT2
  clear hS1 hS2 hT2 c0 hr1
  simp only at e1
  go_wp2_with fail
  refine (without_row A.a' A.n' A.c' gs who _ (row_own HS2.out.rows.two).1.ints hn' hw' hx hl').mono ?_
  rintro e w2 ⟨a2, m2, c2, rfl, hr2, hb2⟩
  have hS3 := HS2.out.keep hb2
  have hlt2 := HS2.out.lt
  have hS4 := hS3.told (row_mono hr2 (Nat.le_trans HS2.out.ge (Nat.le_of_lt HS2.out.lt))) (fun e => by have := (hr2.lt b e).1; omega) (fun q e e2 => by have h1 := (hr2.lt q e2).1; have h2 := (HS2.out.rows.one.lt q e).2; omega)
  have hT4 := (HT2.out.trans (HS2.out.to hb2)).set HS2.out.ge 1 (by omega) (.slice a2 m2 c2)
  have f1 := hS3.c1
  have ff := hS3.fr
  have HS4 := hidOf hS4
  have HT4 := hidOf hT4
  clear hS3 hS4 hT4 e1 d0 df HS2 HT2 hr2
  simp only at f1
  go_wp2
  go_end0
  exact ⟨_, rfl, HS4.out, HT4.out⟩
theorem remove_any (B b : Nat) (A : Na) (ln gs : List Int) (who : Int) (w : World) (hS : WSt B b A ln gs w) (hn : A.n ≤ 2097152) (hn' : A.n' ≤ 2097152) (hw : wfL ln) (hw' : wfL gs) (hx : (Lit.int .i64 who).wf = true) (hl : lineL ln = true) (hl' : lineL gs = true) :
    Calls Tryz.prog 161 #[.pointer (some ⟨b, 0, none⟩), .int .i64 who] w fun e w' => ∃ A', e = .returned (.tuple #[]) ∧ WSt B b A' (lessL ln who) (lessL gs who) w' ∧ WTo B b w w' :=
  remove_nd B b A ln gs who w hS hn hn' hw hw' hx (nodup_line hl) (nodup_line hl')
end Go.Proofs.YtihdglmiecifjaaGreat
