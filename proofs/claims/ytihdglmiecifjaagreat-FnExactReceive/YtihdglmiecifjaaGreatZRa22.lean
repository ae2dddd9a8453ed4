/-
  The program's waiters behind a pointer: who goes on, who quits, who is let go.
-/
import Derived.Test.YtihdglmiecifjaaGreatZRa21
import Derived.RegionTactic
import Derived.ChangeAlike
namespace Go.Proofs.YtihdglmiecifjaaGreat
open Go.RowKit Go.Maps Pl Il

/-- Who is in neither list. -/
theorem turn_cases (ln gs : List Int) (who : Int) : (turnL ln gs who = 4 ∧ hasL ln who = true) ∨ (turnL ln gs who = 0 ∧ hasL ln who = false ∧ hasL gs who = true) ∨ (turnL ln gs who = 3 ∧ hasL ln who = false ∧ hasL gs who = false) := by
  unfold turnL
  cases h1 : hasL ln who <;> cases h2 : hasL gs who <;> simp
/-- A number is answered, and the lists are others. -/
def WOut (B b : Nat) (w : World) (v : Value) (ln gs : List Int) (e : Ending) (w' : World) : Prop := ∃ A', e = .returned v ∧ WSt B b A' ln gs w' ∧ WTo B b w w'
theorem pass_nd (B b : Nat) (A : Na) (ln gs : List Int) (who : Int) (w : World) (hS : WSt B b A ln gs w) (hn : A.n ≤ 2097152) (hn' : A.n' ≤ 2097152) (hw : wfL ln) (hw' : wfL gs) (hx : (Lit.int .i64 who).wf = true) (hl : ln.Nodup) (hl' : gs.Nodup) :
    Calls Tryz.prog 133 #[.pointer (some ⟨b, 0, none⟩), .int .i64 who] w fun e w' => WOut B b w (.int .i64 (turnL ln gs who)) ln (if turnL ln gs who = 0 then lessL gs who else gs) e w' := by
  have HS := hidOf hS
  clear hS
  go_enter Tryz.func133, Tryz.ntmps133
  go_wp2_with fail
  refine (turnOf_any B b A ln gs who w HS.out hn hn' hw hw' hx).mono ?_
  rintro e w1 ⟨rfl, hb1⟩
  have hS1 := HS.out.keep hb1
  have hT1 := HS.out.to hb1
  have HS1 := hidOf hS1
  have HT1 := hidOf hT1
  clear hS1 hT1 HS
  rcases turn_cases ln gs who with ⟨h0, h1⟩ | ⟨h0, h1, h2⟩ | ⟨h0, h1, h2⟩
  · rw [h0]
    go_wp2
    go_ret
    first | exact ⟨A, rfl, HS1.out, HT1.out⟩ | (rw [h0]; exact ⟨A, rfl, HS1.out, HT1.out⟩) | (rw [if_neg (by omega)]; exact ⟨A, rfl, HS1.out, HT1.out⟩) | (rw [if_pos h0]; exact ⟨A, rfl, HS1.out, HT1.out⟩) | exact ⟨A, by rw [h0], by rw [if_pos h0]; exact HS1.out, HT1.out⟩ | exact ⟨A, by rw [h0], by rw [if_neg (by omega)]; exact HS1.out, HT1.out⟩ | exact ⟨A, by rw [if_neg (by omega)], HS1.out, HT1.out⟩ | exact ⟨A, by rw [if_pos h0], HS1.out, HT1.out⟩
  · rw [h0]
    go_wp2_with fail
    refine (remove_nd B b A ln gs who w1 HS1.out hn hn' hw hw' hx hl hl').mono ?_
    rintro e w2 ⟨A', rfl, hS2, hT2⟩
    have e1 : lessL ln who = ln := List.erase_of_not_mem (by simpa [hasL] using h1)
    rw [e1] at hS2
    have HS2 := hidOf hS2
    have HT2 := hidOf (HT1.out.trans hT2)
    clear hS2 hT2
    go_wp2
    go_ret
    first | exact ⟨A', rfl, HS2.out, HT2.out⟩ | (rw [h0]; exact ⟨A', rfl, HS2.out, HT2.out⟩) | (rw [if_neg (by omega)]; exact ⟨A', rfl, HS2.out, HT2.out⟩) | (rw [if_pos h0]; exact ⟨A', rfl, HS2.out, HT2.out⟩) | exact ⟨A', by rw [h0], by rw [if_pos h0]; exact HS2.out, HT2.out⟩ | exact ⟨A', by rw [h0], by rw [if_neg (by omega)]; exact HS2.out, HT2.out⟩ | exact ⟨A', by rw [if_neg (by omega)], HS2.out, HT2.out⟩ | exact ⟨A', by rw [if_pos h0], HS2.out, HT2.out⟩
  · rw [h0]
    go_wp2
    go_ret
    first | exact ⟨A, rfl, HS1.out, HT1.out⟩ | (rw [h0]; exact ⟨A, rfl, HS1.out, HT1.out⟩) | (rw [if_neg (by omega)]; exact ⟨A, rfl, HS1.out, HT1.out⟩) | (rw [if_pos h0]; exact ⟨A, rfl, HS1.out, HT1.out⟩) | exact ⟨A, by rw [h0], by rw [if_pos h0]; exact HS1.out, HT1.out⟩ | exact ⟨A, by rw [h0], by rw [if_neg (by omega)]; exact HS1.out, HT1.out⟩ | exact ⟨A, by rw [if_neg (by omega)], HS1.out, HT1.out⟩ | exact ⟨A, by rw [if_pos h0], HS1.out, HT1.out⟩
theorem pass_any (B b : Nat) (A : Na) (ln gs : List Int) (who : Int) (w : World) (hS : WSt B b A ln gs w) (hn : A.n ≤ 2097152) (hn' : A.n' ≤ 2097152) (hw : wfL ln) (hw' : wfL gs) (hx : (Lit.int .i64 who).wf = true) (hl : lineL ln = true) (hl' : lineL gs = true) :
    Calls Tryz.prog 133 #[.pointer (some ⟨b, 0, none⟩), .int .i64 who] w fun e w' => WOut B b w (.int .i64 (turnL ln gs who)) ln (if turnL ln gs who = 0 then lessL gs who else gs) e w' :=
  pass_nd B b A ln gs who w hS hn hn' hw hw' hx (nodup_line hl) (nodup_line hl')
theorem quit_nd (B b : Nat) (A : Na) (ln gs : List Int) (who : Int) (w : World) (hS : WSt B b A ln gs w) (hn : A.n ≤ 2097152) (hn' : A.n' ≤ 2097152) (hw : wfL ln) (hw' : wfL gs) (hx : (Lit.int .i64 who).wf = true) (hl : ln.Nodup) (hl' : gs.Nodup) :
    Calls Tryz.prog 134 #[.pointer (some ⟨b, 0, none⟩), .int .i64 who] w fun e w' => WOut B b w (.int .i64 (if turnL ln gs who = 3 then 3 else 0)) (lessL ln who) (lessL gs who) e w' := by
  have HS := hidOf hS
  clear hS
  go_enter Tryz.func134, Tryz.ntmps134
  go_wp2_with fail
  refine (turnOf_any B b A ln gs who w HS.out hn hn' hw hw' hx).mono ?_
  rintro e w1 ⟨rfl, hb1⟩
  have hS1 := HS.out.keep hb1
  have hT1 := HS.out.to hb1
  have HS1 := hidOf hS1
  have HT1 := hidOf hT1
  clear hS1 hT1 HS
  have hrm := remove_nd B b A ln gs who w1 HS1.out hn hn' hw hw' hx hl hl'
  have HRm := hidOf hrm
  clear hrm
  rcases turn_cases ln gs who with ⟨h0, h1⟩ | ⟨h0, h1, h2⟩ | ⟨h0, h1, h2⟩
  · rw [h0]
    go_wp2_with fail
    refine HRm.out.mono ?_
    rintro e w2 ⟨A', rfl, hS2, hT2⟩
    have HS2 := hidOf hS2
    have HT2 := hidOf (HT1.out.trans hT2)
    clear hS2 hT2 HRm
    go_wp2
    go_ret
    first | exact ⟨A', rfl, HS2.out, HT2.out⟩ | (rw [h0]; exact ⟨A', rfl, HS2.out, HT2.out⟩) | (rw [if_neg (by omega)]; exact ⟨A', rfl, HS2.out, HT2.out⟩) | (rw [if_pos h0]; exact ⟨A', rfl, HS2.out, HT2.out⟩) | exact ⟨A', by rw [h0], by rw [if_pos h0]; exact HS2.out, HT2.out⟩ | exact ⟨A', by rw [h0], by rw [if_neg (by omega)]; exact HS2.out, HT2.out⟩ | exact ⟨A', by rw [if_neg (by omega)], HS2.out, HT2.out⟩ | exact ⟨A', by rw [if_pos h0], HS2.out, HT2.out⟩
  · rw [h0]
    go_wp2_with fail
    refine HRm.out.mono ?_
    rintro e w2 ⟨A', rfl, hS2, hT2⟩
    have HS2 := hidOf hS2
    have HT2 := hidOf (HT1.out.trans hT2)
    clear hS2 hT2 HRm
    go_wp2
    go_ret
    first | exact ⟨A', rfl, HS2.out, HT2.out⟩ | (rw [h0]; exact ⟨A', rfl, HS2.out, HT2.out⟩) | (rw [if_neg (by omega)]; exact ⟨A', rfl, HS2.out, HT2.out⟩) | (rw [if_pos h0]; exact ⟨A', rfl, HS2.out, HT2.out⟩) | exact ⟨A', by rw [h0], by rw [if_pos h0]; exact HS2.out, HT2.out⟩ | exact ⟨A', by rw [h0], by rw [if_neg (by omega)]; exact HS2.out, HT2.out⟩ | exact ⟨A', by rw [if_neg (by omega)], HS2.out, HT2.out⟩ | exact ⟨A', by rw [if_pos h0], HS2.out, HT2.out⟩
  · rw [h0]
    have e1 : lessL ln who = ln := List.erase_of_not_mem (by simpa [hasL] using h1)
    have e2 : lessL gs who = gs := List.erase_of_not_mem (by simpa [hasL] using h2)
    have HS1 := hidOf (show WSt B b A (lessL ln who) (lessL gs who) w1 by rw [e1, e2]; exact HS1.out)
    clear HRm e1 e2
    go_wp2
    go_ret
    first | exact ⟨A, rfl, HS1.out, HT1.out⟩ | (rw [h0]; exact ⟨A, rfl, HS1.out, HT1.out⟩) | (rw [if_neg (by omega)]; exact ⟨A, rfl, HS1.out, HT1.out⟩) | (rw [if_pos h0]; exact ⟨A, rfl, HS1.out, HT1.out⟩) | exact ⟨A, by rw [h0], by rw [if_pos h0]; exact HS1.out, HT1.out⟩ | exact ⟨A, by rw [h0], by rw [if_neg (by omega)]; exact HS1.out, HT1.out⟩ | exact ⟨A, by rw [if_neg (by omega)], HS1.out, HT1.out⟩ | exact ⟨A, by rw [if_pos h0], HS1.out, HT1.out⟩
theorem quit_any (B b : Nat) (A : Na) (ln gs : List Int) (who : Int) (w : World) (hS : WSt B b A ln gs w) (hn : A.n ≤ 2097152) (hn' : A.n' ≤ 2097152) (hw : wfL ln) (hw' : wfL gs) (hx : (Lit.int .i64 who).wf = true) (hl : lineL ln = true) (hl' : lineL gs = true) :
    Calls Tryz.prog 134 #[.pointer (some ⟨b, 0, none⟩), .int .i64 who] w fun e w' => WOut B b w (.int .i64 (if turnL ln gs who = 3 then 3 else 0)) (lessL ln who) (lessL gs who) e w' :=
  quit_nd B b A ln gs who w hS hn hn' hw hw' hx (nodup_line hl) (nodup_line hl')
/-- A list apart from what a block of waiters holds. -/
def FarW (b : Nat) (A : Na) (a : Option Addr) (m : Nat) : Prop := Apart3 A.a A.n A.a' A.n' a m ∧ (m = 0 ∨ ∀ b' off, a = some ⟨b', off, none⟩ → b' ≠ b)
def WOutT (B b : Nat) (w : World) (ln gs out : List Int) (e : Ending) (w' : World) : Prop := ∃ A' a m c, e = .returned (.slice a m c) ∧ WSt B b A' ln gs w' ∧ Il.OwnAt B w' a m out ∧ FarW b A' a m ∧ WTo B b w w'
set_option maxHeartbeats 1000000 in
theorem letGo_nd (B b : Nat) (A : Na) (ln gs : List Int) (k : Int) (w : World) (hS : WSt B b A ln gs w) (hn : A.n ≤ 2097152) (hn' : A.n' ≤ 2097152) (hw : wfL ln) (hnd : ln.Nodup) (h32 : ln.length ≤ 32) (hk0 : 0 ≤ k) :
    Calls Tryz.prog 135 #[.pointer (some ⟨b, 0, none⟩), .int .i64 k] w fun e w' => WOutT B b w (ln.drop (wakeN ln k)) (gs ++ ln.take (wakeN ln k)) (ln.take (wakeN ln k)) e w' := by
  have c0 := hS.c0
  have HS := hidOf hS
  clear hS
  go_enter Tryz.func135, Tryz.ntmps135
  go_wp2_with fail
  refine (queueOf_any A.a A.n A.c ln _ (row_own HS.out.rows.one).1.ints hn hw).mono ?_
  rintro e u1 ⟨qb, rfl, hQ, hbq⟩
  have hwk := wake_any _ qb ln (wakeN ln k) u1 hQ hw hnd h32 (wakeN_le ln k hk0) k (by
    by_cases h : k > (ln.length : Int)
    · right; rw [wakeN_over h]; omega
    · left; rw [wakeN_in h]; omega)
  have hm2 := wakeN_le ln k hk0
  have HWk := hidOf hwk
  clear hwk hQ
  go_wp2_with fail
  refine HWk.out.mono ?_
  rintro e u2 ⟨a2, c2, rfl, ho2, hQ2, hbw⟩
  have hSt := standing_any _ qb ln (ln.take (wakeN ln k)) u2 hQ2 hw (by omega)
  rw [stand_rest hnd] at hSt
  have HSt := hidOf hSt
  have HO2 := hidOf ho2
  clear hSt hQ2 HWk ho2
  generalize hEq : wakeN ln k = m2 at *
  have HE := hidOf hEq
  clear hEq
  go_wp2_with fail
  refine HSt.out.mono ?_
  rintro e w1 ⟨v, rfl, ho, hb3⟩
  clear HSt
  generalize (ln.drop m2).length = m1 at ho
  obtain ⟨a1, c1, rfl, hO⟩ := own_of ho _ rfl
  have hb12 : Below w.heap.size w u2 := hbq.trans hbw
  have hAp : Apart w a1 m1 (ln.drop m2) a2 m2 (ln.take m2) w1 := by
    refine ⟨hO.mono hb12.size, (HO2.out.keep hb3).mono hbq.size, ?_, bl_trans hb12 hb3⟩
    rcases hO.own with h0 | ⟨b, off, rfl, hB, _⟩
    · exact .inl h0
    · rcases HO2.out.ints.row with h0 | ⟨b', off', rfl, hlt, _⟩
      · exact .inr (.inl h0)
      · refine .inr (.inr fun x ox y oy e e' => ?_)
        cases e; cases e'
        omega
  have hr1 := row_mono ho hb12.size
  have hne1 : ∀ q, (Value.slice a1 m1 c1).ownBlock = some q → m2 = 0 ∨ ∀ b off, a2 = some ⟨b, off, none⟩ → b ≠ q := fun q e => by
    have hq := (ho.lt q e).1
    rcases HO2.out.ints.row with h0 | ⟨b', off', rfl, hlt, _⟩
    · exact .inl h0
    · exact .inr fun b off e' => by cases e'; omega
  clear ho hO HO2
  have hb1 := hAp.below
  have hS1 := HS.out.keep hb1
  have hlt0 := HS.out.lt
  have hge0 := HS.out.ge
  have hS2 := hS1.line (row_mono hr1 (Nat.le_trans HS.out.ge (Nat.le_of_lt HS.out.lt))) (fun e => by have := (hr1.lt b e).1; omega) (fun q e e2 => by have h1 := (hr1.lt q e).1; have h2 := (HS.out.rows.two.lt q e2).2; omega)
  have hT2 := (HS.out.to hb1).set HS.out.ge 0 (by omega) (.slice a1 m1 c1)
  have d0 := hS1.c0
  have df := hS1.fr
  have hsp2 := own_span hAp.two
  have hO2 : Il.OwnAt w.heap.size (w1.setCell ⟨b, 0, none⟩ (.slice a1 m1 c1)) a2 m2 (ln.take m2) := by
    refine hAp.two.other (b := b) ⟨rfl, rfl, rfl, by simp, fun j _ hj => Below.heap_setCell _ _ _ _ (by rintro rfl; exact hj rfl)⟩ ?_
    exact hsp2.imp id fun h b' off' e => by have := h b' off' e; omega
  have hlo := hO2.ints.len
  have hob : (ln.take m2).length ≤ A.n := by
    rw [← HS.out.rows.len.1]
    simp; omega
  generalize hW2 : w1.setCell ⟨b, 0, none⟩ (.slice a1 m1 c1) = W2 at hS2 hT2 hO2
  have hsz2 : W2.heap.size = w1.heap.size := by subst hW2; simp
  have hsz1 := hb1.size
  obtain ⟨a3, c3, w3, hr, ho3, hg3, hl3⟩ := append_ownS B A.n' _ gs a2 m2 c2 (ln.take m2) W2 hS2.rows.two (by omega) hO2.ints (by omega)
  simp only at hl3 hg3
  have hltb : b < W2.heap.size := hS2.lt
  have hblk : w3.heap[b]? = W2.heap[b]? := hg3.block b hltb (fun e => HS.out.ne2 e.symm)
  have hne3 : (Value.slice a3 (A.n' + m2) c3).ownBlock ≠ some b := fun e => by
    rcases hl3 b e with h | h
    · exact HS.out.ne2 h
    · omega
  have e0 : W2.cell? ⟨b, 0, none⟩ = some (.slice a1 m1 c1) := hS2.c0
  have e1 : W2.cell? ⟨b, 1, none⟩ = some (.slice A.a' A.n' A.c') := hS2.c1
  have f0 : w3.cell? ⟨b, 0, none⟩ = some (.slice a1 m1 c1) := by rw [← e0]; exact World.cell?_of_block hblk
  have f1 : w3.cell? ⟨b, 1, none⟩ = some (.slice A.a' A.n' A.c') := by rw [← e1]; exact World.cell?_of_block hblk
  have ff : ∀ o, w3.frozen? ⟨b, o, none⟩ = false := fun o => by rw [← hS2.fr o]; exact World.frozen?_of_block hblk
  have hlt3 := hg3.size
  have hone3 := row_grown hS2.rows.one hg3 (fun q e e2 => hS2.rows.ne q e2 e)
  have hnn : ∀ q, (Value.slice a1 m1 c1).ownBlock = some q → (Value.slice a3 (A.n' + m2) c3).ownBlock ≠ some q := fun q e e3 => by
    rcases hl3 q e3 with h | h
    · exact hS2.rows.ne q e h
    · have := (hr1.lt q e).2; omega
  have hF : WSt B b ⟨a1, m1, c1, a3, A.n' + m2, c3⟩ (ln.drop m2) (gs ++ ln.take m2) (w3.setCell ⟨b, 1, none⟩ (.slice a3 (A.n' + m2) c3)) :=
    ⟨by simp; omega, hge0, by rw [World.cell?_setCell_other _ _ _ _ (by simp)]; exact f0, World.cell?_setCell_same _ _ _ f1, fun j => by simpa using ff j, ⟨row_set hone3 b 1 hS2.ne1 _, row_set ho3 b 1 hne3 _, hnn⟩, hS2.ne1, hne3⟩
  have hT3 : WTo B b w (w3.setCell ⟨b, 1, none⟩ (.slice a3 (A.n' + m2) c3)) :=
    (hT2.grown hg3 (by omega) hltb (fun q e => (hS2.rows.two.lt q e).1) HS.out.ne2).set hge0 1 (by omega) _
  have hneq2 : m2 = 0 ∨ ∀ b' off', a2 = some ⟨b', off', none⟩ → (Value.slice A.a' A.n' A.c').ownBlock ≠ some b' ∧ b' ≠ b := hsp2.imp id fun h b' off' e => by
    have h1 := h b' off' e
    exact ⟨fun e2 => by have h2 := (HS.out.rows.two.lt _ e2).2; omega, by omega⟩
  have hO3 : Il.OwnAt B (w3.setCell ⟨b, 1, none⟩ (.slice a3 (A.n' + m2) c3)) a2 m2 (ln.take m2) := by
    have hO3a : Il.OwnAt w.heap.size w3 a2 m2 (ln.take m2) := by
      rcases Nat.eq_zero_or_pos m2 with h0 | hp
      · exact ⟨⟨hO2.ints.len, .inl h0⟩, .inl h0⟩
      · cases hg : (Value.slice A.a' A.n' A.c').ownBlock with
        | none =>
          rw [hg] at hg3
          refine hO2.keep ⟨hg3.os, hg3.tape, hg3.output, hg3.size, fun j hj => hg3.block j hj (by simp)⟩
        | some q =>
          rw [hg] at hg3
          refine hO2.other hg3 ?_
          rcases hneq2 with h0 | h
          · exact .inl h0
          · exact .inr fun b' off' e hq => (h b' off' e).1 (by rw [hg, hq])
    refine (hO3a.mono (by omega)).other (b := b) ⟨rfl, rfl, rfl, by simp, fun j _ hj => Below.heap_setCell _ _ _ _ (by rintro rfl; exact hj rfl)⟩ ?_
    exact hneq2.imp id fun h b' off' e => ((h b' off' e).2).symm
  have hFar : FarW b ⟨a1, m1, c1, a3, A.n' + m2, c3⟩ a2 m2 := by
    rcases Nat.eq_zero_or_pos m2 with h0 | hp
    · exact ⟨.inl h0, .inl h0⟩
    · refine ⟨.inr fun b3 off3 e3 => ⟨?_, ?_⟩, hneq2.imp id fun h b' off' e => (h b' off' e).2⟩
      · refine .inr fun b' off' e' hbb => ?_
        simp only at e'
        rcases hne1 b' (by rw [e']; rfl) with h | h
        · omega
        · exact h b3 off3 e3 hbb
      · refine .inr fun b' off' e' hbb => ?_
        simp only at e'
        rcases hl3 b' (by rw [e']; rfl) with h | h
        · rcases hneq2 with h0 | h2
          · omega
          · exact (h2 b3 off3 e3).1 (by rw [h, hbb])
        · rcases hsp2 with h0 | h2
          · omega
          · have := h2 b3 off3 e3
            omega
  have HF := hidOf hF
  have HT := hidOf hT3
  have HO := hidOf hO3
  have HFar := hidOf hFar
  have Hr := hidOf hr
  clear hF hT3 hO3 hFar hr hS1 hS2 hT2 hO2 hAp hr1 hne1 hone3 hnn hneq2 ho3 hg3 hl3 hblk hne3 hsp2 c0 HS hob hlo f0 e0
  subst hW2
  go_wp2_with (at_builtin; refine wpList_append_run rfl _ _ 26 rfl _ _ _ rfl rfl Hr.out ?_)
  go_ret
  have hE := HE.out
  subst hE
  exact ⟨_, _, _, _, rfl, HF.out, HO.out, HFar.out, HT.out⟩
theorem letGo_any (B b : Nat) (A : Na) (ln gs : List Int) (k : Int) (w : World) (hS : WSt B b A ln gs w) (hn : A.n ≤ 2097152) (hn' : A.n' ≤ 2097152) (hw : wfL ln) (hl : lineL ln = true) (hk0 : 0 ≤ k) :
    Calls Tryz.prog 135 #[.pointer (some ⟨b, 0, none⟩), .int .i64 k] w fun e w' => WOutT B b w (wakeRest ln k) (gs ++ wakeOut ln k) (wakeOut ln k) e w' := by
  have h := letGo_nd B b A ln gs k w hS hn hn' hw (nodup_line hl) (line_len hl) hk0
  have e := wake_good hl hk0
  rw [e.1, e.2]
  exact h
end Go.Proofs.YtihdglmiecifjaaGreat
