/-
  The program's waiters behind a pointer: who goes on, who quits, who is let go.
  The program's copies: subscribers.
-/
import Derived.Test.YtekjdjcledohmaaGreatZFnExactSubscribe21
import Derived.RegionTactic
import Derived.ChangeAlike
import Derived.Test.YtekjdjcledohmaaGreatZFnExactSubscribe18
import Derived.Laws.OwnMore
namespace Go.Proofs.YtekjdjcledohmaaGreat
open Go.RowKit Go.Maps Pl Il

/-- Who is in neither list. -/
theorem turn_cases (ln gs : List Int) (who : Int) : (turnL ln gs who = 4 ∧ hasL ln who = true) ∨ (turnL ln gs who = 0 ∧ hasL ln who = false ∧ hasL gs who = true) ∨ (turnL ln gs who = 3 ∧ hasL ln who = false ∧ hasL gs who = false) := by
  unfold turnL
  cases h1 : hasL ln who <;> cases h2 : hasL gs who <;> simp
/-- A number is answered, and the lists are others. -/
def WOut (B b : Nat) (w : World) (v : Value) (ln gs : List Int) (e : Ending) (w' : World) : Prop := ∃ A', e = .returned v ∧ WSt B b A' ln gs w' ∧ WTo B b w w'
theorem pass_nd (B b : Nat) (A : Na) (ln gs : List Int) (who : Int) (w : World) (hS : WSt B b A ln gs w) (hn : A.n ≤ 2097152) (hn' : A.n' ≤ 2097152) (hw : wfL ln) (hw' : wfL gs) (hx : (Lit.int .i64 who).wf = true) (hl : ln.Nodup) (hl' : gs.Nodup) :
    Calls Tryz.prog 90 #[.pointer (some ⟨b, 0, none⟩), .int .i64 who] w fun e w' => WOut B b w (.int .i64 (turnL ln gs who)) ln (if turnL ln gs who = 0 then lessL gs who else gs) e w' := by
  have HS := hidOf hS
  clear hS
  go_enter Tryz.func90, Tryz.ntmps90
  go_wp2_with fail
  refine (turnOf_any B b A ln gs who w HS.out hn hn' hw hw' hx).mono ?_
  rintro e w1 ⟨rfl, hb1⟩
  have hS1 := HS.out.keep hb1
  have hT1 := HS.out.to hb1
  have HS1 := hidOf hS1
  have HT1 := hidOf hT1
  clear hS1 hT1 HS
  rcases turn_cases ln gs who with ⟨h0, h1⟩ | ⟨h0, h1, h2⟩ | ⟨h0, h1, h2⟩
  · rw [h0]
    go_wp2
    go_ret
    first | exact ⟨A, rfl, HS1.out, HT1.out⟩ | (rw [h0]; exact ⟨A, rfl, HS1.out, HT1.out⟩) | (rw [if_neg (by omega)]; exact ⟨A, rfl, HS1.out, HT1.out⟩) | (rw [if_pos h0]; exact ⟨A, rfl, HS1.out, HT1.out⟩) | exact ⟨A, by rw [h0], by rw [if_pos h0]; exact HS1.out, HT1.out⟩ | exact ⟨A, by rw [h0], by rw [if_neg (by omega)]; exact HS1.out, HT1.out⟩ | exact ⟨A, by rw [if_neg (by omega)], HS1.out, HT1.out⟩ | exact ⟨A, by rw [if_pos h0], HS1.out, HT1.out⟩
  · rw [h0]
    go_wp2_with fail
    refine (remove_nd B b A ln gs who w1 HS1.out hn hn' hw hw' hx hl hl').mono ?_
    rintro e w2 ⟨A', rfl, hS2, hT2⟩
    have e1 : lessL ln who = ln := List.erase_of_not_mem (by simpa [hasL] using h1)
    rw [e1] at hS2
    have HS2 := hidOf hS2
    have HT2 := hidOf (HT1.out.trans hT2)
    clear hS2 hT2
    go_wp2
    go_ret
    first | exact ⟨A', rfl, HS2.out, HT2.out⟩ | (rw [h0]; exact ⟨A', rfl, HS2.out, HT2.out⟩) | (rw [if_neg (by omega)]; exact ⟨A', rfl, HS2.out, HT2.out⟩) | (rw [if_pos h0]; exact ⟨A', rfl, HS2.out, HT2.out⟩) | exact ⟨A', by rw [h0], by rw [if_pos h0]; exact HS2.out, HT2.out⟩ | exact ⟨A', by rw [h0], by rw [if_neg (by omega)]; exact HS2.out, HT2.out⟩ | exact ⟨A', by rw [if_neg (by omega)], HS2.out, HT2.out⟩ | exact ⟨A', by rw [if_pos h0], HS2.out, HT2.out⟩
  · rw [h0]
    go_wp2
    go_ret
    first | exact ⟨A, rfl, HS1.out, HT1.out⟩ | (rw [h0]; exact ⟨A, rfl, HS1.out, HT1.out⟩) | (rw [if_neg (by omega)]; exact ⟨A, rfl, HS1.out, HT1.out⟩) | (rw [if_pos h0]; exact ⟨A, rfl, HS1.out, HT1.out⟩) | exact ⟨A, by rw [h0], by rw [if_pos h0]; exact HS1.out, HT1.out⟩ | exact ⟨A, by rw [h0], by rw [if_neg (by omega)]; exact HS1.out, HT1.out⟩ | exact ⟨A, by rw [if_neg (by omega)], HS1.out, HT1.out⟩ | exact ⟨A, by rw [if_pos h0], HS1.out, HT1.out⟩
theorem pass_any (B b : Nat) (A : Na) (ln gs : List Int) (who : Int) (w : World) (hS : WSt B b A ln gs w) (hn : A.n ≤ 2097152) (hn' : A.n' ≤ 2097152) (hw : wfL ln) (hw' : wfL gs) (hx : (Lit.int .i64 who).wf = true) (hl : lineL ln = true) (hl' : lineL gs = true) :
    Calls Tryz.prog 90 #[.pointer (some ⟨b, 0, none⟩), .int .i64 who] w fun e w' => WOut B b w (.int .i64 (turnL ln gs who)) ln (if turnL ln gs who = 0 then lessL gs who else gs) e w' :=
  pass_nd B b A ln gs who w hS hn hn' hw hw' hx (nodup_line hl) (nodup_line hl')
/-- A list apart from what a block of waiters holds. -/
def FarW (b : Nat) (A : Na) (a : Option Addr) (m : Nat) : Prop := Apart3 A.a A.n A.a' A.n' a m ∧ (m = 0 ∨ ∀ b' off, a = some ⟨b', off, none⟩ → b' ≠ b)
def WOutT (B b : Nat) (w : World) (ln gs out : List Int) (e : Ending) (w' : World) : Prop := ∃ A' a m c, e = .returned (.slice a m c) ∧ WSt B b A' ln gs w' ∧ Il.OwnAt B w' a m out ∧ FarW b A' a m ∧ WTo B b w w'
set_option maxHeartbeats 1000000 in
theorem letGo_nd (B b : Nat) (A : Na) (ln gs : List Int) (k : Int) (w : World) (hS : WSt B b A ln gs w) (hn : A.n ≤ 2097152) (hn' : A.n' ≤ 2097152) (hw : wfL ln) (hnd : ln.Nodup) (h32 : ln.length ≤ 32) (hk0 : 0 ≤ k) :
    Calls Tryz.prog 91 #[.pointer (some ⟨b, 0, none⟩), .int .i64 k] w fun e w' => WOutT B b w (ln.drop (wakeN ln k)) (gs ++ ln.take (wakeN ln k)) (ln.take (wakeN ln k)) e w' := by
  have c0 := hS.c0
  have HS := hidOf hS
  clear hS
  go_enter Tryz.func91, Tryz.ntmps91
  go_wp2_with fail
  refine (queueOf_any A.a A.n A.c ln _ (row_own HS.out.rows.one).1.ints hn hw).mono ?_
  rintro e u1 ⟨qb, rfl, hQ, hbq⟩
  have hwk := wake_any _ qb ln (wakeN ln k) u1 hQ hw hnd h32 (wakeN_le ln k hk0) k (by
    by_cases h : k > (ln.length : Int)
    · right; rw [wakeN_over h]; omega
    · left; rw [wakeN_in h]; omega)
  have hm2 := wakeN_le ln k hk0
  have HWk := hidOf hwk
  clear hwk hQ
  go_wp2_with fail
  refine HWk.out.mono ?_
  rintro e u2 ⟨a2, c2, rfl, ho2, hQ2, hbw⟩
  have hSt := standing_any _ qb ln (ln.take (wakeN ln k)) u2 hQ2 hw (by omega)
  rw [stand_rest hnd] at hSt
  have HSt := hidOf hSt
  have HO2 := hidOf ho2
  clear hSt hQ2 HWk ho2
  generalize hEq : wakeN ln k = m2 at *
  have HE := hidOf hEq
  clear hEq
  go_wp2_with fail
  refine HSt.out.mono ?_
  rintro e w1 ⟨v, rfl, ho, hb3⟩
  clear HSt
  generalize (ln.drop m2).length = m1 at ho
  obtain ⟨a1, c1, rfl, hO⟩ := own_of ho _ rfl
  have hb12 : Below w.heap.size w u2 := hbq.trans hbw
  have hAp : Apart w a1 m1 (ln.drop m2) a2 m2 (ln.take m2) w1 := by
    refine ⟨hO.mono hb12.size, (HO2.out.keep hb3).mono hbq.size, ?_, bl_trans hb12 hb3⟩
    rcases hO.own with h0 | ⟨b, off, rfl, hB, _⟩
    · exact .inl h0
    · rcases HO2.out.ints.row with h0 | ⟨b', off', rfl, hlt, _⟩
      · exact .inr (.inl h0)
      · refine .inr (.inr fun x ox y oy e e' => ?_)
        cases e; cases e'
        omega
  have hr1 := row_mono ho hb12.size
  have hne1 : ∀ q, (Value.slice a1 m1 c1).ownBlock = some q → m2 = 0 ∨ ∀ b off, a2 = some ⟨b, off, none⟩ → b ≠ q := fun q e => by
    have hq := (ho.lt q e).1
    rcases HO2.out.ints.row with h0 | ⟨b', off', rfl, hlt, _⟩
    · exact .inl h0
    · exact .inr fun b off e' => by cases e'; omega
  clear ho hO HO2
  have hb1 := hAp.below
  have hS1 := HS.out.keep hb1
  have hlt0 := HS.out.lt
  have hge0 := HS.out.ge
  have hS2 := hS1.line (row_mono hr1 (Nat.le_trans HS.out.ge (Nat.le_of_lt HS.out.lt))) (fun e => by have := (hr1.lt b e).1; omega) (fun q e e2 => by have h1 := (hr1.lt q e).1; have h2 := (HS.out.rows.two.lt q e2).2; omega)
  have hT2 := (HS.out.to hb1).set HS.out.ge 0 (by omega) (.slice a1 m1 c1)
  have d0 := hS1.c0
  have df := hS1.fr
  have hsp2 := own_span hAp.two
  have hO2 : Il.OwnAt w.heap.size (w1.setCell ⟨b, 0, none⟩ (.slice a1 m1 c1)) a2 m2 (ln.take m2) := by
    refine hAp.two.other (b := b) ⟨rfl, rfl, rfl, by simp, fun j _ hj => Below.heap_setCell _ _ _ _ (by rintro rfl; exact hj rfl)⟩ ?_
    exact hsp2.imp id fun h b' off' e => by have := h b' off' e; omega
  have hlo := hO2.ints.len
  have hob : (ln.take m2).length ≤ A.n := by
    rw [← HS.out.rows.len.1]
    simp; omega
  generalize hW2 : w1.setCell ⟨b, 0, none⟩ (.slice a1 m1 c1) = W2 at hS2 hT2 hO2
  have hsz2 : W2.heap.size = w1.heap.size := by subst hW2; simp
  have hsz1 := hb1.size
  obtain ⟨a3, c3, w3, hr, ho3, hg3, hl3⟩ := append_ownS B A.n' _ gs a2 m2 c2 (ln.take m2) W2 hS2.rows.two (by omega) hO2.ints (by omega)
  simp only at hl3 hg3
  have hltb : b < W2.heap.size := hS2.lt
  have hblk : w3.heap[b]? = W2.heap[b]? := hg3.block b hltb (fun e => HS.out.ne2 e.symm)
  have hne3 : (Value.slice a3 (A.n' + m2) c3).ownBlock ≠ some b := fun e => by
    rcases hl3 b e with h | h
    · exact HS.out.ne2 h
    · omega
  have e0 : W2.cell? ⟨b, 0, none⟩ = some (.slice a1 m1 c1) := hS2.c0
  have e1 : W2.cell? ⟨b, 1, none⟩ = some (.slice A.a' A.n' A.c') := hS2.c1
  have f0 : w3.cell? ⟨b, 0, none⟩ = some (.slice a1 m1 c1) := by rw [← e0]; exact World.cell?_of_block hblk
  have f1 : w3.cell? ⟨b, 1, none⟩ = some (.slice A.a' A.n' A.c') := by rw [← e1]; exact World.cell?_of_block hblk
  have ff : ∀ o, w3.frozen? ⟨b, o, none⟩ = false := fun o => by rw [← hS2.fr o]; exact World.frozen?_of_block hblk
  have hlt3 := hg3.size
  have hone3 := row_grown hS2.rows.one hg3 (fun q e e2 => hS2.rows.ne q e2 e)
  have hnn : ∀ q, (Value.slice a1 m1 c1).ownBlock = some q → (Value.slice a3 (A.n' + m2) c3).ownBlock ≠ some q := fun q e e3 => by
    rcases hl3 q e3 with h | h
    · exact hS2.rows.ne q e h
    · have := (hr1.lt q e).2; omega
  have hF : WSt B b ⟨a1, m1, c1, a3, A.n' + m2, c3⟩ (ln.drop m2) (gs ++ ln.take m2) (w3.setCell ⟨b, 1, none⟩ (.slice a3 (A.n' + m2) c3)) :=
    ⟨by simp; omega, hge0, by rw [World.cell?_setCell_other _ _ _ _ (by simp)]; exact f0, World.cell?_setCell_same _ _ _ f1, fun j => by simpa using ff j, ⟨row_set hone3 b 1 hS2.ne1 _, row_set ho3 b 1 hne3 _, hnn⟩, hS2.ne1, hne3⟩
  have hT3 : WTo B b w (w3.setCell ⟨b, 1, none⟩ (.slice a3 (A.n' + m2) c3)) :=
    (hT2.grown hg3 (by omega) hltb (fun q e => (hS2.rows.two.lt q e).1) HS.out.ne2).set hge0 1 (by omega) _
  have hneq2 : m2 = 0 ∨ ∀ b' off', a2 = some ⟨b', off', none⟩ → (Value.slice A.a' A.n' A.c').ownBlock ≠ some b' ∧ b' ≠ b := hsp2.imp id fun h b' off' e => by
    have h1 := h b' off' e
    exact ⟨fun e2 => by have h2 := (HS.out.rows.two.lt _ e2).2; omega, by omega⟩
  have hO3 : Il.OwnAt B (w3.setCell ⟨b, 1, none⟩ (.slice a3 (A.n' + m2) c3)) a2 m2 (ln.take m2) := by
    have hO3a : Il.OwnAt w.heap.size w3 a2 m2 (ln.take m2) := by
      rcases Nat.eq_zero_or_pos m2 with h0 | hp
      · exact ⟨⟨hO2.ints.len, .inl h0⟩, .inl h0⟩
      · cases hg : (Value.slice A.a' A.n' A.c').ownBlock with
        | none =>
          rw [hg] at hg3
          refine hO2.keep ⟨hg3.os, hg3.tape, hg3.output, hg3.size, fun j hj => hg3.block j hj (by simp)⟩
        | some q =>
          rw [hg] at hg3
          refine hO2.other hg3 ?_
          rcases hneq2 with h0 | h
          · exact .inl h0
          · exact .inr fun b' off' e hq => (h b' off' e).1 (by rw [hg, hq])
    refine (hO3a.mono (by omega)).other (b := b) ⟨rfl, rfl, rfl, by simp, fun j _ hj => Below.heap_setCell _ _ _ _ (by rintro rfl; exact hj rfl)⟩ ?_
    exact hneq2.imp id fun h b' off' e => ((h b' off' e).2).symm
  have hFar : FarW b ⟨a1, m1, c1, a3, A.n' + m2, c3⟩ a2 m2 := by
    rcases Nat.eq_zero_or_pos m2 with h0 | hp
    · exact ⟨.inl h0, .inl h0⟩
    · refine ⟨.inr fun b3 off3 e3 => ⟨?_, ?_⟩, hneq2.imp id fun h b' off' e => (h b' off' e).2⟩
      · refine .inr fun b' off' e' hbb => ?_
        simp only at e'
        rcases hne1 b' (by rw [e']; rfl) with h | h
        · omega
        · exact h b3 off3 e3 hbb
      · refine .inr fun b' off' e' hbb => ?_
        simp only at e'
        rcases hl3 b' (by rw [e']; rfl) with h | h
        · rcases hneq2 with h0 | h2
          · omega
          · exact (h2 b3 off3 e3).1 (by rw [h, hbb])
        · rcases hsp2 with h0 | h2
          · omega
          · have := h2 b3 off3 e3
            omega
  have HF := hidOf hF
  have HT := hidOf hT3
  have HO := hidOf hO3
  have HFar := hidOf hFar
  have Hr := hidOf hr
  clear hF hT3 hO3 hFar hr hS1 hS2 hT2 hO2 hAp hr1 hne1 hone3 hnn hneq2 ho3 hg3 hl3 hblk hne3 hsp2 c0 HS hob hlo f0 e0
  subst hW2
  go_wp2_with (at_builtin; refine wpList_append_run rfl _ _ 24 rfl _ _ _ rfl rfl Hr.out ?_)
  go_ret
  have hE := HE.out
  subst hE
  exact ⟨_, _, _, _, rfl, HF.out, HO.out, HFar.out, HT.out⟩
theorem letGo_any (B b : Nat) (A : Na) (ln gs : List Int) (k : Int) (w : World) (hS : WSt B b A ln gs w) (hn : A.n ≤ 2097152) (hn' : A.n' ≤ 2097152) (hw : wfL ln) (hl : lineL ln = true) (hk0 : 0 ≤ k) :
    Calls Tryz.prog 91 #[.pointer (some ⟨b, 0, none⟩), .int .i64 k] w fun e w' => WOutT B b w (wakeRest ln k) (gs ++ wakeOut ln k) (wakeOut ln k) e w' := by
  have h := letGo_nd B b A ln gs k w hS hn hn' hw (nodup_line hl) (line_len hl) hk0
  have e := wake_good hl hk0
  rw [e.1, e.2]
  exact h
end Go.Proofs.YtekjdjcledohmaaGreat
namespace Go.Proofs.YtekjdjcledohmaaGreat
open Go.RowKit Pl Il

theorem copiedS_any (a : Option Addr) (n cap : Nat) (xs : List Sa) (w : World) (hI : SubAt w a n xs) (hn : n ≤ 2097152) :
    Calls Tryz.prog 135 #[.slice a n cap] w fun e w' => ∃ a' c', e = .returned (.slice a' n c') ∧ w'.ownsRow w.heap.size 80 7 (.slice a' n c') n (sflat xs) ∧ Below w.heap.size w w' := by
  obtain ⟨a', c', w', hr, ho, hg, _⟩ := append_subR w.heap.size 0 (.slice none 0 0) [] a n cap xs w (World.ownsRow_nil _ _ _ _) (Nat.le_refl _) hI (by omega)
  rw [Nat.zero_add] at hr ho
  rw [List.nil_append] at ho
  have hb : Below w.heap.size w w' := (Below.refl _ _).grown hg (Nat.le_refl _) (fun k hk => by cases hk)
  have Hr := hidOf hr
  have HO := hidOf ho
  clear hr ho hI hg
  go_enter Tryz.func135, Tryz.ntmps135
  go_wp2_with (at_builtin; refine wpList_append_run rfl _ _ 32 rfl _ _ _ rfl rfl Hr.out ?_)
  go_ret
  exact ⟨_, _, rfl, HO.out, hb⟩
theorem copiedM_any (a : Option Addr) (n cap : Nat) (ts : List Tm) (w : World) (hI : TmAt w a n ts) (hn : n ≤ 2097152) :
    Calls Tryz.prog 106 #[.slice a n cap] w fun e w' => ∃ a' c', e = .returned (.slice a' n c') ∧ w'.ownsRow w.heap.size 38 3 (.slice a' n c') n (qflat ts) ∧ Below w.heap.size w w' := by
  obtain ⟨a', c', w', hr, ho, hg, _⟩ := append_msgR w.heap.size 0 (.slice none 0 0) [] a n cap ts w (World.ownsRow_nil _ _ _ _) (Nat.le_refl _) hI (by omega)
  rw [Nat.zero_add] at hr ho
  rw [List.nil_append] at ho
  have hb : Below w.heap.size w w' := (Below.refl _ _).grown hg (Nat.le_refl _) (fun k hk => by cases hk)
  have Hr := hidOf hr
  have HO := hidOf ho
  clear hr ho hI hg
  go_enter Tryz.func106, Tryz.ntmps106
  go_wp2_with (at_builtin; refine wpList_append_run rfl _ _ 31 rfl _ _ _ rfl rfl Hr.out ?_)
  go_ret
  exact ⟨_, _, rfl, HO.out, hb⟩
theorem sflat_cons (x : Sa) (l : List Sa) : sflat (x :: l) = sC x ++ sflat l := by simp [sflat]
theorem sflat_set : ∀ (ys : List Sa) (k : Nat) (a : Option Addr) (n c : Nat), k < ys.length → (sflat ys).set (k * 7 + 6) (.slice a n c) = sflat (ys.set k ⟨(sg ys k).s, a, n, c⟩)
  | [], k, _, _, _, h => by simp at h
  | y :: l, 0, a, n, c, _ => by
    rw [sflat_cons, List.set_append_left _ _ (by simp), List.set_cons_zero, sflat_cons]
    rfl
  | y :: l, k + 1, a, n, c, h => by
    have hc : (sC y).length = 7 := rfl
    rw [sflat_cons, List.set_append_right _ _ (by rw [hc]; omega), hc, show (k + 1) * 7 + 6 - 7 = k * 7 + 6 by omega, sflat_set l k a n c (by simpa using h), List.set_cons_succ, sflat_cons]
    rfl
/-- Subscribers that a call has made: a row, and a row for each filter, all apart. -/
structure SRow (B : Nat) (w : World) (a : Option Addr) (n c : Nat) (ys : List Sa) : Prop where
  sb : w.ownsRow B 80 7 (.slice a n c) n (sflat ys)
  fl : ∀ x, x ∈ ys → w.ownsRow B 97 3 (.slice x.a x.n x.c) x.n (qflat x.s.fl)
  fls : ∀ x, x ∈ ys → ∀ p, p ∈ x.s.fl → p.2.2.size ≤ maxLen
  apt : Apt ((Value.slice a n c).ownBlock :: ys.map fun x => (Value.slice x.a x.n x.c).ownBlock)
/-- The first k filters are copied. -/
structure CsT (w : World) (g n c k : Nat) (xs ys : List Sa) (u : World) : Prop where
  len : ys.length = n
  sb : u.ownsRow w.heap.size 80 7 (.slice (some ⟨g, 0, none⟩) n c) n (sflat ys)
  same : ∀ i, i < n → (sg ys i).s = (sg xs i).s ∧ (sg ys i).n = (sg xs i).n
  rest : ∀ i, i < n → k ≤ i → sg ys i = sg xs i
  fl : ∀ i, i < k → u.ownsRow w.heap.size 97 3 (.slice (sg ys i).a (sg ys i).n (sg ys i).c) (sg ys i).n (qflat (sg ys i).s.fl)
  ne : ∀ i, i < k → (Value.slice (sg ys i).a (sg ys i).n (sg ys i).c).ownBlock ≠ some g
  ap : ∀ i j, i < j → j < k → ∀ b, (Value.slice (sg ys i).a (sg ys i).n (sg ys i).c).ownBlock = some b → (Value.slice (sg ys j).a (sg ys j).n (sg ys j).c).ownBlock ≠ some b
  below : Below w.heap.size w u
theorem sg_set_same {ys : List Sa} {k : Nat} {x : Sa} (h : k < ys.length) : sg (ys.set k x) k = x := by rw [sg_eq (by simpa using h)]; simp
theorem sg_set_ne {ys : List Sa} {k i : Nat} {x : Sa} (h : i ≠ k) : sg (ys.set k x) i = sg ys i := by
  unfold sg
  rw [List.getD_eq_getElem?_getD, List.getD_eq_getElem?_getD, List.getElem?_set_ne (fun e => h e.symm)]
/-- One more. -/
theorem CsT.step {w : World} {g n c k : Nat} {xs ys : List Sa} {u u' : World} {a6 : Option Addr} {c6 : Nat} (h : CsT w g n c k xs ys u) (hk : k < n) (ho : u'.ownsRow u.heap.size 97 3 (.slice a6 (sg xs k).n c6) (sg xs k).n (qflat (sg xs k).s.fl)) (hb : Below u.heap.size u u') :
    CsT w g n c (k + 1) xs (ys.set k ⟨(sg ys k).s, a6, (sg xs k).n, c6⟩) (u'.setCell ⟨g, k * 7 + 6, none⟩ (.slice a6 (sg xs k).n c6)) := by
  have hky : k < ys.length := by rw [h.len]; exact hk
  have hg := row_lt h.sb (q := g) rfl
  have st := (ownsRow_keep h.sb hb).stored (k * 7 + 6) (.slice a6 (sg xs k).n c6)
  rw [sflat_set _ _ _ _ _ hky] at st
  have nb : ∀ q, (Value.slice a6 (sg xs k).n c6).ownBlock = some q → u.heap.size ≤ q := fun q e => (row_lt ho e).1
  have hs : u.heap.size ≤ u'.heap.size := hb.size
  have gs := grown_setC u' g (k * 7 + 6) (.slice a6 (sg xs k).n c6)
  refine ⟨by simpa using h.len, st.1, fun i hi => ?_, fun i hi hki => ?_, fun i hi => ?_, fun i hi => ?_, fun i j hij hj => ?_, bl_setB (bl_trans h.below hb) _ _ hg.1 _⟩
  · by_cases e : i = k
    · subst e
      rw [sg_set_same hky]
      exact ⟨(h.same i hi).1, rfl⟩
    · rw [sg_set_ne e]
      exact h.same i hi
  · rw [sg_set_ne (by omega)]
    exact h.rest i hi (by omega)
  · by_cases e : i = k
    · subst e
      rw [sg_set_same hky]
      have := (h.same i hk).1
      simp only
      rw [this]
      exact rowG (rowM ho h.below.size) gs (fun q e1 e2 => by injection e1 with e1; have := nb q e2; omega)
    · rw [sg_set_ne e]
      exact rowG (ownsRow_keep (h.fl i (by omega)) hb) gs (fun q e1 e2 => by injection e1 with e1; exact h.ne i (by omega) (by rw [e2, e1]))
  · by_cases e : i = k
    · subst e
      rw [sg_set_same hky]
      intro e2
      have := nb g e2
      omega
    · rw [sg_set_ne e]
      exact h.ne i (by omega)
  · by_cases e : j = k
    · subst e
      rw [sg_set_same hky, sg_set_ne (by omega)]
      intro b e1 e2
      have h1 := (row_lt (h.fl i hij) e1).2
      have h2 := nb b e2
      omega
    · rw [sg_set_ne e, sg_set_ne (by omega)]
      exact h.ap i j hij (by omega)
theorem CsT.done {w : World} {g n c : Nat} {xs ys : List Sa} {u : World} (h : CsT w g n c n xs ys u) (hl : xs.length = n) (hfs : ∀ x, x ∈ xs → ∀ p, p ∈ x.s.fl → p.2.2.size ≤ maxLen) : SRow w.heap.size u (some ⟨g, 0, none⟩) n c ys ∧ svs ys = svs xs ∧ ∀ y, y ∈ ys → ∃ x, x ∈ xs ∧ y.n = x.n := by
  have mem : ∀ y, y ∈ ys → ∃ i, i < n ∧ y = sg ys i := fun y hy => by
    obtain ⟨i, hi, rfl⟩ := List.getElem_of_mem hy
    exact ⟨i, by rw [← h.len]; exact hi, (sg_eq hi).symm⟩
  refine ⟨⟨h.sb, fun y hy => ?_, fun y hy => ?_, ?_⟩, ?_, fun y hy => ?_⟩
  · obtain ⟨i, hi, rfl⟩ := mem y hy
    exact h.fl i hi
  · obtain ⟨i, hi, rfl⟩ := mem y hy
    rw [(h.same i hi).1]
    exact hfs _ (sg_mem (by omega))
  · unfold Apt
    rw [List.pairwise_cons]
    refine ⟨fun p hp b e => ?_, ?_⟩
    · obtain ⟨y, hy, rfl⟩ := List.mem_map.1 hp
      obtain ⟨i, hi, rfl⟩ := mem y hy
      have e' : g = b := by simpa [Value.ownBlock] using e
      rw [← e']
      exact h.ne i hi
    · rw [List.pairwise_map, List.pairwise_iff_getElem]
      intro i j hi hj hij
      rw [← sg_eq hi, ← sg_eq hj]
      exact h.ap i j hij (by rw [← h.len]; exact hj)
  · refine List.ext_getElem (by simp [svs, h.len, hl]) fun i h1 h2 => ?_
    have hi : i < n := by simpa [svs, h.len] using h1
    have e1 : i < ys.length := by rw [h.len]; exact hi
    have e2 : i < xs.length := by omega
    simp only [svs, List.getElem_map]
    rw [← sg_eq e1, ← sg_eq e2]
    exact (h.same i hi).1
  · obtain ⟨i, hi, rfl⟩ := mem y hy
    exact ⟨sg xs i, sg_mem (by omega), (h.same i hi).2⟩
/-- Subscribers were copied. -/
def CsP (w : World) (n : Nat) (xs : List Sa) (e : Ending) (w' : World) : Prop := ∃ a' c' ys, e = .returned (.slice a' n c') ∧ SRow w.heap.size w' a' n c' ys ∧ svs ys = svs xs ∧ (∀ y, y ∈ ys → ∃ x, x ∈ xs ∧ y.n = x.n) ∧ Below w.heap.size w w'
set_option maxRecDepth 100000 in
set_option maxHeartbeats 4000000 in
theorem copiedSubs_any (a : Option Addr) (n cap : Nat) (xs : List Sa) (w : World) (hI : SubAt w a n xs) (hn : n ≤ 2097152) (hf : ∀ x, x ∈ xs → x.n ≤ 2097152) :
    Calls Tryz.prog 107 #[.slice a n cap] w fun e w' => CsP w n xs e w' := by
  have HC := hidOf (copiedS_any a n cap xs w hI hn)
  have HI := hidOf hI
  have HF := hidOf hf
  clear hI hf
  go_enter Tryz.func107, Tryz.ntmps107
  go_wp2_with fail
  refine (HC.out).mono ?_
  rintro e w1 ⟨a', c', rfl, ho, hb⟩
  have HO := hidOf ho
  have HB := hidOf hb
  have hl := HI.out.len
  have HL := hidOf hl
  clear HC ho hb hl
  rcases Nat.eq_zero_or_pos n with h0 | hpos
  · subst h0
    have hx : xs = [] := List.length_eq_zero_iff.1 HL.out
    subst hx
    go_wp2_with fail
    go_loop [9] (fun i => i = .int .i64 0) (fun _ => 0)
    case atStart => rfl
    case round =>
      subst hrel
      go_wp2
      go_ret
      exact ⟨_, _, [], rfl, ⟨HO.out, fun x hx => (by cases hx), fun x hx => (by cases hx), by simp [Apt]⟩, rfl, fun y hy => (by cases hy), HB.out⟩
  obtain ⟨_, _, hr | ⟨g, rfl, _⟩⟩ := rowS HO.out
  · omega
  have HS := hidOf (show CsT w g n c' 0 xs xs w1 from ⟨HL.out, HO.out, fun i _ => ⟨rfl, rfl⟩, fun i _ _ => rfl, fun i hi => (by omega), fun i hi => (by omega), fun i j _ hj => (by omega), HB.out⟩)
  go_wp2_with fail
  go_loopw [9] (fun i wr => ∃ (k : Nat) (ys : List Sa), k ≤ n ∧ i = .int .i64 k ∧ CsT w g n c' k xs ys wr) (fun i _ => n - (intOf i).toNat)
  case atStart => exact ⟨0, xs, Nat.zero_le _, rfl, HS.out⟩
  case round =>
    rename World => wr
    obtain ⟨k, ys, hk, rfl, hS⟩ := hrel
    clear HS
    by_cases hlt : k < n
    · obtain ⟨_, _, hr | ⟨g', e, _, hgl, hfr, hcell⟩⟩ := rowS hS.sb
      · omega
      cases e
      have c6 := (hcell k hlt).c6
      rw [hS.rest k hlt (Nat.le_refl _)] at c6
      rw [Nat.zero_add] at c6
      have hkl : k < xs.length := by rw [HL.out]; exact hlt
      have hxn := HF.out _ (sg_mem hkl)
      have HC := hidOf (copiedF_any (sg xs k).a (sg xs k).n (sg xs k).c (sg xs k).s.fl wr ((HI.out.keep hS.below).fil _ (sg_mem hkl)) hxn)
      have HSt := hidOf (fun (u' : World) (a6 : Option Addr) (c6 : Nat) => CsT.step (u' := u') (a6 := a6) (c6 := c6) hS hlt)
      obtain ⟨x, hx⟩ : ∃ x, sg xs k = x := ⟨_, rfl⟩
      rw [hx] at c6 hxn HC HSt
      have hki : (k : Int) < (n : Int) := by omega
      clear hcell hS hx hkl
      go_wp2_with fail
      refine (HC.out).mono ?_
      rintro e w5 ⟨a6, c6', rfl, ho6, hb6⟩
      have HSt2 := hidOf (HSt.out w5 a6 c6' ho6 hb6)
      have d6 : w5.cell? ⟨g, k * 7 + 6, none⟩ = some (.slice x.a x.n x.c) := by rw [hb6.cell (p := ⟨g, k * 7 + 6, none⟩) hgl]; exact c6
      have d7 : ∀ o, w5.frozen? ⟨g, o, none⟩ = false := fun o => by rw [hb6.frozen (p := ⟨g, o, none⟩) hgl]; exact hfr o
      clear ho6 hb6 HC HSt c6 hfr
      go_wp2
      go_roundw
      case rel => exact ⟨k + 1, _, by omega, by go_num, HSt2.out⟩
      case measure => simp [intOf]; omega
    · obtain rfl : k = n := by omega
      have HD := hidOf (hS.done HL.out (fun x hx => (HI.out.fil x hx).short))
      have HB2 := hidOf hS.below
      clear hS
      go_wp2
      go_ret
      exact ⟨_, _, ys, rfl, HD.out.1, HD.out.2.1, HD.out.2.2, HB2.out⟩
end Go.Proofs.YtekjdjcledohmaaGreat
