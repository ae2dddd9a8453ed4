/-
  The program's waiters: who quits; no other block has turned.
  The program's waiters made anew.
  What a filter lets pass: plain mathematics.
  Walks of the program's terms: which are right, how many an Op takes.
  The program's stack of tests in memory; taking one off it, laying one down.
-/
import Derived.Test.YtihdglmiecifjaaGreatZRa22
import Derived.Test.YtihdglmiecifjaaGreatZRa26
import Derived.Test.YtihdglmiecifjaaGreatZRa12
import Derived.Test.YtihdglmiecifjaaGreatZRa5
import Derived.Deep.Upon
import Derived.Deep.AppendLies
import Derived.Laws.EntriesVeiled
import Derived.WalkSmall
namespace Go.Proofs.YtihdglmiecifjaaGreat
open Go.RowKit Go.Maps Pl Il

/-- The block is of the shape it was. -/
def Shp (b : Nat) (w w' : World) : Prop := ∀ (cur : Array Value) (t : TypeId), w.heap[b]? = some (.cells cur t (0, 0)) → ∃ cur' : Array Value, w'.heap[b]? = some (.cells cur' t (0, 0)) ∧ cur'.size = cur.size
theorem Shp.trans {b : Nat} {w u v : World} (h : Shp b w u) (k : Shp b u v) : Shp b w v := fun cur t hg => by
  obtain ⟨c1, h1, s1⟩ := h cur t hg
  obtain ⟨c2, h2, s2⟩ := k c1 t h1
  exact ⟨c2, h2, by omega⟩
theorem Shp.ofBelow {b : Nat} {w w' : World} (h : Below w.heap.size w w') : Shp b w w' := fun cur t hg => ⟨cur, by rw [h.block b (Array.getElem?_eq_some_iff.1 hg).1]; exact hg, rfl⟩
theorem Shp.set (b p : Nat) (w : World) (v : Value) : Shp b w (w.setCell ⟨b, p, none⟩ v) := fun cur t hg => ⟨cur.setIfInBounds p v, heap_setCell_same w b p cur t v hg, by simp⟩
abbrev TurnB (b : Nat) (w w' : World) : Prop := TurnL [(some ⟨b, 0, none⟩, 1)] w w'
/-- Its lists lie in blocks from K on. -/
def NewA (A : Na) (K : Nat) : Prop := (∀ q, (Value.slice A.a A.n A.c).ownBlock = some q → K ≤ q) ∧ ∀ q, (Value.slice A.a' A.n' A.c').ownBlock = some q → K ≤ q
def WOutF (A : Na) (B b : Nat) (w : World) (v : Value) (ln gs : List Int) (e : Ending) (w' : World) : Prop := ∃ A', e = .returned v ∧ WSt B b A' ln gs w' ∧ WTo B b w w' ∧ (TurnB b w w' ∧ Shp b w w') ∧ (A' = A ∨ NewA A' w.heap.size)
theorem remove_tf (B b : Nat) (A : Na) (ln gs : List Int) (who : Int) (w : World) (hS : WSt B b A ln gs w) (hn : A.n ≤ 2097152) (hn' : A.n' ≤ 2097152) (hw : wfL ln) (hw' : wfL gs) (hx : (Lit.int .i64 who).wf = true) (hl : ln.Nodup) (hl' : gs.Nodup) :
    Calls Tryz.prog 161 #[.pointer (some ⟨b, 0, none⟩), .int .i64 who] w fun e w' => ∃ A', e = .returned (.tuple #[]) ∧ WSt B b A' (lessL ln who) (lessL gs who) w' ∧ WTo B b w w' ∧ (TurnB b w w' ∧ Shp b w w') ∧ NewA A' w.heap.size := by
  have c0 := hS.c0
  have HS := hidOf hS
  clear hS
  go_enter Tryz.func161, Tryz.ntmps161
  go_wp2_with fail
  refine (without_row A.a A.n A.c ln who _ (row_own HS.out.rows.one).1.ints hn hw hx hl).mono ?_
  rintro e w1 ⟨a1, m1, c1, rfl, hr1, hb1⟩
  have hS1 := HS.out.keep hb1
  have hlt0 := HS.out.lt
  have hS2 := hS1.line (row_mono hr1 (Nat.le_trans HS.out.ge (Nat.le_of_lt HS.out.lt))) (fun e => by have := (hr1.lt b e).1; omega) (fun q e e2 => by have h1 := (hr1.lt q e).1; have h2 := (HS.out.rows.two.lt q e2).2; omega)
  have hT2 := (HS.out.to hb1).set HS.out.ge 0 (by omega) (.slice a1 m1 c1)
  have t2 : TurnB b w (w1.setCell ⟨b, 0, none⟩ (.slice a1 m1 c1)) ∧ Shp b w (w1.setCell ⟨b, 0, none⟩ (.slice a1 m1 c1)) := ⟨(TurnL.ofBelow hb1).trans (TurnL.ofGrown (off := 0) (by omega) rfl (grown_setC _ _ _ _)), (Shp.ofBelow hb1).trans (Shp.set _ _ _ _)⟩
  have TT2 := hidOf t2
  have N1 := hidOf (fun q (e : (Value.slice a1 m1 c1).ownBlock = some q) => (hr1.lt q e).1)
  have sz1 := hb1.size
  clear t2
  have d0 := hS1.c0
  have df := hS1.fr
  have e1 := hS2.c1
  have HS2 := hidOf hS2
  have HT2 := hidOf hT2
  clear hS1 hS2 hT2 c0 hr1
  simp only at e1
  go_wp2_with fail
  refine (without_row A.a' A.n' A.c' gs who _ (row_own HS2.out.rows.two).1.ints hn' hw' hx hl').mono ?_
  rintro e w2 ⟨a2, m2, c2, rfl, hr2, hb2⟩
  have hS3 := HS2.out.keep hb2
  have hlt2 := HS2.out.lt
  have hS4 := hS3.told (row_mono hr2 (Nat.le_trans HS2.out.ge (Nat.le_of_lt HS2.out.lt))) (fun e => by have := (hr2.lt b e).1; omega) (fun q e e2 => by have h1 := (hr2.lt q e2).1; have h2 := (HS2.out.rows.one.lt q e).2; omega)
  have hT4 := (HT2.out.trans (HS2.out.to hb2)).set HS2.out.ge 1 (by omega) (.slice a2 m2 c2)
  have t4 : TurnB b w (w2.setCell ⟨b, 1, none⟩ (.slice a2 m2 c2)) ∧ Shp b w (w2.setCell ⟨b, 1, none⟩ (.slice a2 m2 c2)) := ⟨(TT2.out.1.trans (TurnL.ofBelow hb2)).trans (TurnL.ofGrown (off := 0) (by omega) rfl (grown_setC _ _ _ _)), (TT2.out.2.trans (Shp.ofBelow hb2)).trans (Shp.set _ _ _ _)⟩
  have TT4 := hidOf t4
  have N2 := hidOf (fun q (e : (Value.slice a2 m2 c2).ownBlock = some q) => show w.heap.size ≤ q by have := (hr2.lt q e).1; simp at this; omega)
  clear t4
  have f1 := hS3.c1
  have ff := hS3.fr
  have HS4 := hidOf hS4
  have HT4 := hidOf hT4
  clear hS3 hS4 hT4 e1 d0 df HS2 HT2 hr2
  simp only at f1
  go_wp2
  go_end0
  exact ⟨_, rfl, HS4.out, HT4.out, TT4.out, N1.out, N2.out⟩
theorem quit_tf (B b : Nat) (A : Na) (ln gs : List Int) (who : Int) (w : World) (hS : WSt B b A ln gs w) (hn : A.n ≤ 2097152) (hn' : A.n' ≤ 2097152) (hw : wfL ln) (hw' : wfL gs) (hx : (Lit.int .i64 who).wf = true) (hl : ln.Nodup) (hl' : gs.Nodup) :
    Calls Tryz.prog 134 #[.pointer (some ⟨b, 0, none⟩), .int .i64 who] w fun e w' => WOutF A B b w (.int .i64 (if turnL ln gs who = 3 then 3 else 0)) (lessL ln who) (lessL gs who) e w' := by
  have HS := hidOf hS
  clear hS
  go_enter Tryz.func134, Tryz.ntmps134
  go_wp2_with fail
  refine (turnOf_any B b A ln gs who w HS.out hn hn' hw hw' hx).mono ?_
  rintro e w1 ⟨rfl, hb1⟩
  have hS1 := HS.out.keep hb1
  have hT1 := HS.out.to hb1
  have HS1 := hidOf hS1
  have HT1 := hidOf hT1
  have TT1 := hidOf (And.intro (TurnL.ofBelow (ls := [(some ⟨b, 0, none⟩, 1)]) hb1) (Shp.ofBelow (b := b) hb1))
  clear hS1 hT1 HS
  have hrm := remove_tf B b A ln gs who w1 HS1.out hn hn' hw hw' hx hl hl'
  have HRm := hidOf hrm
  clear hrm
  rcases turn_cases ln gs who with ⟨h0, h1⟩ | ⟨h0, h1, h2⟩ | ⟨h0, h1, h2⟩
  · rw [h0]
    go_wp2_with fail
    refine HRm.out.mono ?_
    rintro e w2 ⟨A', rfl, hS2, hT2, tt2, na2⟩
    have HS2 := hidOf hS2
    have HT2 := hidOf (HT1.out.trans hT2)
    have TT2 := hidOf (And.intro (TT1.out.1.trans tt2.1) (TT1.out.2.trans tt2.2))
    have NA2 := hidOf (show A' = A ∨ NewA A' w.heap.size from .inr ⟨fun q e => Nat.le_trans hb1.size (na2.1 q e), fun q e => Nat.le_trans hb1.size (na2.2 q e)⟩)
    clear tt2 na2
    clear hS2 hT2 HRm
    go_wp2
    go_ret
    first | exact ⟨A', rfl, HS2.out, HT2.out, TT2.out, NA2.out⟩ | (rw [h0]; exact ⟨A', rfl, HS2.out, HT2.out, TT2.out, NA2.out⟩) | (rw [if_neg (by omega)]; exact ⟨A', rfl, HS2.out, HT2.out, TT2.out, NA2.out⟩) | (rw [if_pos h0]; exact ⟨A', rfl, HS2.out, HT2.out, TT2.out, NA2.out⟩) | exact ⟨A', by rw [h0], by rw [if_pos h0]; exact HS2.out, HT2.out, TT2.out, NA2.out⟩ | exact ⟨A', by rw [h0], by rw [if_neg (by omega)]; exact HS2.out, HT2.out, TT2.out, NA2.out⟩ | exact ⟨A', by rw [if_neg (by omega)], HS2.out, HT2.out, TT2.out, NA2.out⟩ | exact ⟨A', by rw [if_pos h0], HS2.out, HT2.out, TT2.out, NA2.out⟩
  · rw [h0]
    go_wp2_with fail
    refine HRm.out.mono ?_
    rintro e w2 ⟨A', rfl, hS2, hT2, tt2, na2⟩
    have HS2 := hidOf hS2
    have HT2 := hidOf (HT1.out.trans hT2)
    have TT2 := hidOf (And.intro (TT1.out.1.trans tt2.1) (TT1.out.2.trans tt2.2))
    have NA2 := hidOf (show A' = A ∨ NewA A' w.heap.size from .inr ⟨fun q e => Nat.le_trans hb1.size (na2.1 q e), fun q e => Nat.le_trans hb1.size (na2.2 q e)⟩)
    clear tt2 na2
    clear hS2 hT2 HRm
    go_wp2
    go_ret
    first | exact ⟨A', rfl, HS2.out, HT2.out, TT2.out, NA2.out⟩ | (rw [h0]; exact ⟨A', rfl, HS2.out, HT2.out, TT2.out, NA2.out⟩) | (rw [if_neg (by omega)]; exact ⟨A', rfl, HS2.out, HT2.out, TT2.out, NA2.out⟩) | (rw [if_pos h0]; exact ⟨A', rfl, HS2.out, HT2.out, TT2.out, NA2.out⟩) | exact ⟨A', by rw [h0], by rw [if_pos h0]; exact HS2.out, HT2.out, TT2.out, NA2.out⟩ | exact ⟨A', by rw [h0], by rw [if_neg (by omega)]; exact HS2.out, HT2.out, TT2.out, NA2.out⟩ | exact ⟨A', by rw [if_neg (by omega)], HS2.out, HT2.out, TT2.out, NA2.out⟩ | exact ⟨A', by rw [if_pos h0], HS2.out, HT2.out, TT2.out, NA2.out⟩
  · rw [h0]
    have e1 : lessL ln who = ln := List.erase_of_not_mem (by simpa [hasL] using h1)
    have e2 : lessL gs who = gs := List.erase_of_not_mem (by simpa [hasL] using h2)
    have HS1 := hidOf (show WSt B b A (lessL ln who) (lessL gs who) w1 by rw [e1, e2]; exact HS1.out)
    clear HRm e1 e2
    go_wp2
    go_ret
    first | exact ⟨A, rfl, HS1.out, HT1.out, TT1.out, .inl rfl⟩ | (rw [h0]; exact ⟨A, rfl, HS1.out, HT1.out, TT1.out, .inl rfl⟩) | (rw [if_neg (by omega)]; exact ⟨A, rfl, HS1.out, HT1.out, TT1.out, .inl rfl⟩) | (rw [if_pos h0]; exact ⟨A, rfl, HS1.out, HT1.out, TT1.out, .inl rfl⟩) | exact ⟨A, by rw [h0], by rw [if_pos h0]; exact HS1.out, HT1.out, TT1.out, .inl rfl⟩ | exact ⟨A, by rw [h0], by rw [if_neg (by omega)]; exact HS1.out, HT1.out, TT1.out, .inl rfl⟩ | exact ⟨A, by rw [if_neg (by omega)], HS1.out, HT1.out, TT1.out, .inl rfl⟩ | exact ⟨A, by rw [if_pos h0], HS1.out, HT1.out, TT1.out, .inl rfl⟩
end Go.Proofs.YtihdglmiecifjaaGreat
namespace Go.Proofs.YtihdglmiecifjaaGreat
open Go.RowKit Go.Maps Pl Il

theorem newWaiters_any (a : Option Addr) (n cap : Nat) (ls : List Int) (a' : Option Addr) (n' cap' : Nat) (ts : List Int) (w : World) (hI : IntsAt w a n ls) (hJ : IntsAt w a' n' ts) (hn : n ≤ 2097152) (hn' : n' ≤ 2097152) :
    Calls Tryz.prog 142 #[.slice a n cap, .slice a' n' cap'] w fun e w' => ∃ a1 c1 a2 c2, e = .returned (.agg #[.slice a1 n c1, .slice a2 n' c2]) ∧ Rows2 w.heap.size w' ⟨a1, n, c1, a2, n', c2⟩ ls ts ∧ Below w.heap.size w w' := by
  generalize hW : w.alloc (.cells #[.slice none 0 0, .slice none 0 0] 140) = W
  have b0 : Below w.heap.size w W := by subst hW; exact bl_alloc (Below.refl _ _) _
  have s0 : W.heap.size = w.heap.size + 1 := by subst hW; simp
  have HI := hidOf (hI.keep b0)
  have HJ := hidOf (hJ.keep b0)
  have e0 : W.cell? ⟨w.heap.size, 0, none⟩ = some (.slice none 0 0) := by subst hW; simp
  have e1 : W.cell? ⟨w.heap.size, 1, none⟩ = some (.slice none 0 0) := by subst hW; simp
  have ef : ∀ o, W.frozen? ⟨w.heap.size, o, none⟩ = false := by subst hW; intro o; simp [go_sem]
  have hl0 : w.heap.size < W.heap.size := by omega
  clear hI hJ
  subst hW
  go_enter Tryz.func142, Tryz.ntmps142
  go_wp2_with fail
  refine (copied_row a n cap ls _ HI.out hn).mono ?_
  rintro e w1 ⟨a1, c1, rfl, hr1, hb1⟩
  have HJ1 := hidOf (HJ.out.keep hb1)
  have d0 := e0
  rw [← hb1.cell (p := ⟨w.heap.size, 0, none⟩) hl0] at d0
  have d1 := e1
  rw [← hb1.cell (p := ⟨w.heap.size, 1, none⟩) hl0] at d1
  have df : ∀ o, w1.frozen? ⟨w.heap.size, o, none⟩ = false := fun o => by rw [hb1.frozen (p := ⟨w.heap.size, o, none⟩) hl0]; exact ef o
  have Hr1 := hidOf hr1
  have B1 := hidOf (bl_trans b0 hb1)
  have hs1 := hb1.size
  clear e0 e1 ef HI HJ hr1 hb1 b0
  go_wp2_with fail
  refine (copied_row a' n' cap' ts _ HJ1.out hn').mono ?_
  rintro e w2 ⟨a2, c2, rfl, hr2, hb2⟩
  have f0 := d0
  rw [← hb2.cell (p := ⟨w.heap.size, 0, none⟩) (by simp only; omega)] at f0
  have f1 := d1
  rw [← hb2.cell (p := ⟨w.heap.size, 1, none⟩) (by simp only; omega)] at f1
  have ff : ∀ o, w2.frozen? ⟨w.heap.size, o, none⟩ = false := fun o => by rw [hb2.frozen (p := ⟨w.heap.size, o, none⟩) (by simp only; omega)]; exact df o
  have hR : Rows2 (w.heap.size + 1) w2 ⟨a1, n, c1, a2, n', c2⟩ ls ts := by
    rw [s0] at Hr1
    refine ⟨row_below Hr1.out hb2, row_mono hr2 (by omega), fun q e e' => ?_⟩
    have h1 := (Hr1.out.lt q e).2
    have h2 := (hr2.lt q e').1
    omega
  have hR2 := (hR.far w.heap.size 0 (by omega) (.slice a1 n c1)).far w.heap.size 1 (by omega) (.slice a2 n' c2)
  have hB2 := bl_set1 (bl_set1 (bl_trans B1.out hb2) w.heap.size 0 (Nat.le_refl _) (.slice a1 n c1)) w.heap.size 1 (Nat.le_refl _) (.slice a2 n' c2)
  have HR2 := hidOf hR2
  have HB2 := hidOf hB2
  clear hR hR2 hB2 hr2 hb2 Hr1 B1 d0 d1 df HJ1
  go_wp2
  refine bodyPost_ret (v := .agg #[.slice a1 n c1, .slice a2 n' c2]) (by simp [results, Tryz.results142, go_sem, f0, f1]) rfl ⟨a1, c1, a2, c2, rfl, HR2.out.mono (by omega), HB2.out⟩
end Go.Proofs.YtihdglmiecifjaaGreat
namespace Go.Proofs.YtihdglmiecifjaaGreat
open Go.RowKit Pl Il

/-- What a right message is. -/
abbrev Bd : Type := Sum Int ByteArray
/-- Does t begin s? Is it somewhere within? -/
def begB (s t : ByteArray) : Bool := t.toList.isPrefixOf s.toList
def inL : List UInt8 → List UInt8 → Bool
  | l, [] => l.isEmpty
  | l, x :: xs => l.isPrefixOf (x :: xs) || inL l xs
def leafP (t : Tm) : Bd → Bool
  | .inl n => if t.1 = 1 then true else if t.1 = 2 then true else if t.1 = 3 then false else if t.1 = 4 then decide (n < t.2.1) else if t.1 = 5 then decide (n.tmod t.2.1 = 0) else false
  | .inr s => if t.1 = 1 then true else if t.1 = 2 then false else if t.1 = 3 then true else if t.1 = 4 then false else if t.1 = 5 then false else if t.1 = 6 then begB s t.2.2 else inL t.2.2.toList s.toList
abbrev Pd : Type := Bd → Bool
def pg (ps : List Pd) (i : Nat) : Pd := ps.getD i (fun _ => false)
def stepP (t : Tm) (ps : List Pd) : List Pd :=
  if t.1 = 8 then ps.take (ps.length - 1) ++ [fun b => !(pg ps (ps.length - 1) b)]
  else if t.1 = 9 then ps.take (ps.length - 2) ++ [fun b => pg ps (ps.length - 1) b && pg ps (ps.length - 2) b]
  else if t.1 = 10 then ps.take (ps.length - 2) ++ [fun b => pg ps (ps.length - 1) b || pg ps (ps.length - 2) b]
  else ps ++ [leafP t]
theorem stepP_len (t : Tm) (ps : List Pd) (_h : ¬ ps.length < cntM t.1) : (stepP t ps).length = ps.length - cntM t.1 + 1 := by
  unfold stepP
  unfold cntM
  by_cases h1 : t.1 = 8
  · simp [h1]
  · by_cases h2 : t.1 = 9
    · simp [h2]
    · by_cases h3 : t.1 = 10
      · simp [h3]
      · simp [h1, h2, h3]
def runP (f : List Tm) : List Pd := f.foldl (fun ps t => stepP t ps) []
theorem runP_snoc (l : List Tm) (t : Tm) : runP (l ++ [t]) = stepP t (runP l) := by simp [runP]
theorem runP_step {f : List Tm} {k : Nat} (hk : k < f.length) : runP (f.take (k + 1)) = stepP (qg f k) (runP (f.take k)) := by rw [take_qg hk, runP_snoc]
/-- What a filter lets pass. -/
def passP (f : List Tm) : Pd := if f = [] then fun _ => true else pg (runP f) 0
theorem runP_len : ∀ {f : List Tm} {k m : Nat}, k ≤ f.length → goN (f.take k) 0 = some m → (runP (f.take k)).length = m := by
  intro f k
  induction k with
  | zero => intro m _ h; simp [goN] at h; subst h; simp [runP]
  | succ k ih =>
    intro m hk h
    have hk' : k < f.length := by omega
    rw [take_qg hk', goN_snoc] at h
    cases e : goN (f.take k) 0 with
    | none => rw [e] at h; cases h
    | some q =>
      rw [e] at h
      simp only [Option.bind_some] at h
      have hl := ih (by omega) e
      split at h
      · cases h
      · split at h
        · cases h
        · rename_i h2
          rw [runP_step hk', stepP_len _ _ (by rw [hl]; exact h2), hl]
          simpa using h
end Go.Proofs.YtihdglmiecifjaaGreat
namespace Go.Proofs.YtihdglmiecifjaaGreat
open Go.RowKit Pl Il

theorem isPart_any (s : ByteArray) (w : World) (hs : s.size ≤ maxLen) :
    Calls Tryz.prog 190 #[.string s] w fun e w' => e = .returned (.bool (partB s)) ∧ w' = w := by
  unfold maxLen at hs
  by_cases h1 : (s.size : Int) < 1
  · have hq := part_size s (by omega)
    go_enter Tryz.func190, Tryz.ntmps190
    go_wp2
    go_ret
    first | exact ⟨rbool hq.symm, rfl⟩ | exact ⟨rfl, rfl⟩
  by_cases h2 : 10 < (s.size : Int)
  · have hq := part_size s (by omega)
    go_enter Tryz.func190, Tryz.ntmps190
    go_wp2
    go_ret
    first | exact ⟨rbool hq.symm, rfl⟩ | exact ⟨rfl, rfl⟩
  go_enter Tryz.func190, Tryz.ntmps190
  go_wp2
  go_loop [3] (fun i => ∃ k : Nat, k ≤ s.size ∧ i = .int .i64 k ∧ letL (s.data.toList.take k) = true) (fun i => s.size - (intOf i).toNat)
  case atStart => exact ⟨0, Nat.zero_le _, rfl, rfl⟩
  case round =>
    obtain ⟨k, hk, rfl, hp⟩ := hrel
    by_cases hlt : k < s.size
    · go_wp2
      all_goals first
        | (go_ret; exact ⟨rbool (part_bad s k hlt (let_no _ (by omega))).symm, rfl⟩)
        | (go_round
           case rel => exact ⟨k + 1, by omega, by go_num, let_step s k hlt hp (let_yes _ (by omega) (by omega))⟩
           case measure => simp [intOf]; omega)
    · go_wp2
      go_ret
      exact ⟨rbool (part_all s k (by omega) (by omega) (by omega) hp).symm, rfl⟩
theorem countTaken_any (op : Int) (w : World) : Calls Tryz.prog 185 #[.int .i64 op] w fun e w' => e = .returned (.int .i64 (cntM op : Int)) ∧ w' = w := by
  by_cases h1 : op = 8
  · subst h1
    go_enter Tryz.func185, Tryz.ntmps185
    go_wp2
    go_ret
    exact ⟨rfl, rfl⟩
  by_cases h2 : op = 9
  · subst h2
    go_enter Tryz.func185, Tryz.ntmps185
    go_wp2
    go_ret
    exact ⟨rfl, rfl⟩
  by_cases h3 : op = 10
  · subst h3
    go_enter Tryz.func185, Tryz.ntmps185
    go_wp2
    go_ret
    exact ⟨rfl, rfl⟩
  have e1 : (op == 8) = false := by simp [h1]
  have e2 : (op == 9) = false := by simp [h2]
  have e3 : (op == 10) = false := by simp [h3]
  have hc : cntM op = 0 := by simp [cntM, h1, h2, h3]
  rw [hc]
  go_enter Tryz.func185, Tryz.ntmps185
  go_wp2
  go_ret
  exact ⟨rfl, rfl⟩
set_option maxHeartbeats 1000000 in
theorem termOk_any (t : Tm) (w : World) (hs : t.2.2.size ≤ maxLen) :
    Calls Tryz.prog 184 #[.agg #[.int .i64 t.1, .int .i64 t.2.1, .string t.2.2]] w fun e w' => e = .returned (.bool (okTm t)) ∧ Below w.heap.size w w' := by
  obtain ⟨op, n, s⟩ := t
  simp only at hs ⊢
  go_enter Tryz.func184, Tryz.ntmps184
  go_wp2_with (go_at_call 190; refine (isPart_any s _ hs).mono ?_; rintro e w1 ⟨rfl, rfl⟩)
  all_goals go_ret
  all_goals refine ⟨rbool ?_, bl_alloc (Below.refl _ _) _⟩
  all_goals first | (simp_all [okTm]; done) | (simp_all [okTm]; omega)
end Go.Proofs.YtihdglmiecifjaaGreat
namespace Go.Proofs.YtihdglmiecifjaaGreat
open Go.RowKit Pl Il

def IsFn (v : Value) : Prop := ∃ k caps, v = .func (.func k) #[] caps
/-- What is asked of a relation 'this function value stands for this test': F are the blocks that it leans on. -/
structure Sys (R : List Nat → World → Value → Pd → Prop) : Prop where
  isfn : ∀ {F u v p}, R F u v p → IsFn v
  frame : ∀ {F u W v p}, R F u v p → u.heap.size ≤ W.heap.size → (∀ j, j ∈ F → W.heap[j]? = u.heap[j]?) → R F W v p
  lt : ∀ {F u v p}, R F u v p → ∀ j, j ∈ F → j < u.heap.size
  all : ∀ u, R [] u (.func (.func 183) #[] #[]) (fun _ => true)
  leaf : ∀ (t : Tm) (u : World), okTm t = true → cntM t.1 = 0 → t.2.2.size ≤ maxLen → Calls Tryz.prog 196 #[.agg #[.int .i64 t.1, .int .i64 t.2.1, .string t.2.2]] u fun e u' => ∃ v F, e = .returned v ∧ R F u' v (leafP t) ∧ (∀ j, j ∈ F → u.heap.size ≤ j) ∧ Below u.heap.size u u'
  nott : ∀ {F u v p} (c : Nat), R F u v p → u.heap[c]? = some (.cells #[v] 185 (0, 0)) → R (c :: F) u (.func (.func 193) #[] #[.pointer (some ⟨c, 0, none⟩)]) (fun b => !(p b))
  andd : ∀ {F F' u v v' p p'} (c c' : Nat), R F u v p → R F' u v' p' → u.heap[c]? = some (.cells #[v] 185 (0, 0)) → u.heap[c']? = some (.cells #[v'] 185 (0, 0)) → R (c :: c' :: (F ++ F')) u (.func (.func 194) #[] #[.pointer (some ⟨c, 0, none⟩), .pointer (some ⟨c', 0, none⟩)]) (fun b => p b && p' b)
  orr : ∀ {F F' u v v' p p'} (c c' : Nat), R F u v p → R F' u v' p' → u.heap[c]? = some (.cells #[v] 185 (0, 0)) → u.heap[c']? = some (.cells #[v'] 185 (0, 0)) → R (c :: c' :: (F ++ F')) u (.func (.func 195) #[] #[.pointer (some ⟨c, 0, none⟩), .pointer (some ⟨c', 0, none⟩)]) (fun b => p b || p' b)
/-- The stack in block L: vs are its function values, v the slice; they stand for ps. -/
structure Stk (R : List Nat → World → Value → Pd → Prop) (w0 : World) (L : Nat) (v : Value) (vs : List Value) (ps : List Pd) (u : World) : Prop where
  below : Below w0.heap.size w0 u
  hL : w0.heap.size ≤ L
  blk : u.heap[L]? = some (.cells #[v] 207 (0, 0))
  row : u.ownsRow (L + 1) 185 1 v vs.length vs
  len : ps.length = vs.length
  rep : ∀ i, i < vs.length → ∃ F, R F u (vs.getD i .nilFunc) (pg ps i) ∧ ∀ j, j ∈ F → j ≠ L ∧ v.ownBlock ≠ some j
theorem blk_cell {u : World} {L : Nat} {v : Value} {t : TypeId} (h : u.heap[L]? = some (.cells #[v] t (0, 0))) : u.cell? ⟨L, 0, none⟩ = some v ∧ L < u.heap.size ∧ ∀ o, u.frozen? ⟨L, o, none⟩ = false := by
  refine ⟨by simp [World.cell?, h], ?_, fun o => by simp [World.frozen?, h]⟩
  rcases Nat.lt_or_ge L u.heap.size with k | k
  · exact k
  · rw [Array.getElem?_eq_none k] at h; cases h
theorem blk_set {u : World} {L : Nat} {v : Value} {t : TypeId} (h : u.heap[L]? = some (.cells #[v] t (0, 0))) (y : Value) : (u.setCell ⟨L, 0, none⟩ y).heap[L]? = some (.cells #[y] t (0, 0)) := by
  simp [World.setCell, Array.getElem?_modify, h]
theorem infoFn : (Tryz.prog.info? 185).map (fun i => (i.zero, i.size, i.bytes)) = some (some .nilFunc, 1, 8) := by kernel_rfl
/-- One function value is appended to an own row. -/
theorem append_fn (B m : Nat) (v : Value) (vs : List Value) (f : Value) (w : World) (hf : IsFn f) (ho : w.ownsRow B 185 1 v m vs) (hB : B ≤ w.heap.size) (hs : m + 1 ≤ 4194304) :
    ∃ (g cap : Nat) (w' : World), (Builtin.append_ #[205, 205] 205 #[v, .slice (some ⟨w.heap.size, 0, none⟩) 1 1]).run Tryz.prog (w.alloc (.cells #[f] 185)) = .ok (.slice (some ⟨g, 0, none⟩) (m + 1) cap) w' ∧
      w'.ownsRow B 185 1 (.slice (some ⟨g, 0, none⟩) (m + 1) cap) (m + 1) (vs ++ [f]) ∧ w.grownBy w' v.ownBlock ∧ (v.ownBlock = some g ∨ w.heap.size < g) := by
  obtain ⟨i, hi, hz0, hz1, hz2⟩ := info_parts infoFn
  have hb0 : Below w.heap.size w (w.alloc (.cells #[f] 185)) := bl_alloc (Below.refl _ _) _
  have ho' : (w.alloc (.cells #[f] 185)).ownsRow B 185 1 v m vs := ho.alloc _
  obtain ⟨g, c, w', hr, hown, hg, hgo, _⟩ := run_append_lies (P := Tryz.prog) (w.alloc (.cells #[f] 185)) 205 205 B 185 i _ 1 8 Tryz.underlying205 hi hz0 hz1 hz2 rfl (by omega) v m _ ho' ⟨w.heap.size, 0, none⟩ 1 1 [f] (by simp)
    (fun j u h => by
      have hj : j = 0 := by
        have := (List.getElem?_eq_some_iff.1 h).1
        simp at this; omega
      subst hj
      simp at h
      subst h
      rw [Addr.add_lit]; simp)
    (fun u hu => by
      simp at hu
      subst hu
      obtain ⟨k, caps, rfl⟩ := hf
      rfl) (by omega) (by unfold maxLen; omega) (by omega) (by simp; omega) _ rfl
  refine ⟨g, c, w', hr, hown, ?_, ?_⟩
  · exact ⟨hg.os.trans hb0.os, hg.tape.trans hb0.tape, hg.output.trans hb0.output, Nat.le_trans hb0.size hg.size, fun k hk hne => (hg.block k (Nat.lt_of_lt_of_le hk hb0.size) hne).trans (hb0.block k hk)⟩
  · rcases hgo with h | h
    · exact .inl h
    · right; rw [h]; simp
theorem row_ge {B : Nat} {w : World} {t : TypeId} {v : Value} {n : Nat} {xs : List Value} (h : w.ownsRow B t 1 v n xs) {j : Nat} (hj : v.ownBlock = some j) : B ≤ j ∧ j < w.heap.size := h.lt j hj
theorem getD_snoc_lt {vs : List Value} {x : Value} {i : Nat} (h : i < vs.length) : (vs ++ [x]).getD i .nilFunc = vs.getD i .nilFunc := by
  simp [List.getD, List.getElem?_append_left h]
theorem getD_snoc_eq {vs : List Value} {x : Value} : (vs ++ [x]).getD vs.length .nilFunc = x := by simp [List.getD]
theorem pg_snoc_lt {ps : List Pd} {p : Pd} {i : Nat} (h : i < ps.length) : pg (ps ++ [p]) i = pg ps i := by
  simp [pg, List.getD, List.getElem?_append_left h]
theorem pg_snoc_eq {ps : List Pd} {p : Pd} : pg (ps ++ [p]) ps.length = p := by simp [pg, List.getD]
theorem pg_take {ps : List Pd} {i n : Nat} (h : i < n) : pg (ps.take n) i = pg ps i := by simp [pg, List.getD, List.getElem?_take_of_lt h]

set_option maxHeartbeats 1000000 in
theorem take_any {R : List Nat → World → Value → Pd → Prop} (S : Sys R) (w0 : World) (L : Nat) (v : Value) (vs : List Value) (x : Value) (ps : List Pd) (u : World) (hS : Stk R w0 L v (vs ++ [x]) ps u) (hn : vs.length ≤ 4194304) :
    Calls Tryz.prog 191 #[.pointer (some ⟨L, 0, none⟩)] u fun e u' => e = .returned x ∧ ∃ v', Stk R w0 L v' vs (ps.take vs.length) u' ∧ v'.ownBlock = v.ownBlock ∧ (∃ F, R F u' x (pg ps vs.length) ∧ ∀ j, j ∈ F → j ≠ L ∧ v'.ownBlock ≠ some j) ∧ u'.heap.size = u.heap.size ∧ ∀ k, k ≠ L → u'.heap[k]? = u.heap[k]? := by
  obtain ⟨hbl, hL, hblk, hrow, hlen, hrep⟩ := hS
  simp only [List.length_append, List.length_singleton] at hrow hlen hrep
  obtain ⟨hc, hlt, hfr⟩ := blk_cell hblk
  obtain ⟨g, cap, rfl, _, _⟩ := hrow.form (by omega)
  have hcap : vs.length + 1 ≤ cap := by
    obtain ⟨_, ⟨h0, _⟩ | ⟨g', cap', cur, hv, _, _, hc', _⟩⟩ := id hrow
    · cases h0
    · cases hv; exact hc'
  obtain ⟨F, hR, hF⟩ := hrep vs.length (by omega)
  rw [getD_snoc_eq] at hR
  have hgL : L + 1 ≤ g := (row_ge hrow (j := g) rfl).1
  have hx : u.cell? ⟨g, vs.length, none⟩ = some x := by
    rw [hrow.cellAt vs.length (by omega)]; simp
  obtain ⟨kx, cx, hfx⟩ := S.isfn hR
  obtain ⟨W, hW⟩ : ∃ W, W = u.setCell ⟨L, 0, none⟩ (.slice (some ⟨g, 0, none⟩) vs.length cap) := ⟨_, rfl⟩
  have hWk : ∀ k, k ≠ L → W.heap[k]? = u.heap[k]? := fun k hk => by rw [hW]; exact Below.heap_setCell _ _ _ _ (fun e => hk e)
  have hWs : W.heap.size = u.heap.size := by rw [hW]; simp
  have hWL : W.heap[L]? = some (.cells #[.slice (some ⟨g, 0, none⟩) vs.length cap] 207 (0, 0)) := by rw [hW]; exact blk_set hblk _
  have hrow' : W.ownsRow (L + 1) 185 1 (.slice (some ⟨g, 0, none⟩) vs.length cap) vs.length vs := by
    have h1 := ownsRow_pop (xs := vs) (last := [x]) (by omega) hrow
    rw [hW]
    exact h1.kept (row := some L) ⟨rfl, rfl, rfl, by simp, fun k _ hk => Below.heap_setCell _ _ _ _ (by rintro rfl; exact hk rfl)⟩ (.inr (by simp [Value.ownBlock]; omega))
  have hfin : Stk R w0 L (.slice (some ⟨g, 0, none⟩) vs.length cap) vs (ps.take vs.length) W :=
    ⟨by rw [hW]; exact hbl.setCell (p := ⟨L, 0, none⟩) hL _, hL, hWL, hrow', by rw [List.length_take]; omega, fun i hi => by
      obtain ⟨F', hR', hF'⟩ := hrep i (by omega)
      rw [getD_snoc_lt hi] at hR'
      exact ⟨F', by rw [pg_take hi]; exact S.frame hR' (by omega) (fun j hj => hWk j (hF' j hj).1), fun j hj => ⟨(hF' j hj).1, (hF' j hj).2⟩⟩⟩
  have HF := hidOf (And.intro hfin (And.intro (S.frame hR (W := W) (by omega) (fun j hj => hWk j (hF j hj).1)) (And.intro hWs hWk)))
  have hFF := hidOf hF
  clear hfin hrow' hWL hWs hWk hR hF hrep hrow hblk hbl hlen
  subst hfx
  have e1 : ((vs.length + 1 : Nat) : Int) - 1 = (vs.length : Int) := by omega
  go_enter Tryz.func191, Tryz.ntmps191
  go_wp2
  rw [← hW]
  go_ret
  exact ⟨rfl, _, HF.out.1, rfl, ⟨F, HF.out.2.1, fun j hj => hFF.out j hj⟩, HF.out.2.2.1, HF.out.2.2.2⟩
end Go.Proofs.YtihdglmiecifjaaGreat
