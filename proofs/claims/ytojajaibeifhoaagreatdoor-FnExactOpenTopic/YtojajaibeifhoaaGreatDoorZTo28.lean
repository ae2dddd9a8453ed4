/-
  What a filter lets pass: plain mathematics.
  Walks of the program's terms: which are right, how many an Op takes.
  The program's stack of tests in memory; taking one off it, laying one down.
-/
import Derived.Test.YtojajaibeifhoaaGreatDoorZTo21
import Derived.Test.YtojajaibeifhoaaGreatDoorZTo8
import Derived.Deep.Upon
import Derived.Deep.AppendLies
import Derived.Laws.EntriesVeiled
import Derived.WalkSmall
namespace Go.Proofs.YtojajaibeifhoaaGreatDoor
open Go.RowKit Pl Il

/-- What a right message is. -/
abbrev Bd : Type := Sum Int ByteArray
/-- Does t begin s? Is it somewhere within? -/
def begB (s t : ByteArray) : Bool := t.toList.isPrefixOf s.toList
def inL : List UInt8 → List UInt8 → Bool
  | l, [] => l.isEmpty
  | l, x :: xs => l.isPrefixOf (x :: xs) || inL l xs
def leafP (t : Tm) : Bd → Bool
  | .inl n => if t.1 = 1 then true else if t.1 = 2 then true else if t.1 = 3 then false else if t.1 = 4 then decide (n < t.2.1) else if t.1 = 5 then decide (n.tmod t.2.1 = 0) else false
  | .inr s => if t.1 = 1 then true else if t.1 = 2 then false else if t.1 = 3 then true else if t.1 = 4 then false else if t.1 = 5 then false else if t.1 = 6 then begB s t.2.2 else inL t.2.2.toList s.toList
abbrev Pd : Type := Bd → Bool
def pg (ps : List Pd) (i : Nat) : Pd := ps.getD i (fun _ => false)
def stepP (t : Tm) (ps : List Pd) : List Pd :=
  if t.1 = 8 then ps.take (ps.length - 1) ++ [fun b => !(pg ps (ps.length - 1) b)]
  else if t.1 = 9 then ps.take (ps.length - 2) ++ [fun b => pg ps (ps.length - 1) b && pg ps (ps.length - 2) b]
  else if t.1 = 10 then ps.take (ps.length - 2) ++ [fun b => pg ps (ps.length - 1) b || pg ps (ps.length - 2) b]
  else ps ++ [leafP t]
theorem stepP_len (t : Tm) (ps : List Pd) (_h : ¬ ps.length < cntM t.1) : (stepP t ps).length = ps.length - cntM t.1 + 1 := by
  unfold stepP
  unfold cntM
  by_cases h1 : t.1 = 8
  · simp [h1]
  · by_cases h2 : t.1 = 9
    · simp [h2]
    · by_cases h3 : t.1 = 10
      · simp [h3]
      · simp [h1, h2, h3]
def runP (f : List Tm) : List Pd := f.foldl (fun ps t => stepP t ps) []
theorem runP_snoc (l : List Tm) (t : Tm) : runP (l ++ [t]) = stepP t (runP l) := by simp [runP]
theorem runP_step {f : List Tm} {k : Nat} (hk : k < f.length) : runP (f.take (k + 1)) = stepP (qg f k) (runP (f.take k)) := by rw [take_qg hk, runP_snoc]
/-- What a filter lets pass. -/
def passP (f : List Tm) : Pd := if f = [] then fun _ => true else pg (runP f) 0
theorem runP_len : ∀ {f : List Tm} {k m : Nat}, k ≤ f.length → goN (f.take k) 0 = some m → (runP (f.take k)).length = m := by
  intro f k
  induction k with
  | zero => intro m _ h; simp [goN] at h; subst h; simp [runP]
  | succ k ih =>
    intro m hk h
    have hk' : k < f.length := by omega
    rw [take_qg hk', goN_snoc] at h
    cases e : goN (f.take k) 0 with
    | none => rw [e] at h; cases h
    | some q =>
      rw [e] at h
      simp only [Option.bind_some] at h
      have hl := ih (by omega) e
      split at h
      · cases h
      · split at h
        · cases h
        · rename_i h2
          rw [runP_step hk', stepP_len _ _ (by rw [hl]; exact h2), hl]
          simpa using h
end Go.Proofs.YtojajaibeifhoaaGreatDoor
namespace Go.Proofs.YtojajaibeifhoaaGreatDoor
open Go.RowKit Pl Il

theorem isPart_any (s : ByteArray) (w : World) (hs : s.size ≤ maxLen) :
    Calls Tryz.prog 171 #[.string s] w fun e w' => e = .returned (.bool (partB s)) ∧ w' = w := by
  unfold maxLen at hs
  by_cases h1 : (s.size : Int) < 1
  · have hq := part_size s (by omega)
    go_enter Tryz.func171, Tryz.ntmps171
    go_wp2
    go_ret
    first | exact ⟨rbool hq.symm, rfl⟩ | exact ⟨rfl, rfl⟩
  by_cases h2 : 10 < (s.size : Int)
  · have hq := part_size s (by omega)
    go_enter Tryz.func171, Tryz.ntmps171
    go_wp2
    go_ret
    first | exact ⟨rbool hq.symm, rfl⟩ | exact ⟨rfl, rfl⟩
  go_enter Tryz.func171, Tryz.ntmps171
  go_wp2
  go_loop [3] (fun i => ∃ k : Nat, k ≤ s.size ∧ i = .int .i64 k ∧ letL (s.data.toList.take k) = true) (fun i => s.size - (intOf i).toNat)
  case atStart => exact ⟨0, Nat.zero_le _, rfl, rfl⟩
  case round =>
    obtain ⟨k, hk, rfl, hp⟩ := hrel
    by_cases hlt : k < s.size
    · go_wp2
      all_goals first
        | (go_ret; exact ⟨rbool (part_bad s k hlt (let_no _ (by omega))).symm, rfl⟩)
        | (go_round
           case rel => exact ⟨k + 1, by omega, by go_num, let_step s k hlt hp (let_yes _ (by omega) (by omega))⟩
           case measure => simp [intOf]; omega)
    · go_wp2
      go_ret
      exact ⟨rbool (part_all s k (by omega) (by omega) (by omega) hp).symm, rfl⟩
theorem countTaken_any (op : Int) (w : World) : Calls Tryz.prog 158 #[.int .i64 op] w fun e w' => e = .returned (.int .i64 (cntM op : Int)) ∧ w' = w := by
  by_cases h1 : op = 8
  · subst h1
    go_enter Tryz.func158, Tryz.ntmps158
    go_wp2
    go_ret
    exact ⟨rfl, rfl⟩
  by_cases h2 : op = 9
  · subst h2
    go_enter Tryz.func158, Tryz.ntmps158
    go_wp2
    go_ret
    exact ⟨rfl, rfl⟩
  by_cases h3 : op = 10
  · subst h3
    go_enter Tryz.func158, Tryz.ntmps158
    go_wp2
    go_ret
    exact ⟨rfl, rfl⟩
  have e1 : (op == 8) = false := by simp [h1]
  have e2 : (op == 9) = false := by simp [h2]
  have e3 : (op == 10) = false := by simp [h3]
  have hc : cntM op = 0 := by simp [cntM, h1, h2, h3]
  rw [hc]
  go_enter Tryz.func158, Tryz.ntmps158
  go_wp2
  go_ret
  exact ⟨rfl, rfl⟩
set_option maxHeartbeats 1000000 in
theorem termOk_any (t : Tm) (w : World) (hs : t.2.2.size ≤ maxLen) :
    Calls Tryz.prog 157 #[.agg #[.int .i64 t.1, .int .i64 t.2.1, .string t.2.2]] w fun e w' => e = .returned (.bool (okTm t)) ∧ Below w.heap.size w w' := by
  obtain ⟨op, n, s⟩ := t
  simp only at hs ⊢
  go_enter Tryz.func157, Tryz.ntmps157
  go_wp2_with (go_at_call 171; refine (isPart_any s _ hs).mono ?_; rintro e w1 ⟨rfl, rfl⟩)
  all_goals go_ret
  all_goals refine ⟨rbool ?_, bl_alloc (Below.refl _ _) _⟩
  all_goals first | (simp_all [okTm]; done) | (simp_all [okTm]; omega)
end Go.Proofs.YtojajaibeifhoaaGreatDoor
namespace Go.Proofs.YtojajaibeifhoaaGreatDoor
open Go.RowKit Pl Il

def IsFn (v : Value) : Prop := ∃ k caps, v = .func (.func k) #[] caps
/-- What is asked of a relation 'this function value stands for this test': F are the blocks that it leans on. -/
structure Sys (R : List Nat → World → Value → Pd → Prop) : Prop where
  isfn : ∀ {F u v p}, R F u v p → IsFn v
  frame : ∀ {F u W v p}, R F u v p → u.heap.size ≤ W.heap.size → (∀ j, j ∈ F → W.heap[j]? = u.heap[j]?) → R F W v p
  lt : ∀ {F u v p}, R F u v p → ∀ j, j ∈ F → j < u.heap.size
  all : ∀ u, R [] u (.func (.func 156) #[] #[]) (fun _ => true)
  leaf : ∀ (t : Tm) (u : World), okTm t = true → cntM t.1 = 0 → t.2.2.size ≤ maxLen → Calls Tryz.prog 177 #[.agg #[.int .i64 t.1, .int .i64 t.2.1, .string t.2.2]] u fun e u' => ∃ v F, e = .returned v ∧ R F u' v (leafP t) ∧ (∀ j, j ∈ F → u.heap.size ≤ j) ∧ Below u.heap.size u u'
  nott : ∀ {F u v p} (c : Nat), R F u v p → u.heap[c]? = some (.cells #[v] 170 (0, 0)) → R (c :: F) u (.func (.func 174) #[] #[.pointer (some ⟨c, 0, none⟩)]) (fun b => !(p b))
  andd : ∀ {F F' u v v' p p'} (c c' : Nat), R F u v p → R F' u v' p' → u.heap[c]? = some (.cells #[v] 170 (0, 0)) → u.heap[c']? = some (.cells #[v'] 170 (0, 0)) → R (c :: c' :: (F ++ F')) u (.func (.func 175) #[] #[.pointer (some ⟨c, 0, none⟩), .pointer (some ⟨c', 0, none⟩)]) (fun b => p b && p' b)
  orr : ∀ {F F' u v v' p p'} (c c' : Nat), R F u v p → R F' u v' p' → u.heap[c]? = some (.cells #[v] 170 (0, 0)) → u.heap[c']? = some (.cells #[v'] 170 (0, 0)) → R (c :: c' :: (F ++ F')) u (.func (.func 176) #[] #[.pointer (some ⟨c, 0, none⟩), .pointer (some ⟨c', 0, none⟩)]) (fun b => p b || p' b)
/-- The stack in block L: vs are its function values, v the slice; they stand for ps. -/
structure Stk (R : List Nat → World → Value → Pd → Prop) (w0 : World) (L : Nat) (v : Value) (vs : List Value) (ps : List Pd) (u : World) : Prop where
  below : Below w0.heap.size w0 u
  hL : w0.heap.size ≤ L
  blk : u.heap[L]? = some (.cells #[v] 198 (0, 0))
  row : u.ownsRow (L + 1) 170 1 v vs.length vs
  len : ps.length = vs.length
  rep : ∀ i, i < vs.length → ∃ F, R F u (vs.getD i .nilFunc) (pg ps i) ∧ ∀ j, j ∈ F → j ≠ L ∧ v.ownBlock ≠ some j
theorem blk_cell {u : World} {L : Nat} {v : Value} {t : TypeId} (h : u.heap[L]? = some (.cells #[v] t (0, 0))) : u.cell? ⟨L, 0, none⟩ = some v ∧ L < u.heap.size ∧ ∀ o, u.frozen? ⟨L, o, none⟩ = false := by
  refine ⟨by simp [World.cell?, h], ?_, fun o => by simp [World.frozen?, h]⟩
  rcases Nat.lt_or_ge L u.heap.size with k | k
  · exact k
  · rw [Array.getElem?_eq_none k] at h; cases h
theorem blk_set {u : World} {L : Nat} {v : Value} {t : TypeId} (h : u.heap[L]? = some (.cells #[v] t (0, 0))) (y : Value) : (u.setCell ⟨L, 0, none⟩ y).heap[L]? = some (.cells #[y] t (0, 0)) := by
  simp [World.setCell, Array.getElem?_modify, h]
theorem infoFn : (Tryz.prog.info? 170).map (fun i => (i.zero, i.size, i.bytes)) = some (some .nilFunc, 1, 8) := by kernel_rfl
/-- One function value is appended to an own row. -/
theorem append_fn (B m : Nat) (v : Value) (vs : List Value) (f : Value) (w : World) (hf : IsFn f) (ho : w.ownsRow B 170 1 v m vs) (hB : B ≤ w.heap.size) (hs : m + 1 ≤ 4194304) :
    ∃ (g cap : Nat) (w' : World), (Builtin.append_ #[196, 196] 196 #[v, .slice (some ⟨w.heap.size, 0, none⟩) 1 1]).run Tryz.prog (w.alloc (.cells #[f] 170)) = .ok (.slice (some ⟨g, 0, none⟩) (m + 1) cap) w' ∧
      w'.ownsRow B 170 1 (.slice (some ⟨g, 0, none⟩) (m + 1) cap) (m + 1) (vs ++ [f]) ∧ w.grownBy w' v.ownBlock ∧ (v.ownBlock = some g ∨ w.heap.size < g) := by
  obtain ⟨i, hi, hz0, hz1, hz2⟩ := info_parts infoFn
  have hb0 : Below w.heap.size w (w.alloc (.cells #[f] 170)) := bl_alloc (Below.refl _ _) _
  have ho' : (w.alloc (.cells #[f] 170)).ownsRow B 170 1 v m vs := ho.alloc _
  obtain ⟨g, c, w', hr, hown, hg, hgo, _⟩ := run_append_lies (P := Tryz.prog) (w.alloc (.cells #[f] 170)) 196 196 B 170 i _ 1 8 Tryz.underlying196 hi hz0 hz1 hz2 rfl (by omega) v m _ ho' ⟨w.heap.size, 0, none⟩ 1 1 [f] (by simp)
    (fun j u h => by
      have hj : j = 0 := by
        have := (List.getElem?_eq_some_iff.1 h).1
        simp at this; omega
      subst hj
      simp at h
      subst h
      rw [Addr.add_lit]; simp)
    (fun u hu => by
      simp at hu
      subst hu
      obtain ⟨k, caps, rfl⟩ := hf
      rfl) (by omega) (by unfold maxLen; omega) (by omega) (by simp; omega) _ rfl
  refine ⟨g, c, w', hr, hown, ?_, ?_⟩
  · exact ⟨hg.os.trans hb0.os, hg.tape.trans hb0.tape, hg.output.trans hb0.output, Nat.le_trans hb0.size hg.size, fun k hk hne => (hg.block k (Nat.lt_of_lt_of_le hk hb0.size) hne).trans (hb0.block k hk)⟩
  · rcases hgo with h | h
    · exact .inl h
    · right; rw [h]; simp
theorem row_ge {B : Nat} {w : World} {t : TypeId} {v : Value} {n : Nat} {xs : List Value} (h : w.ownsRow B t 1 v n xs) {j : Nat} (hj : v.ownBlock = some j) : B ≤ j ∧ j < w.heap.size := h.lt j hj
theorem getD_snoc_lt {vs : List Value} {x : Value} {i : Nat} (h : i < vs.length) : (vs ++ [x]).getD i .nilFunc = vs.getD i .nilFunc := by
  simp [List.getD, List.getElem?_append_left h]
theorem getD_snoc_eq {vs : List Value} {x : Value} : (vs ++ [x]).getD vs.length .nilFunc = x := by simp [List.getD]
theorem pg_snoc_lt {ps : List Pd} {p : Pd} {i : Nat} (h : i < ps.length) : pg (ps ++ [p]) i = pg ps i := by
  simp [pg, List.getD, List.getElem?_append_left h]
theorem pg_snoc_eq {ps : List Pd} {p : Pd} : pg (ps ++ [p]) ps.length = p := by simp [pg, List.getD]
theorem pg_take {ps : List Pd} {i n : Nat} (h : i < n) : pg (ps.take n) i = pg ps i := by simp [pg, List.getD, List.getElem?_take_of_lt h]

set_option maxHeartbeats 1000000 in
theorem take_any {R : List Nat → World → Value → Pd → Prop} (S : Sys R) (w0 : World) (L : Nat) (v : Value) (vs : List Value) (x : Value) (ps : List Pd) (u : World) (hS : Stk R w0 L v (vs ++ [x]) ps u) (hn : vs.length ≤ 4194304) :
    Calls Tryz.prog 172 #[.pointer (some ⟨L, 0, none⟩)] u fun e u' => e = .returned x ∧ ∃ v', Stk R w0 L v' vs (ps.take vs.length) u' ∧ v'.ownBlock = v.ownBlock ∧ (∃ F, R F u' x (pg ps vs.length) ∧ ∀ j, j ∈ F → j ≠ L ∧ v'.ownBlock ≠ some j) ∧ u'.heap.size = u.heap.size ∧ ∀ k, k ≠ L → u'.heap[k]? = u.heap[k]? := by
  obtain ⟨hbl, hL, hblk, hrow, hlen, hrep⟩ := hS
  simp only [List.length_append, List.length_singleton] at hrow hlen hrep
  obtain ⟨hc, hlt, hfr⟩ := blk_cell hblk
  obtain ⟨g, cap, rfl, _, _⟩ := hrow.form (by omega)
  have hcap : vs.length + 1 ≤ cap := by
    obtain ⟨_, ⟨h0, _⟩ | ⟨g', cap', cur, hv, _, _, hc', _⟩⟩ := id hrow
    · cases h0
    · cases hv; exact hc'
  obtain ⟨F, hR, hF⟩ := hrep vs.length (by omega)
  rw [getD_snoc_eq] at hR
  have hgL : L + 1 ≤ g := (row_ge hrow (j := g) rfl).1
  have hx : u.cell? ⟨g, vs.length, none⟩ = some x := by
    rw [hrow.cellAt vs.length (by omega)]; simp
  obtain ⟨kx, cx, hfx⟩ := S.isfn hR
  obtain ⟨W, hW⟩ : ∃ W, W = u.setCell ⟨L, 0, none⟩ (.slice (some ⟨g, 0, none⟩) vs.length cap) := ⟨_, rfl⟩
  have hWk : ∀ k, k ≠ L → W.heap[k]? = u.heap[k]? := fun k hk => by rw [hW]; exact Below.heap_setCell _ _ _ _ (fun e => hk e)
  have hWs : W.heap.size = u.heap.size := by rw [hW]; simp
  have hWL : W.heap[L]? = some (.cells #[.slice (some ⟨g, 0, none⟩) vs.length cap] 198 (0, 0)) := by rw [hW]; exact blk_set hblk _
  have hrow' : W.ownsRow (L + 1) 170 1 (.slice (some ⟨g, 0, none⟩) vs.length cap) vs.length vs := by
    have h1 := ownsRow_pop (xs := vs) (last := [x]) (by omega) hrow
    rw [hW]
    exact h1.kept (row := some L) ⟨rfl, rfl, rfl, by simp, fun k _ hk => Below.heap_setCell _ _ _ _ (by rintro rfl; exact hk rfl)⟩ (.inr (by simp [Value.ownBlock]; omega))
  have hfin : Stk R w0 L (.slice (some ⟨g, 0, none⟩) vs.length cap) vs (ps.take vs.length) W :=
    ⟨by rw [hW]; exact hbl.setCell (p := ⟨L, 0, none⟩) hL _, hL, hWL, hrow', by rw [List.length_take]; omega, fun i hi => by
      obtain ⟨F', hR', hF'⟩ := hrep i (by omega)
      rw [getD_snoc_lt hi] at hR'
      exact ⟨F', by rw [pg_take hi]; exact S.frame hR' (by omega) (fun j hj => hWk j (hF' j hj).1), fun j hj => ⟨(hF' j hj).1, (hF' j hj).2⟩⟩⟩
  have HF := hidOf (And.intro hfin (And.intro (S.frame hR (W := W) (by omega) (fun j hj => hWk j (hF j hj).1)) (And.intro hWs hWk)))
  have hFF := hidOf hF
  clear hfin hrow' hWL hWs hWk hR hF hrep hrow hblk hbl hlen
  subst hfx
  have e1 : ((vs.length + 1 : Nat) : Int) - 1 = (vs.length : Int) := by omega
  go_enter Tryz.func172, Tryz.ntmps172
  go_wp2
  rw [← hW]
  go_ret
  exact ⟨rfl, _, HF.out.1, rfl, ⟨F, HF.out.2.1, fun j hj => hFF.out j hj⟩, HF.out.2.2.1, HF.out.2.2.2⟩
end Go.Proofs.YtojajaibeifhoaaGreatDoor
