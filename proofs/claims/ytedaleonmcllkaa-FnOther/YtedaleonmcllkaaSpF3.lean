/-
  Walks of the specification's filters: what a filter leaves of a message; its Passes.
-/
import Derived.Test.YtedaleonmcllkaaSpF2
import Derived.Deep.AppendLies
import Derived.WalkSmall
import Derived.Deep.RegionHeld3
namespace Go.Proofs.Ytedaleonmcllkaa
open Go.RowKit Pl Il

theorem fstep_append_ex {P : Program} {ops : Array Oper} {o : Oper} {a : Act} {w : World} {K : Act → World → Prop} {Q : Exit → Act → World → Prop} {E : Prop} {R : Value → World → Prop} (hgd : o.guard = none) (s x : Operand) (t : TypeId)
    (ho : o.op = .call { callee := .builtin .append, args := #[s, x], argTypes := #[t, t] }) (v u : Value) (hs : a.eval s = v) (hx : a.eval x = u)
    (hr : ∃ v' w', (Builtin.append_ #[t, t] o.type #[v, u]).run P w = .ok v' w' ∧ R v' w') (h : ∀ v' w', R v' w' → K (a.put o.dst v') w') :
    if Region.wanted o (yielded ops a.tmps) = true then Oper.wp P o a w K Q else E := by
  have hw : Region.wanted o (yielded ops a.tmps) = true := by simp [Region.wanted, hgd]
  rw [if_pos hw]
  obtain ⟨v', w', hrun, hR⟩ := hr
  unfold Oper.wp execOp
  simp only [ho, resolve, invoke, builtin, Sem.run_bind, Sem.run_pure, Result.andThen_ok, List.map_toArray, List.map_cons, List.map_nil, hs, hx, hrun]
  exact h v' w' hR
theorem fstep_append_run {P : Program} {ops : Array Oper} {o : Oper} {a : Act} {w w' : World} {K : Act → World → Prop} {Q : Exit → Act → World → Prop} {E : Prop} (hgd : o.guard = none) (s x : Operand) (t : TypeId)
    (ho : o.op = .call { callee := .builtin .append, args := #[s, x], argTypes := #[t, t] }) (v u v' : Value) (hs : a.eval s = v) (hx : a.eval x = u)
    (hr : (Builtin.append_ #[t, t] o.type #[v, u]).run P w = .ok v' w') (h : K (a.put o.dst v') w') :
    if Region.wanted o (yielded ops a.tmps) = true then Oper.wp P o a w K Q else E :=
  fstep_append_ex (R := fun v1 w1 => v1 = v' ∧ w1 = w') hgd s x t ho v u hs hx ⟨v', w', hr, rfl, rfl⟩ (fun _ _ h1 => by obtain ⟨rfl, rfl⟩ := h1; exact h)
theorem okF_pre {f : List Tm} (h : okF f = true) {k : Nat} : ∃ m, goN (f.take k) 0 = some m := by
  cases e : goN (f.take k) 0 with
  | some m => exact ⟨m, rfl⟩
  | none =>
    exfalso
    have h2 : goN f 0 = none := by
      have e' : f = f.take k ++ f.drop k := (List.take_append_drop _ _).symm
      rw [e', goN_append, e]; rfl
    cases f with
    | nil => simp [goN] at h2
    | cons x l => simp [okF, h2] at h
theorem okF_at {f : List Tm} (h : okF f = true) {k : Nat} (hk : k < f.length) {m : Nat} (hm : goN (f.take k) 0 = some m) : okTm (qg f k) = true ∧ ¬ m < cntM (qg f k).1 := by
  constructor
  · cases e : okTm (qg f k) with
    | true => rfl
    | false => have := okF_stop hk hm (.inl e); rw [h] at this; cases this
  · intro e
    have := okF_stop hk hm (.inr e)
    rw [h] at this; cases this
def bitsV (ps : List Pd) (b : Bd) : List Value := ps.map fun p => .bool (p b)
theorem bits_len (ps : List Pd) (b : Bd) : (bitsV ps b).length = ps.length := by simp [bitsV]
theorem bits_snoc (ps : List Pd) (p : Pd) (b : Bd) : bitsV (ps ++ [p]) b = bitsV ps b ++ [.bool (p b)] := by simp [bitsV]
theorem infoBo : (Try.prog.info? 4).map (fun i => (i.zero, i.size, i.bytes)) = some (some (.bool false), 1, 1) := by kernel_rfl
/-- One truth value is appended to an own row. -/
theorem append_bit (B m : Nat) (v : Value) (vs : List Value) (x : Bool) (w : World) (ho : w.ownsRow B 4 1 v m vs) (hB : B ≤ w.heap.size) (hs : m + 1 ≤ 4194304) :
    ∃ (g cap : Nat) (w' : World), (Builtin.append_ #[92, 92] 92 #[v, .slice (some ⟨w.heap.size, 0, none⟩) 1 1]).run Try.prog (w.alloc (.cells #[.bool x] 4)) = .ok (.slice (some ⟨g, 0, none⟩) (m + 1) cap) w' ∧
      w'.ownsRow B 4 1 (.slice (some ⟨g, 0, none⟩) (m + 1) cap) (m + 1) (vs ++ [.bool x]) ∧ w.grownBy w' v.ownBlock := by
  obtain ⟨i, hi, hz0, hz1, hz2⟩ := info_parts infoBo
  have hb0 : Below w.heap.size w (w.alloc (.cells #[.bool x] 4)) := bl_alloc (Below.refl _ _) _
  have ho' : (w.alloc (.cells #[.bool x] 4)).ownsRow B 4 1 v m vs := ho.alloc _
  obtain ⟨g, c, w', hr, hown, hg, _, _⟩ := run_append_lies (P := Try.prog) (w.alloc (.cells #[.bool x] 4)) 92 92 B 4 i _ 1 1 Try.underlying92 hi hz0 hz1 hz2 rfl (by omega) v m _ ho' ⟨w.heap.size, 0, none⟩ 1 1 [.bool x] (by simp)
    (fun j u h => by
      have hj : j = 0 := by
        have := (List.getElem?_eq_some_iff.1 h).1
        simp at this; omega
      subst hj
      simp at h
      subst h
      rw [Addr.add_lit]; simp)
    (fun u hu => by
      simp at hu
      subst hu
      rfl) (by omega) (by unfold maxLen; omega) (by omega) (by simp; omega) _ rfl
  refine ⟨g, c, w', hr, hown, ?_⟩
  exact ⟨hg.os.trans hb0.os, hg.tape.trans hb0.tape, hg.output.trans hb0.output, Nat.le_trans hb0.size hg.size, fun k hk hne => (hg.block k (Nat.lt_of_lt_of_le hk hb0.size) hne).trans (hb0.block k hk)⟩
/-- What a round reads. -/
abbrev LeftS (b o M : Nat) (z : Tm) (k n : Int) (s : ByteArray) (u0 w : World) : Prop :=
  w.cell? ⟨b, o, none⟩ = some (.int .i64 z.1) ∧ w.cell? ⟨b, o + 1, none⟩ = some (.int .i64 z.2.1) ∧ w.cell? ⟨b, o + 2, none⟩ = some (.string z.2.2) ∧ w.cell? ⟨M, 0, none⟩ = some (.int .i64 k) ∧ w.cell? ⟨M, 1, none⟩ = some (.int .i64 n) ∧ w.cell? ⟨M, 2, none⟩ = some (.string s) ∧ Below u0.heap.size u0 w
theorem LeftS.keep {b o M : Nat} {z : Tm} {k n : Int} {s : ByteArray} {u0 w w' : World} (h : LeftS b o M z k n s u0 w) (hb : Below u0.heap.size w w') (hl : b < u0.heap.size) (hl' : M < u0.heap.size) : LeftS b o M z k n s u0 w' := by
  obtain ⟨h0, h1, h2, h3, h4, h5, h6⟩ := h
  exact ⟨by rw [hb.cell (p := ⟨b, o, none⟩) hl]; exact h0, by rw [hb.cell (p := ⟨b, o + 1, none⟩) hl]; exact h1, by rw [hb.cell (p := ⟨b, o + 2, none⟩) hl]; exact h2, by rw [hb.cell (p := ⟨M, 0, none⟩) hl']; exact h3, by rw [hb.cell (p := ⟨M, 1, none⟩) hl']; exact h4, by rw [hb.cell (p := ⟨M, 2, none⟩) hl']; exact h5, h6.trans hb⟩
theorem rowB_keep {B : Nat} {w w' : World} {v : Value} {n : Nat} {t : TypeId} {xs : List Value} (h : w.ownsRow B t 1 v n xs) (hb : Below w.heap.size w w') : w'.ownsRow B t 1 v n xs := by
  refine h.kept (row := none) ⟨hb.os, hb.tape, hb.output, hb.size, fun k hk _ => hb.block k hk⟩ ?_
  cases v.ownBlock with
  | none => exact .inl rfl
  | some _ => exact .inr (by simp)
theorem pd_snoc {ps : List Pd} (h : 0 < ps.length) : ∃ qs p, ps = qs ++ [p] := by
  have hne : ps ≠ [] := by rintro rfl; simp at h
  exact ⟨ps.dropLast, ps.getLast hne, (List.dropLast_concat_getLast hne).symm⟩
theorem step8 {z : Tm} (qs : List Pd) (p : Pd) (b : Bd) (h : z.1 = 8) : bitsV (stepP z (qs ++ [p])) b = bitsV qs b ++ [.bool (!(p b))] := by
  rw [stepP_8 h]
  have e : (qs ++ [p]).length - 1 = qs.length := by simp
  rw [e, List.take_left, pg_snoc_eq, bits_snoc]
theorem step9 {z : Tm} (qs : List Pd) (p q : Pd) (b : Bd) (h : z.1 = 9) : bitsV (stepP z (qs ++ [p] ++ [q])) b = bitsV qs b ++ [.bool (p b && q b)] := by
  rw [stepP_9 h]
  have e : (qs ++ [p] ++ [q]).length - 1 = (qs ++ [p]).length := by simp
  have e2 : (qs ++ [p] ++ [q]).length - 2 = qs.length := by simp
  rw [e, e2, List.append_assoc, List.take_left, ← List.append_assoc, pg_snoc_eq, bits_snoc, pg_snoc_lt (by simp), pg_snoc_eq, Bool.and_comm]
theorem step10 {z : Tm} (qs : List Pd) (p q : Pd) (b : Bd) (h : z.1 = 10) : bitsV (stepP z (qs ++ [p] ++ [q])) b = bitsV qs b ++ [.bool (p b || q b)] := by
  rw [stepP_10 h]
  have e : (qs ++ [p] ++ [q]).length - 1 = (qs ++ [p]).length := by simp
  have e2 : (qs ++ [p] ++ [q]).length - 2 = qs.length := by simp
  rw [e, e2, List.append_assoc, List.take_left, ← List.append_assoc, pg_snoc_eq, bits_snoc, pg_snoc_lt (by simp), pg_snoc_eq, Bool.or_comm]
theorem set_snoc {l : List Value} {x y : Value} : (l ++ [x]).set l.length y = l ++ [y] := by simp
theorem set_snoc2 {l : List Value} {x z y : Value} : (l ++ [x] ++ [z]).set l.length y = l ++ [y] ++ [z] := by
  rw [List.append_assoc, List.append_assoc, List.set_append_right _ _ (Nat.le_refl _)]
  simp
end Go.Proofs.Ytedaleonmcllkaa
