/-
  A notification in a variable of its own: a grant is appended, a number is appended to its line.
-/
import Derived.Test.YtfgknbflgmblmaaSN4
import Derived.Test.YtfgknbflgmblmaaNM2
namespace Go.Proofs.Ytfgknbflgmblmaa
open Go.RowKit Pl Il

theorem NRow.ne {B : Nat} {w : World} {A : Na} {x : Nt} (h : NRow B w A x) (q : Nat) (h1 : (Value.slice A.a A.n A.c).ownBlock = some q) : (Value.slice A.a' A.n' A.c').ownBlock ≠ some q := by
  intro h2
  obtain ⟨_, ⟨ea, en⟩ | ⟨g, cap, cur, ea, hB, hg, hr⟩⟩ := h.one
  · rw [ea] at h1; simp [Value.ownBlock] at h1
  obtain ⟨_, ⟨ea', en'⟩ | ⟨g', cap', cur', ea', hB', hg', hr'⟩⟩ := h.two
  · rw [ea'] at h2; simp [Value.ownBlock] at h2
  rw [ea] at h1
  rw [ea'] at h2
  have e1 : g = q := by simpa [Value.ownBlock] using h1
  have e2 : g' = q := by simpa [Value.ownBlock] using h2
  subst e1
  subst e2
  rw [hg] at hg'
  simp at hg'
/-- A grant is appended. -/
theorem NSr.grow {B N : Nat} {A : Na} {x : Nt} {w w' : World} {g' c' : Nat} {y : Int} {b : Bool} (h : NSr B N A x w) (ho : w'.ownsRow B 44 2 (.slice (some ⟨g', 0, none⟩) (A.n' + 1) c') (A.n' + 1) (gflat (x.gs ++ [(y, b)]))) (hg : w.grownBy w' (Value.slice A.a' A.n' A.c').ownBlock) (hl : (Value.slice A.a' A.n' A.c').ownBlock = some g' ∨ w.heap.size ≤ g') :
    NBox N A x w' ∧ NSr B N { A with a' := some ⟨g', 0, none⟩, n' := A.n' + 1, c' := c' } { x with gs := x.gs ++ [(y, b)] } (w'.setCell ⟨N, 2, none⟩ (.slice (some ⟨g', 0, none⟩) (A.n' + 1) c')) := by
  have hb := h.box.grownO hg h.ne2
  have hlt := h.box.lt
  have hne : (Value.slice (some ⟨g', 0, none⟩) (A.n' + 1) c').ownBlock ≠ some N := fun e => by
    have e' : g' = N := by simpa [Value.ownBlock] using e
    rcases hl with hl | hl
    · exact h.ne2 (by rw [hl, e'])
    · omega
  have h1 := grow_far h.rows.one hg (fun q e e2 => h.rows.ne q e2 e)
  exact ⟨hb, hb.set2.lists x.ln _, h.ge, ⟨own_set h1 N 2 h.ne1 _, own_set ho N 2 hne _⟩, h.ne1, hne⟩
/-- A number is appended to the line. -/
theorem NSr.join {B N : Nat} {A : Na} {x : Nt} {w w' : World} {g' c' : Nat} {y : Int} (h : NSr B N A x w) (ho : w'.ownsRow B 3 1 (.slice (some ⟨g', 0, none⟩) (A.n + 1) c') (A.n + 1) (intsV (x.ln ++ [y]))) (hg : w.grownBy w' (Value.slice A.a A.n A.c).ownBlock) (hl : (Value.slice A.a A.n A.c).ownBlock = some g' ∨ w.heap.size ≤ g') :
    NBox N A x w' ∧ NSr B N { A with a := some ⟨g', 0, none⟩, n := A.n + 1, c := c' } { x with ln := x.ln ++ [y] } (w'.setCell ⟨N, 1, none⟩ (.slice (some ⟨g', 0, none⟩) (A.n + 1) c')) := by
  have hb := h.box.grownO hg h.ne1
  have hlt := h.box.lt
  have hne : (Value.slice (some ⟨g', 0, none⟩) (A.n + 1) c').ownBlock ≠ some N := fun e => by
    have e' : g' = N := by simpa [Value.ownBlock] using e
    rcases hl with hl | hl
    · exact h.ne1 (by rw [hl, e'])
    · omega
  have h1 := grow_far h.rows.two hg (fun q e e2 => h.rows.ne q e e2)
  exact ⟨hb, hb.set1.lists _ x.gs, h.ge, ⟨own_set ho N 1 hne _, own_set h1 N 1 h.ne2 _⟩, hne, h.ne2⟩
theorem NCtx.grown {w : World} {A : Na} {x : Nt} {u u' : World} {g : Option Nat} (h : NCtx w A x u) (hg : u.grownBy u' g) (hq : ∀ q, g = some q → w.heap.size + 2 ≤ q) (N o : Nat) (hN : w.heap.size + 2 ≤ N) (v : Value) : NCtx w A x u' ∧ NCtx w A x (u'.setCell ⟨N, o, none⟩ v) := by
  have h1 : Below (w.heap.size + 2) u u' := (Below.refl _ _).grown hg h.sz hq
  exact ⟨h.keep h1 (Nat.le_refl _), h.keep (bl_set1' h1 N o hN v) (Nat.le_refl _)⟩
theorem own6 {B N m : Nat} {w : World} {a : Option Addr} {l : List Int} (h : Il.OwnAt B w a m l) (hN : N < B) (y0 y1 y2 y3 y4 y5 : Value) :
    Il.OwnAt B ((((((w.setCell ⟨N, 0, none⟩ y0).setCell ⟨N, 1, none⟩ y1).setCell ⟨N, 2, none⟩ y2).setCell ⟨N, 3, none⟩ y3).setCell ⟨N, 4, none⟩ y4).setCell ⟨N, 5, none⟩ y5) a m l :=
  (((((h.far N 0 hN y0).far N 1 hN y1).far N 2 hN y2).far N 3 hN y3).far N 4 hN y4).far N 5 hN y5
theorem nstep_append_ex {P : Program} {ops : Array Oper} {o : Oper} {a : Act} {w : World} {K : Act → World → Prop} {Q : Exit → Act → World → Prop} {E : Prop} {R : Value → World → Prop} (hgd : o.guard = none) (s x : Operand) (t : TypeId)
    (ho : o.op = .call { callee := .builtin .append, args := #[s, x], argTypes := #[t, t] }) (v u : Value) (hs : a.eval s = v) (hx : a.eval x = u)
    (hr : ∃ v' w', (Builtin.append_ #[t, t] o.type #[v, u]).run P w = .ok v' w' ∧ R v' w') (h : ∀ v' w', R v' w' → K (a.put o.dst v') w') :
    if Region.wanted o (yielded ops a.tmps) = true then Oper.wp P o a w K Q else E := by
  have hw : Region.wanted o (yielded ops a.tmps) = true := by simp [Region.wanted, hgd]
  rw [if_pos hw]
  obtain ⟨v', w', hrun, hR⟩ := hr
  unfold Oper.wp execOp
  simp only [ho, resolve, invoke, builtin, Sem.run_bind, Sem.run_pure, Result.andThen_ok, List.map_toArray, List.map_cons, List.map_nil, hs, hx, hrun]
  exact h v' w' hR
theorem nstep_append_run {P : Program} {ops : Array Oper} {o : Oper} {a : Act} {w w' : World} {K : Act → World → Prop} {Q : Exit → Act → World → Prop} {E : Prop} (hgd : o.guard = none) (s x : Operand) (t : TypeId)
    (ho : o.op = .call { callee := .builtin .append, args := #[s, x], argTypes := #[t, t] }) (v u v' : Value) (hs : a.eval s = v) (hx : a.eval x = u)
    (hr : (Builtin.append_ #[t, t] o.type #[v, u]).run P w = .ok v' w') (h : K (a.put o.dst v') w') :
    if Region.wanted o (yielded ops a.tmps) = true then Oper.wp P o a w K Q else E :=
  nstep_append_ex (R := fun v1 w1 => v1 = v' ∧ w1 = w') hgd s x t ho v u hs hx ⟨v', w', hr, rfl, rfl⟩ (fun _ _ h1 => by obtain ⟨rfl, rfl⟩ := h1; exact h)
end Go.Proofs.Ytfgknbflgmblmaa
