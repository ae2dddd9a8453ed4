/-
  The program's heap of timers: one is put behind, the last one is taken.
-/
import Derived.Test.YtfahfbeemgigcaaU2
import Derived.Deep.RegionLaw
namespace Go.Proofs.Ytfahfbeemgigcaa
open Go.RowKit Pl Il Th

/-- At a step of a region that draws: an append whose run is known to end. -/
theorem step_append_ex {P : Program} {ops : Array Oper} {o : Oper} {a : Act} {w : World} {K : Act → World → Prop} {Q : Exit → Act → World → Prop} {E : Prop} {R : Value → World → Prop} (hgd : o.guard = none) (s x : Operand) (t : TypeId)
    (ho : o.op = .call { callee := .builtin .append, args := #[s, x], argTypes := #[t, t] }) (v u : Value) (hs : a.eval s = v) (hx : a.eval x = u)
    (hr : ∃ v' w', (Builtin.append_ #[t, t] o.type #[v, u]).run P w = .ok v' w' ∧ R v' w') (h : ∀ v' w', R v' w' → K (a.put o.dst v') w') :
    if Region.wanted o (yielded ops a.tmps) = true then Oper.wp P o a w K Q else E := by
  have hw : Region.wanted o (yielded ops a.tmps) = true := by simp [Region.wanted, hgd]
  rw [if_pos hw]
  obtain ⟨v', w', hrun, hR⟩ := hr
  unfold Oper.wp execOp
  simp only [ho, resolve, invoke, builtin, Sem.run_bind, Sem.run_pure, Result.andThen_ok, List.map_toArray, List.map_cons, List.map_nil, hs, hx, hrun]
  exact h v' w' hR
theorem step_append_run {P : Program} {ops : Array Oper} {o : Oper} {a : Act} {w w' : World} {K : Act → World → Prop} {Q : Exit → Act → World → Prop} {E : Prop} (hgd : o.guard = none) (s x : Operand) (t : TypeId)
    (ho : o.op = .call { callee := .builtin .append, args := #[s, x], argTypes := #[t, t] }) (v u v' : Value) (hs : a.eval s = v) (hx : a.eval x = u)
    (hr : (Builtin.append_ #[t, t] o.type #[v, u]).run P w = .ok v' w') (h : K (a.put o.dst v') w') :
    if Region.wanted o (yielded ops a.tmps) = true then Oper.wp P o a w K Q else E :=
  step_append_ex (R := fun v1 w1 => v1 = v' ∧ w1 = w') hgd s x t ho v u hs hx ⟨v', w', hr, rfl, rfl⟩ (fun _ _ h1 => by obtain ⟨rfl, rfl⟩ := h1; exact h)
theorem infoNT : (Try.prog.info? 83).map (fun i => (i.zero, i.size, i.bytes)) = some (some (.agg #[.int .i64 0, .int .i64 0, .int .i64 0]), 3, 24) := by kernel_rfl
theorem flat_snoc (l : List NT) (x : NT) : flat (l ++ [x]) = flat l ++ ntC x := by simp [flat]
theorem new_cells (w : World) (x : NT) (t : TypeId) : ∀ j u, (ntC x)[j]? = some u → (w.alloc (.cells #[.int .i64 x.tm, .int .i64 x.tok, .int .i64 x.num] t)).cell? ((⟨w.heap.size, 0, none⟩ : Addr).add j) = some u := by
  intro j u hu
  have hadd : (⟨w.heap.size, 0, none⟩ : Addr).add j = ⟨w.heap.size, j, none⟩ := by unfold Addr.add; split <;> simp_all
  rw [hadd, World.cell?_alloc_new]
  rw [← hu, ← Array.getElem?_toList]
  rfl
theorem append_nt (B : Nat) (v : Value) (l : List NT) (x : NT) (w : World) (ho : w.ownsRow B 83 3 v l.length (flat l)) (hB : B ≤ w.heap.size) (hs : l.length + 1 ≤ 100) :
    ∃ (g' c' : Nat) (w' : World), (Builtin.append_ #[78, 78] 78 #[v, .slice (some ⟨w.heap.size, 0, none⟩) 1 1]).run Try.prog (w.alloc (.cells #[.int .i64 x.tm, .int .i64 x.tok, .int .i64 x.num] 83)) = .ok (.slice (some ⟨g', 0, none⟩) (l.length + 1) c') w' ∧
      w'.ownsRow B 83 3 (.slice (some ⟨g', 0, none⟩) (l.length + 1) c') (l.length + 1) (flat (l ++ [x])) ∧ w.grownBy w' v.ownBlock := by
  obtain ⟨i, hi, hz0, hz1, hz2⟩ := info_parts infoNT
  obtain ⟨g', c', w', hr, hown, hgrow, hl, _⟩ := run_append_lies (P := Try.prog) (w.alloc (.cells #[.int .i64 x.tm, .int .i64 x.tok, .int .i64 x.num] 83)) 78 78 B 83 i _ 3 24 Try.underlying78 hi hz0 hz1 hz2 rfl (by omega) v l.length _ (ho.alloc _) ⟨w.heap.size, 0, none⟩ 1 1 (ntC x) rfl
    (new_cells _ _ _) (fun u hu => by simp [ntC] at hu; rcases hu with rfl | rfl | rfl <;> rfl) (by omega) (by unfold maxLen; omega) (by omega) (by simp; omega) _ rfl
  exact ⟨g', c', w', hr, by rw [flat_snoc]; exact hown, (World.grownBy_alloc w _ _).trans hgrow⟩
theorem set_block {w : World} {b o : Nat} {cs : Array Value} {t : TypeId} {z : Nat × Nat} {x : Value} (h : w.heap[b]? = some (.cells cs t z)) : (w.setCell ⟨b, o, none⟩ x).heap[b]? = some (.cells (cs.setIfInBounds o x) t z) := by
  have hlt := lt_blk h
  have hq : w.heap[b] = .cells cs t z := by
    rw [Array.getElem?_eq_getElem hlt] at h
    exact Option.some.inj h
  simp [World.setCell, Array.getElem_modify, hlt, hq]
theorem setCell_grown (w : World) (b o : Nat) (x : Value) : w.grownBy (w.setCell ⟨b, o, none⟩ x) (some b) := grown_set (grown_refl w _) o x
/-- The heap's own struct is written: another row, another number. -/
theorem HFr.setH {B : Nat} {w : World} {hb : Nat} {cs : Array Value} (h : w.heap[hb]? = some (.cells cs 80 (0, 0))) (hB : B ≤ hb) (o : Nat) (x : Value) : HFr B w (w.setCell ⟨hb, o, none⟩ x) :=
  ⟨(Below.refl _ _).setCell (p := ⟨hb, o, none⟩) hB x, fun b cs' t z hbk h1 _ => Below.heap_setCell w ⟨hb, o, none⟩ x b (by
    rintro rfl
    rw [h] at hbk
    simp at hbk
    exact h1 hbk.2.1.symm)⟩
theorem HFr.size {B : Nat} {w w' : World} (h : HFr B w w') : w.heap.size ≤ w'.heap.size := h.below.size

theorem assert_nt (v : Value) (w : World) : (Instr.typeAssert (.iface 83 v) 20 83 false).run Try.prog w = .ok v w := by kernel_rfl

set_option maxRecDepth 100000 in
set_option maxHeartbeats 1000000 in
theorem hpush_any (B hb : Nat) (tv : Value) (k : Int) (l : List NT) (x : NT) (w : World) (h : HMem B w hb tv k l) (hl : l.length + 1 ≤ 100) :
    Calls Try.prog 85 #[.pointer (some ⟨hb, 0, none⟩), .iface 83 (ntV x)] w fun e w' => e = .returned (.tuple #[]) ∧ (∃ tv', HMem B w' hb tv' k (l ++ [x])) ∧ HFr B w w' := by
  have hd := h.keep (Below.refl _ _).drew
  obtain ⟨g', c', w1, hr, ho, hg⟩ := append_nt B tv l x w.drew hd.row hd.size hl
  obtain ⟨hF1, hk1⟩ := hd.turn hg
  have hk2 := hk1.trans hd.blk
  have hF2 := hF1.trans (HFr.setH hk2 h.ge 0 (.slice (some ⟨g', 0, none⟩) (l.length + 1) c'))
  have c0 := h.c0
  have hco : ∀ o, (w.alloc o).cell? ⟨hb, 0, none⟩ = some tv := fun o => by rw [World.cell?_alloc_old _ _ _ (Nat.ne_of_lt h.lt)]; exact c0
  have c1 : w1.cell? ⟨hb, 0, none⟩ = some tv := by simp [World.cell?, hk2]
  have f1 : w1.frozen? ⟨hb, 0, none⟩ = false := by simp [World.frozen?, hk2]
  have hM : HMem B (w1.setCell ⟨hb, 0, none⟩ (.slice (some ⟨g', 0, none⟩) (l.length + 1) c')) hb (.slice (some ⟨g', 0, none⟩) (l.length + 1) c') k (l ++ [x]) := by
    refine ⟨by rw [set_block hk2]; rfl, ?_, h.ge⟩
    rw [List.length_append]
    refine ho.kept (setCell_grown w1 hb 0 _) (.inr ?_)
    intro e
    simp [Value.ownBlock] at e
    obtain ⟨_, ⟨e1, _⟩ | ⟨q, cap, cur, e1, _, hq, _⟩⟩ := ho
    · cases e1
    · cases e1
      subst e
      rw [hk2] at hq
      simp at hq
  have hFw : HFr B w w.drew := HFr.of (Below.refl _ _).drew h.size
  have HF := hidOf (hFw.trans hF2)
  have HM := hidOf hM
  have Hr := hidOf hr
  obtain ⟨a0, cap0, rfl, _⟩ := h.len
  clear hr hM hF2 hF1 hk1 hk2 hd h ho hg hFw
  generalize l.length = m at *
  unfold ntV
  have hta := assert_nt (.agg #[.int .i64 x.tm, .int .i64 x.tok, .int .i64 x.num])
  go_enter Try.func85, Try.ntmps85
  go_wp2_with fail
  go_region_law (refine step_append_run (by rfl) _ _ 78 (by rfl) (.slice a0 m cap0) (.slice (some ⟨w.heap.size, 0, none⟩) 1 1) _ (by rfl) (by rfl) Hr.out ?_)
  all_goals go_wp2
  all_goals go_end0
  all_goals exact ⟨rfl, ⟨_, HM.out⟩, HF.out⟩

theorem flat_take (l : List NT) (n : Nat) : flat (l.take n) = (flat l).take (n * 3) := by
  induction l generalizing n with
  | nil => simp [flat]
  | cons x l ih =>
    cases n with
    | zero => simp [flat]
    | succ n =>
      have e : flat (x :: l) = ntC x ++ flat l := by simp [flat]
      rw [List.take_succ_cons, e, show flat (x :: l.take n) = ntC x ++ flat (l.take n) by simp [flat], ih]
      rw [List.take_append]
      have hc : (ntC x).length = 3 := rfl
      rw [hc, List.take_of_length_le (l := ntC x) (by rw [hc]; omega), show (n + 1) * 3 - 3 = n * 3 by omega]
theorem own_cut {B : Nat} {w : World} {b n m cap : Nat} {l : List NT} (h : w.ownsRow B 83 3 (.slice (some ⟨b, 0, none⟩) n cap) n (flat l)) (hm : m ≤ n) (hl : l.length = n) : w.ownsRow B 83 3 (.slice (some ⟨b, 0, none⟩) m cap) m (flat (l.take m)) := by
  obtain ⟨_, ⟨e1, _⟩ | ⟨q, cap', cur, e1, hB, hq, hc, hx, hs, ht⟩⟩ := h
  · cases e1
  · cases e1
    refine ⟨by rw [length_flat, List.length_take]; omega, .inr ⟨_, _, cur, rfl, hB, hq, by omega, hx, hs, ?_⟩⟩
    rw [flat_take, ← ht, List.take_take, Nat.min_eq_left (by omega)]

/-- The row is cut. -/
theorem HMem.cut {B : Nat} {w : World} {hb b cap n : Nat} {k : Int} {l : List NT} (h : HMem B w hb (.slice (some ⟨b, 0, none⟩) n cap) k l) (hl : l.length = n) (m : Nat) (hm : m ≤ n) : HMem B (w.setCell ⟨hb, 0, none⟩ (.slice (some ⟨b, 0, none⟩) m cap)) hb (.slice (some ⟨b, 0, none⟩) m cap) k (l.take m) ∧ HFr B w (w.setCell ⟨hb, 0, none⟩ (.slice (some ⟨b, 0, none⟩) m cap)) := by
  subst hl
  refine ⟨⟨by rw [set_block h.blk]; rfl, ?_, h.ge⟩, HFr.setH h.blk h.ge _ _⟩
  have hr := own_cut h.row hm rfl
  have e : (l.take m).length = m := by rw [List.length_take]; omega
  rw [e]
  exact hr.kept (setCell_grown w hb 0 _) (.inr (fun e => h.rowH (by simpa [Value.ownBlock] using e)))

set_option maxRecDepth 100000 in
set_option maxHeartbeats 1000000 in
theorem hpop_any (B hb : Nat) (tv : Value) (k : Int) (l : List NT) (n : Nat) (w : World) (h : HMem B w hb tv k l) (hn : l.length = n + 1) (hl : l.length ≤ 100) :
    Calls Try.prog 84 #[.pointer (some ⟨hb, 0, none⟩)] w fun e w' => e = .returned (.iface 83 (ntV (g l n))) ∧ (∃ tv', HMem B w' hb tv' k (l.take n)) ∧ HFr B w w' := by
  have c0 := h.c0
  have f0 := h.fr 0
  obtain ⟨b, cap, rfl, _, hcap, _⟩ := h.form (by omega)
  obtain ⟨x1, y1, z1⟩ := row_cells h.row rfl (i := n) (by omega)
  have hA := h.keep (bl_alloc (Below.refl _ _) (.cells #[.int .i64 (g l n).tm, .int .i64 (g l n).tok, .int .i64 (g l n).num] 83))
  have hrw := hn
  rw [hn] at c0 hcap hA hl
  have hbn : (0 : Int) ≤ (n : Int) ∧ (n : Int) < ((n : Int) + 1) := by omega
  have hsub : ((n : Int) + 1) - 1 = n := by omega
  have hco : ∀ o, (w.alloc o).cell? ⟨hb, 0, none⟩ = some (.slice (some ⟨b, 0, none⟩) (n + 1) cap) := fun o => by rw [World.cell?_alloc_old _ _ _ (Nat.ne_of_lt h.lt)]; exact c0
  have hcf : ∀ o, (w.alloc o).frozen? ⟨hb, 0, none⟩ = false := fun o => by rw [World.frozen?_alloc_old _ _ _ (Nat.ne_of_lt h.lt)]; exact f0
  have hne : ¬ hb = w.heap.size := Nat.ne_of_lt h.lt
  have hne' : ¬ w.heap.size = hb := fun e => hne e.symm
  have hcp : ¬ (cap : Int) < (n : Int) := by omega
  have hM := hidOf (HMem.cut hA hn n (by omega))
  clear hA
  unfold ntV
  generalize g l n = x at *
  rw [hn] at h
  clear hn hrw
  go_enter Try.func84, Try.ntmps84
  go_wp2
  refine bodyPost_ret (v := .iface 83 (.agg #[.int .i64 x.tm, .int .i64 x.tok, .int .i64 x.num])) (by simp [results, Try.results84, go_sem]) rfl ⟨rfl, ⟨_, hM.out.1⟩, ?_⟩
  exact (HFr.of (bl_alloc (Below.refl _ _) _) h.size).trans hM.out.2
end Go.Proofs.Ytfahfbeemgigcaa
