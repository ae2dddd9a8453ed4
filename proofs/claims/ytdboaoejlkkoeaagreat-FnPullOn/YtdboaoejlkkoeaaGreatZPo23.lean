/-
  Walks of the specification's filters: what a filter leaves of a messag
-/
import Derived.Test.YtdboaoejlkkoeaaGreatZPo22
namespace Go.Proofs.YtdboaoejlkkoeaaGreat
open Go.RowKit Pl Il
theorem fstep_append_ex {P : Program} {ops : Array Oper} {o : Oper} {a : Act} {w : World} {K : Act → World → Prop} {Q : Exit → Act → World → Prop} {E : Prop} {R : Value → World → Prop} (hgd : o.guard = none) (s x : Operand) (t : TypeId)
    (ho : o.op = .call { callee := .builtin .append, args := #[s, x], argTypes := #[t, t] }) (v u : Value) (hs : a.eval s = v) (hx : a.eval x = u)
    (hr : ∃ v' w', (Builtin.append_ #[t, t] o.type #[v, u]).run P w = .ok v' w' ∧ R v' w') (h : ∀ v' w', R v' w' → K (a.put o.dst v') w') :
    if Region.wanted o (yielded ops a.tmps) = true then Oper.wp P o a w K Q else E := by
  have hw : Region.wanted o (yielded ops a.tmps) = true := by simp [Region.wanted, hgd]
  rw [if_pos hw]
  obtain ⟨v', w', hrun, hR⟩ := hr
  unfold Oper.wp execOp
  simp only [ho, resolve, invoke, builtin, Sem.run_bind, Sem.run_pure, Result.andThen_ok, List.map_toArray, List.map_cons, List.map_nil, hs, hx, hrun]
  exact h v' w' hR
theorem fstep_append_run {P : Program} {ops : Array Oper} {o : Oper} {a : Act} {w w' : World} {K : Act → World → Prop} {Q : Exit → Act → World → Prop} {E : Prop} (hgd : o.guard = none) (s x : Operand) (t : TypeId)
    (ho : o.op = .call { callee := .builtin .append, args := #[s, x], argTypes := #[t, t] }) (v u v' : Value) (hs : a.eval s = v) (hx : a.eval x = u)
    (hr : (Builtin.append_ #[t, t] o.type #[v, u]).run P w = .ok v' w') (h : K (a.put o.dst v') w') :
    if Region.wanted o (yielded ops a.tmps) = true then Oper.wp P o a w K Q else E :=
  fstep_append_ex (R := fun v1 w1 => v1 = v' ∧ w1 = w') hgd s x t ho v u hs hx ⟨v', w', hr, rfl, rfl⟩ (fun _ _ h1 => by obtain ⟨rfl, rfl⟩ := h1; exact h)
theorem okF_at {f : List Tm} (h : okF f = true) {k : Nat} (hk : k < f.length) {m : Nat} (hm : goN (f.take k) 0 = some m) : okTm (qg f k) = true ∧ ¬ m < cntM (qg f k).1 := by
  constructor
  · cases e : okTm (qg f k) with
    | true => rfl
    | false => have := okF_stop hk hm (.inl e); rw [h] at this; cases this
  · intro e
    have := okF_stop hk hm (.inr e)
    rw [h] at this; cases this
def bitsV (ps : List Pd) (b : Bd) : List Value := ps.map fun p => .bool (p b)
theorem bits_len (ps : List Pd) (b : Bd) : (bitsV ps b).length = ps.length := by simp [bitsV]
theorem bits_snoc (ps : List Pd) (p : Pd) (b : Bd) : bitsV (ps ++ [p]) b = bitsV ps b ++ [.bool (p b)] := by simp [bitsV]
theorem infoBo : (Tryz.prog.info? 4).map (fun i => (i.zero, i.size, i.bytes)) = some (some (.bool false), 1, 1) := by kernel_rfl
theorem append_bit (B m : Nat) (v : Value) (vs : List Value) (x : Bool) (w : World) (ho : w.ownsRow B 4 1 v m vs) (hB : B ≤ w.heap.size) (hs : m + 1 ≤ 4194304) :
    ∃ (g cap : Nat) (w' : World), (Builtin.append_ #[162, 162] 162 #[v, .slice (some ⟨w.heap.size, 0, none⟩) 1 1]).run Tryz.prog (w.alloc (.cells #[.bool x] 4)) = .ok (.slice (some ⟨g, 0, none⟩) (m + 1) cap) w' ∧
      w'.ownsRow B 4 1 (.slice (some ⟨g, 0, none⟩) (m + 1) cap) (m + 1) (vs ++ [.bool x]) ∧ w.grownBy w' v.ownBlock := by
  obtain ⟨i, hi, hz0, hz1, hz2⟩ := info_parts infoBo
  have hb0 : Below w.heap.size w (w.alloc (.cells #[.bool x] 4)) := bl_alloc (Below.refl _ _) _
  have ho' : (w.alloc (.cells #[.bool x] 4)).ownsRow B 4 1 v m vs := ho.alloc _
  obtain ⟨g, c, w', hr, hown, hg, _, _⟩ := run_append_lies (P := Tryz.prog) (w.alloc (.cells #[.bool x] 4)) 162 162 B 4 i _ 1 1 Tryz.underlying162 hi hz0 hz1 hz2 rfl (by omega) v m _ ho' ⟨w.heap.size, 0, none⟩ 1 1 [.bool x] (by simp)
    (fun j u h => by
      have hj : j = 0 := by
        have := (List.getElem?_eq_some_iff.1 h).1
        simp at this; omega
      subst hj
      simp at h
      subst h
      rw [Addr.add_lit]; simp)
    (fun u hu => by
      simp at hu
      subst hu
      rfl) (by omega) (by unfold maxLen; omega) (by omega) (by simp; omega) _ rfl
  refine ⟨g, c, w', hr, hown, ?_⟩
  exact ⟨hg.os.trans hb0.os, hg.tape.trans hb0.tape, hg.output.trans hb0.output, Nat.le_trans hb0.size hg.size, fun k hk hne => (hg.block k (Nat.lt_of_lt_of_le hk hb0.size) hne).trans (hb0.block k hk)⟩
abbrev LeftS (b o M : Nat) (z : Tm) (k n : Int) (s : ByteArray) (u0 w : World) : Prop :=
  w.cell? ⟨b, o, none⟩ = some (.int .i64 z.1) ∧ w.cell? ⟨b, o + 1, none⟩ = some (.int .i64 z.2.1) ∧ w.cell? ⟨b, o + 2, none⟩ = some (.string z.2.2) ∧ w.cell? ⟨M, 0, none⟩ = some (.int .i64 k) ∧ w.cell? ⟨M, 1, none⟩ = some (.int .i64 n) ∧ w.cell? ⟨M, 2, none⟩ = some (.string s) ∧ Below u0.heap.size u0 w
theorem LeftS.keep {b o M : Nat} {z : Tm} {k n : Int} {s : ByteArray} {u0 w w' : World} (h : LeftS b o M z k n s u0 w) (hb : Below u0.heap.size w w') (hl : b < u0.heap.size) (hl' : M < u0.heap.size) : LeftS b o M z k n s u0 w' := by
  obtain ⟨h0, h1, h2, h3, h4, h5, h6⟩ := h
  exact ⟨by rw [hb.cell (p := ⟨b, o, none⟩) hl]; exact h0, by rw [hb.cell (p := ⟨b, o + 1, none⟩) hl]; exact h1, by rw [hb.cell (p := ⟨b, o + 2, none⟩) hl]; exact h2, by rw [hb.cell (p := ⟨M, 0, none⟩) hl']; exact h3, by rw [hb.cell (p := ⟨M, 1, none⟩) hl']; exact h4, by rw [hb.cell (p := ⟨M, 2, none⟩) hl']; exact h5, h6.trans hb⟩
theorem rowB_keep {B : Nat} {w w' : World} {v : Value} {n : Nat} {t : TypeId} {xs : List Value} (h : w.ownsRow B t 1 v n xs) (hb : Below w.heap.size w w') : w'.ownsRow B t 1 v n xs := by
  refine h.kept (row := none) ⟨hb.os, hb.tape, hb.output, hb.size, fun k hk _ => hb.block k hk⟩ ?_
  cases v.ownBlock with
  | none => exact .inl rfl
  | some _ => exact .inr (by simp)
theorem pd_snoc {ps : List Pd} (h : 0 < ps.length) : ∃ qs p, ps = qs ++ [p] := by
  have hne : ps ≠ [] := by rintro rfl; simp at h
  exact ⟨ps.dropLast, ps.getLast hne, (List.dropLast_concat_getLast hne).symm⟩
theorem step8 {z : Tm} (qs : List Pd) (p : Pd) (b : Bd) (h : z.1 = 8) : bitsV (stepP z (qs ++ [p])) b = bitsV qs b ++ [.bool (!(p b))] := by
  rw [stepP_8 h]
  have e : (qs ++ [p]).length - 1 = qs.length := by simp
  rw [e, List.take_left, pg_snoc_eq, bits_snoc]
theorem step9 {z : Tm} (qs : List Pd) (p q : Pd) (b : Bd) (h : z.1 = 9) : bitsV (stepP z (qs ++ [p] ++ [q])) b = bitsV qs b ++ [.bool (p b && q b)] := by
  rw [stepP_9 h]
  have e : (qs ++ [p] ++ [q]).length - 1 = (qs ++ [p]).length := by simp
  have e2 : (qs ++ [p] ++ [q]).length - 2 = qs.length := by simp
  rw [e, e2, List.append_assoc, List.take_left, ← List.append_assoc, pg_snoc_eq, bits_snoc, pg_snoc_lt (by simp), pg_snoc_eq, Bool.and_comm]
theorem step10 {z : Tm} (qs : List Pd) (p q : Pd) (b : Bd) (h : z.1 = 10) : bitsV (stepP z (qs ++ [p] ++ [q])) b = bitsV qs b ++ [.bool (p b || q b)] := by
  rw [stepP_10 h]
  have e : (qs ++ [p] ++ [q]).length - 1 = (qs ++ [p]).length := by simp
  have e2 : (qs ++ [p] ++ [q]).length - 2 = qs.length := by simp
  rw [e, e2, List.append_assoc, List.take_left, ← List.append_assoc, pg_snoc_eq, bits_snoc, pg_snoc_lt (by simp), pg_snoc_eq, Bool.or_comm]
theorem set_snoc {l : List Value} {x y : Value} : (l ++ [x]).set l.length y = l ++ [y] := by simp
theorem set_snoc2 {l : List Value} {x z y : Value} : (l ++ [x] ++ [z]).set l.length y = l ++ [y] ++ [z] := by
  rw [List.append_assoc, List.append_assoc, List.set_append_right _ _ (Nat.le_refl _)]
  simp
open Go.RowKit Pl Il
set_option maxRecDepth 100000 in
set_option maxHeartbeats 8000000 in
theorem l8Left_any (a : Option Addr) (N cap : Nat) (ts : List Tm) (k n : Int) (s : ByteArray) (w : World) (hI : TmAt w a N ts) (hok : okF ts = true) (hm : okB k n s = true) :
  Calls Tryz.prog 85 #[.slice a N cap, .agg #[.int .i64 k, .int .i64 n, .string s]] w fun e w' => e = .returned (.bool (passP ts (bdOf k n s))) ∧ Below w.heap.size w w' := by
 have hlen := hI.len
 have hN : N ≤ 12 := by rw [← hlen]; simp [okF] at hok; exact hok.1
 obtain ⟨W0, hW0⟩ : ∃ W, W = w.alloc (.cells #[.int .i64 k, .int .i64 n, .string s] 30) := ⟨_, rfl⟩
 have b0 : Below w.heap.size w W0 := by rw [hW0]; exact bl_alloc (Below.refl _ _) _
 have x0 : Box3 w.heap.size (.int .i64 k) (.int .i64 n) (.string s) W0 := by rw [hW0]; exact Box3.new w _ _ _ _
 have sW : W0.heap.size = w.heap.size + 1 := by rw [hW0]; simp
 obtain ⟨W1, hW1⟩ : ∃ W, W = W0.alloc (.cells #[] 4) := ⟨_, rfl⟩
 have b1 : Below W0.heap.size W0 W1 := by rw [hW1]; exact bl_alloc (Below.refl _ _) _
 have oW : W1.ownsRow W0.heap.size 4 1 (.slice (some ⟨W0.heap.size, 0, none⟩) 0 0) 0 [] := by rw [hW1]; exact World.ownsRow_made W0 #[] 0 (Nat.le_refl _) (by unfold maxLen; omega) (by simp)
 have HR := hidOf (hI.keep b0).row
 have HX := hidOf x0
 have HB0 := hidOf b0
 have HO := hidOf (And.intro oW b1)
 have HOK := hidOf hok
 have HM := hidOf hm
 have HL := hidOf hlen
 have HSW := hidOf sW
 generalize hbd : bdOf k n s = bd
 have HBD := hidOf hbd
 clear hI b0 x0 b1 oW hok hm hlen hbd sW
 go_enter Tryz.func85, Tryz.ntmps85
 go_wp2_with fail
 rw [← hW0, ← hW1, ← HSW.out]
 clear hW0 hW1
 go_loopw [5, 6] (fun v i wr => ∃ (j m : Nat) (g c : Nat), j ≤ N ∧ i = .int .i64 j ∧ v = .slice (some ⟨g, 0, none⟩) m c ∧ goN (ts.take j) 0 = some m ∧ wr.ownsRow W0.heap.size 4 1 (.slice (some ⟨g, 0, none⟩) m c) m (bitsV (runP (ts.take j)) bd) ∧ Below W0.heap.size W0 wr) (fun _ i _ => N - (intOf i).toNat)
 case atStart => exact ⟨0, 0, _, _, Nat.zero_le _, rfl, rfl, rfl, HO.out.1, HO.out.2⟩
 case round =>
  rename_i wr
  obtain ⟨j, m, g, c, hj, rfl, rfl, hgo, ho, hB⟩ := hrel
  have hw0 : w.heap.size < W0.heap.size := by rw [HSW.out]; omega
  have hpl := runP_len (f := ts) (k := j) (by rw [HL.out]; exact hj) hgo
  have hgc : W0.heap.size ≤ g ∧ g < wr.heap.size := ho.lt g rfl
  have hmc : m ≤ c := by
   obtain ⟨_, ⟨h0, _⟩ | ⟨g', cap', cur, hv, _, _, hc', _⟩⟩ := id ho
   ·cases h0
   ·cases hv; exact hc'
  clear HO
  by_cases hlt : j < N
  ·have hjl : j < ts.length := by rw [HL.out]; exact hlt
   obtain ⟨hok, hcn⟩ := okF_at HOK.out hjl hgo
   have hstep := goN_step hjl hgo hok hcn
   have hrun := runP_step hjl
   have hm12 : m ≤ 12 := by have := goN_le _ _ _ hgo; simp at this; omega
   obtain hr | ⟨b, off, rfl, hb, hcell⟩ := HR.out
   ·omega
   obtain ⟨q0, q1, q2⟩ := hcell j hlt
   obtain ⟨z, hz⟩ : ∃ z, qg ts j = z := ⟨_, rfl⟩
   rw [hz] at q0 q1 q2 hok hcn hstep hrun
   have hS0 : LeftS b (off + j * 3) w.heap.size z k n s W0 W0 := ⟨q0, q1, q2, HX.out.c0, HX.out.c1, HX.out.c2, Below.refl _ _⟩
   have hS := hS0.keep hB hb hw0
   obtain ⟨t0, t1, t2, y0, y1, y2, _⟩ := id hS
   have HGO := hidOf (And.intro hstep hrun)
   have Hz := hidOf hz
   clear hz hcell q0 q1 q2 hS0 hstep hrun
   obtain ⟨ps, hps⟩ : ∃ ps, runP (ts.take j) = ps := ⟨_, rfl⟩
   rw [hps] at ho hpl HGO
   by_cases h8 : z.1 = 8
   ·have hc1 : 1 ≤ m := by rw [h8] at hcn; have e : cntM 8 = 1 := rfl; omega
    obtain ⟨qs, p, rfl⟩ := pd_snoc (ps := ps) (by omega)
    have hql : m = qs.length + 1 := by rw [← hpl]; simp
    subst hql
    rw [bits_snoc] at ho
    have hx : wr.cell? ⟨g, qs.length, none⟩ = some (.bool (p bd)) := by rw [ho.cellAt qs.length (by omega)]; simp [bitsV]
    have hfx : ∀ o, wr.frozen? ⟨g, o, none⟩ = false := ho.frozenAt
    have ho2 := (ho.stored qs.length (.bool (!(p bd)))).1
    have e1 := set_snoc (l := bitsV qs bd) (x := .bool (p bd)) (y := .bool (!(p bd)))
    rw [bits_len] at e1
    rw [e1, ← step8 qs p bd h8] at ho2
    have hB2 : Below W0.heap.size W0 (wr.setCell ⟨g, qs.length, none⟩ (.bool (!(p bd)))) := hB.setCell (p := ⟨g, qs.length, none⟩) hgc.1 _
    have HO2 := hidOf (And.intro ho2 hB2)
    have e2 : ((qs.length + 1 : Nat) : Int) - 1 = (qs.length : Int) := by omega
    have hcz : cntM z.1 = 1 := by rw [h8]; rfl
    rw [hcz] at HGO
    rw [h8] at t0
    clear ho ho2 hB2 hB hS hcn hok h8 e1
    go_wp2
    go_roundw
    case rel => exact ⟨j + 1, qs.length + 1, g, c, by omega, by go_num, rfl, HGO.out.1, by rw [HGO.out.2]; exact HO2.out.1, HO2.out.2⟩
    case measure => simp [intOf]; omega
   by_cases h9 : z.1 = 9
   ·have hc1 : 2 ≤ m := by rw [h9] at hcn; have e : cntM 9 = 2 := rfl; omega
    obtain ⟨qs1, q, rfl⟩ := pd_snoc (ps := ps) (by omega)
    obtain ⟨qs, p, rfl⟩ := pd_snoc (ps := qs1) (by simp at hpl; omega)
    have hql : m = qs.length + 1 + 1 := by rw [← hpl]; simp
    subst hql
    rw [bits_snoc, bits_snoc] at ho
    have hx : wr.cell? ⟨g, qs.length, none⟩ = some (.bool (p bd)) := by rw [ho.cellAt qs.length (by omega)]; simp [bitsV]
    have hx2 : wr.cell? ⟨g, qs.length + 1, none⟩ = some (.bool (q bd)) := by rw [ho.cellAt (qs.length + 1) (by omega)]; simp [bitsV]
    have hfx : ∀ o, wr.frozen? ⟨g, o, none⟩ = false := ho.frozenAt
    have ho2 := (ho.stored qs.length (.bool (p bd && q bd))).1
    have e1 := set_snoc2 (l := bitsV qs bd) (x := .bool (p bd)) (z := .bool (q bd)) (y := .bool (p bd && q bd))
    rw [bits_len] at e1
    rw [e1, ← step9 qs p q bd h9] at ho2
    have hl3 : (bitsV (stepP z (qs ++ [p] ++ [q])) bd).length = (qs.length + 1) * 1 := by rw [step9 qs p q bd h9]; simp [bitsV]
    have ho3 := ownsRow_pop hl3 ho2
    have hB2 : Below W0.heap.size W0 (wr.setCell ⟨g, qs.length, none⟩ (.bool (p bd && q bd))) := hB.setCell (p := ⟨g, qs.length, none⟩) hgc.1 _
    have HO2 := hidOf (And.intro ho3 hB2)
    have e2 : ((qs.length + 1 + 1 : Nat) : Int) - 1 = ((qs.length + 1 : Nat) : Int) := by omega
    have e3 : ((qs.length + 1 + 1 : Nat) : Int) - 2 = (qs.length : Int) := by omega
    have hcz : cntM z.1 = 2 := by rw [h9]; rfl
    rw [hcz] at HGO
    rw [h9] at t0
    clear ho ho2 ho3 hB2 hB hS hcn hok h9 e1 hl3
    cases hpv : p bd
    all_goals rw [hpv] at hx HO2
    all_goals go_wp2
    all_goals go_roundw
    all_goals first
     | exact ⟨j + 1, qs.length + 1, g, c, by omega, by go_num, rfl, HGO.out.1, by rw [HGO.out.2]; exact HO2.out.1, HO2.out.2⟩
     | (simp [intOf]; omega)
   by_cases h10 : z.1 = 10
   ·have hc1 : 2 ≤ m := by rw [h10] at hcn; have e : cntM 10 = 2 := rfl; omega
    obtain ⟨qs1, q, rfl⟩ := pd_snoc (ps := ps) (by omega)
    obtain ⟨qs, p, rfl⟩ := pd_snoc (ps := qs1) (by simp at hpl; omega)
    have hql : m = qs.length + 1 + 1 := by rw [← hpl]; simp
    subst hql
    rw [bits_snoc, bits_snoc] at ho
    have hx : wr.cell? ⟨g, qs.length, none⟩ = some (.bool (p bd)) := by rw [ho.cellAt qs.length (by omega)]; simp [bitsV]
    have hx2 : wr.cell? ⟨g, qs.length + 1, none⟩ = some (.bool (q bd)) := by rw [ho.cellAt (qs.length + 1) (by omega)]; simp [bitsV]
    have hfx : ∀ o, wr.frozen? ⟨g, o, none⟩ = false := ho.frozenAt
    have ho2 := (ho.stored qs.length (.bool (p bd || q bd))).1
    have e1 := set_snoc2 (l := bitsV qs bd) (x := .bool (p bd)) (z := .bool (q bd)) (y := .bool (p bd || q bd))
    rw [bits_len] at e1
    rw [e1, ← step10 qs p q bd h10] at ho2
    have hl3 : (bitsV (stepP z (qs ++ [p] ++ [q])) bd).length = (qs.length + 1) * 1 := by rw [step10 qs p q bd h10]; simp [bitsV]
    have ho3 := ownsRow_pop hl3 ho2
    have hB2 : Below W0.heap.size W0 (wr.setCell ⟨g, qs.length, none⟩ (.bool (p bd || q bd))) := hB.setCell (p := ⟨g, qs.length, none⟩) hgc.1 _
    have HO2 := hidOf (And.intro ho3 hB2)
    have e2 : ((qs.length + 1 + 1 : Nat) : Int) - 1 = ((qs.length + 1 : Nat) : Int) := by omega
    have e3 : ((qs.length + 1 + 1 : Nat) : Int) - 2 = (qs.length : Int) := by omega
    have hcz : cntM z.1 = 2 := by rw [h10]; rfl
    rw [hcz] at HGO
    rw [h10] at t0
    clear ho ho2 ho3 hB2 hB hS hcn hok h10 e1 hl3
    cases hpv : p bd
    all_goals rw [hpv] at hx HO2
    all_goals go_wp2
    all_goals go_roundw
    all_goals first
     | exact ⟨j + 1, qs.length + 1, g, c, by omega, by go_num, rfl, HGO.out.1, by rw [HGO.out.2]; exact HO2.out.1, HO2.out.2⟩
     | (simp [intOf]; omega)
   have hc0 : cntM z.1 = 0 := by simp [cntM, h8, h9, h10]
   have e8 : (z.1 == 8) = false := by simp [h8]
   have e9 : (z.1 == 9) = false := by simp [h9]
   have e10 : (z.1 == 10) = false := by simp [h10]
   have HC := fun u => hidOf (l8Says_any z k n s u hok hc0 HM.out)
   rw [HBD.out] at HC
   rw [hc0] at HGO
   have HO1 := hidOf ho
   clear ho hok hcn h8 h9 h10
   go_wp2_with fail
   refine wp_region_noPanic ?_
   refine wp_region_held_drew (S := fun w' => LeftS b (off + j * 3) w.heap.size z k n s W0 w') (by kernel_rfl) (hS.keep (Below.refl _ _).drew hb hw0) (fun hHeld => ?_)
   refine tK 0 ?_ rfl (by kernel_rfl) (by rfl) ?_ (by assumption) (fun _ _ _ h => h) ?_
   case refine_2 => (intro w hSw; (try dsimp only at hSw); go_simp; try with_reducible rfl)
   simp only [Act.put, List.getElem_toArray, List.getElem_cons_zero, List.setIfInBounds_toArray, List.set_cons_zero, List.set_cons_succ]
   refine tR 1 ?_
   refine tR 2 ?_
   refine tR 3 ?_
   refine tR 4 ?_
   refine tR 5 ?_
   refine tW 6 (fun K hK => ?_)
   go_simp
   refine ((HC _).out).mono ?_
   rintro e w1 ⟨rfl, hb1⟩
   have hb1' : Below wr.heap.size wr w1 := (Below.refl _ _).drew.trans hb1
   have hS1 : LeftS b (off + j * 3) w.heap.size z k n s W0 w1 := hHeld.keep (hb1.mono hHeld.2.2.2.2.2.2.size) hb hw0
   have ho1 := rowB_keep HO1.out hb1'
   obtain ⟨g3, c3, w3, hr3, ho3, hg3⟩ := append_bit W0.heap.size m _ _ (leafP z bd) w1 ho1 hS1.2.2.2.2.2.2.size (by omega)
   have hB3 : Below W0.heap.size W0 w3 := hS1.2.2.2.2.2.2.grown hg3 hS1.2.2.2.2.2.2.size (fun q hq => (ho1.lt q hq).1)
   have hS3 : LeftS b (off + j * 3) w.heap.size z k n s W0 w3 := hS1.keep ((Below.refl W0.heap.size w1).grown hg3 hS1.2.2.2.2.2.2.size (fun q hq => (ho1.lt q hq).1)) hb hw0
   have hSa : LeftS b (off + j * 3) w.heap.size z k n s W0 (w1.alloc (.cells #[.bool (leafP z bd)] 4)) := hS1.keep ((Below.refl W0.heap.size w1).alloc hS1.2.2.2.2.2.2.size _) hb hw0
   rw [← bits_snoc, ← stepP_0 hc0] at ho3
   have HO3 := hidOf (And.intro ho3 hB3)
   go_wp2_with fail
   refine hK.out _ _ hS1 (fun hHeld => ?_)
   clear hK K
   refine tW 7 (fun K hK => ?_)
   go_simp
   refine hK.out _ _ hSa (fun hHeld => ?_)
   clear hK K
   refine tW 8 (fun K hK => ?_)
   refine fstep_append_run (by rfl) _ _ 162 (by rfl) (.slice (some ⟨g, 0, none⟩) m c) (.slice (some ⟨w1.heap.size, 0, none⟩) 1 1) _ (by rfl) (by rfl) hr3 ?_
   refine hK.out _ _ hS3 (fun hHeld => ?_)
   clear hK K
   simp only [Act.put, zGA, zG0, zGC, zSA, zS0, zSC]
   refine tR 9 ?_
   refine wpAnyH_done (by kernel_rfl) ?_ _
   refine NoPanic.normal ?_
   clear hHeld hS1 hS3 hSa ho1 ho3 hg3 hr3 hB3 hb1 hb1' HC HO1 t0 t1 t2 y0 y1 y2 hS
   go_wp2
   go_roundw
   case rel => exact ⟨j + 1, m + 1, g3, c3, by omega, by go_num, rfl, HGO.out.1, by rw [HGO.out.2]; exact HO3.out.1, HO3.out.2⟩
   case measure => simp [intOf]; omega
  ·obtain rfl : j = N := by omega
   have hT : ts.take j = ts := List.take_of_length_le (by rw [HL.out]; exact Nat.le_refl _)
   rw [hT] at ho hgo hpl
   have HBf := hidOf (HB0.out.trans (hB.mono (Nat.le_of_lt hw0)))
   by_cases h0 : j = 0
   ·subst h0
    obtain rfl : ts = [] := List.length_eq_zero_iff.1 HL.out
    clear ho hB
    go_wp2
    go_ret
    exact ⟨rfl, HBf.out⟩
   ·have hne : ts ≠ [] := by rintro rfl; have := HL.out; simp at this; omega
    have hpos : 1 ≤ m := goN_pos (f := ts) (k := j) (by omega) (by rw [HL.out]; exact Nat.le_refl _) (by rw [hT]; exact hgo)
    have e0 : ((j : Int) == 0) = false := by simp; omega
    have hx : wr.cell? ⟨g, 0, none⟩ = some (.bool (pg (runP ts) 0 bd)) := by
     rw [ho.cellAt 0 (by omega)]
     have : 0 < (runP ts).length := by omega
     simp [bitsV, pg, List.getD, List.getElem?_eq_getElem this]
    have HP := hidOf (passP_end hne)
    clear ho hB hT
    go_wp2
    go_ret
    exact ⟨rbool (by rw [HP.out]), HBf.out⟩
end Go.Proofs.YtdboaoejlkkoeaaGreat
