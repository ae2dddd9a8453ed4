/-
  Walks of the specification's filters: what a term that takes nothing says.
  Walks of the specification's filters: what a filter leaves of a message; its Passes.
-/
import Derived.Test.YtpiknjkdojalpaaGreatZSn37
import Derived.Test.YtpiknjkdojalpaaGreatZSn13
import Derived.Deep.QuietTactic
import Derived.BigQuiet
import Derived.Deep.AppendLies
import Derived.WalkSmall
import Derived.Deep.RegionHeld3
namespace Go.Proofs.YtpiknjkdojalpaaGreat
open Go.RowKit Pl Il

theorem inL_short : ∀ (l sub : List UInt8), l.length < sub.length → inL sub l = false
  | [], sub, h => by
    cases sub with
    | nil => simp at h
    | cons _ _ => rfl
  | x :: l, sub, h => by
    unfold inL
    rw [inL_short l sub (by simp at h; omega), Bool.or_false, Bool.eq_false_iff]
    intro e
    have := (List.isPrefixOf_iff_prefix.1 e).length_le
    omega
theorem inL_step {l sub : List UInt8} {i : Nat} (h : ¬ sub.isPrefixOf (l.drop i) = true) : inL sub (l.drop i) = inL sub (l.drop (i + 1)) := by
  rcases Nat.lt_or_ge i l.length with hi | hi
  · have e : inL sub (l.drop i) = (sub.isPrefixOf (l[i] :: l.drop (i + 1)) || inL sub (l.drop (i + 1))) := by
      conv => lhs; rw [List.drop_eq_getElem_cons hi]
      rfl
    rw [List.drop_eq_getElem_cons hi] at h
    rw [e, Bool.eq_false_iff.2 h, Bool.false_or]
  · rw [List.drop_of_length_le hi, List.drop_of_length_le (by omega)]
theorem inL_hit {l sub : List UInt8} (h : sub.isPrefixOf l = true) : inL sub l = true := by
  cases l with
  | nil =>
    cases sub with
    | nil => rfl
    | cons _ _ => simp at h
  | cons x l => unfold inL; simp [h]
theorem ext_drop (s : ByteArray) (i k : Nat) : (s.extract i (i + k)).toList = (s.toList.drop i).take k := by
  rw [ByteArray.toList_eq, ByteArray.toList_eq, ByteArray.data_extract, Array.toList_extract]
  simp [List.extract]
theorem pre_eq {s t : ByteArray} {i : Nat} : ((s.extract i (i + t.size)).toList == t.toList) = t.toList.isPrefixOf (s.toList.drop i) := by
  have hl : t.toList.length = t.size := by rw [ByteArray.toList_eq]; rfl
  rw [ext_drop, Bool.eq_iff_iff, List.isPrefixOf_iff_prefix, List.prefix_iff_eq_take, hl]
  simp only [beq_iff_eq]
  exact eq_comm
set_option maxHeartbeats 1000000 in
theorem l8Holds_any (s t : ByteArray) (w : World) (hs : s.size ≤ 40) (ht : t.size ≤ 10) :
    Calls Tryz.prog 149 #[.string s, .string t] w fun e w' => e = .returned (.bool (inL t.toList s.toList)) ∧ w' = w := by
  go_enter Tryz.func149, Tryz.ntmps149
  go_wp2
  go_loop [5] (fun x => ∃ i : Nat, i ≤ s.size + 1 ∧ x = .int .i64 i ∧ inL t.toList (s.toList.drop i) = inL t.toList s.toList ∧ (0 < i → 0 < t.size)) (fun x => s.size + 1 - (intOf x).toNat)
  case atStart => exact ⟨0, Nat.zero_le _, rfl, rfl, fun h => by omega⟩
  case round =>
    obtain ⟨i, hi, rfl, hp, hpos⟩ := hrel
    have hl : s.toList.length = s.size := by rw [ByteArray.toList_eq]; rfl
    have hl' : t.toList.length = t.size := by rw [ByteArray.toList_eq]; rfl
    have HP := hidOf hp
    have HL := hidOf (And.intro hl hl')
    clear hp hl hl'
    by_cases hle : i + t.size ≤ s.size
    · have h1 : (i : Int) + (t.size : Int) ≤ (s.size : Int) := by omega
      have hpe := @pre_eq s t i
      cases hq : t.toList.isPrefixOf (s.toList.drop i)
      · rw [hq] at hpe
        have HQ := hidOf (inL_step (l := s.toList) (sub := t.toList) (i := i) (by rw [hq]; simp))
        have HN : 0 < t.size := by
          rcases Nat.eq_zero_or_pos t.size with h0 | h0
          · have : t.toList = [] := List.length_eq_zero_iff.1 (by rw [HL.out.2, h0])
            rw [this] at hq
            simp at hq
          · exact h0
        clear hq
        go_wp2
        go_round
        case rel => exact ⟨i + 1, by omega, by go_num, by rw [← HP.out, HQ.out], fun _ => HN⟩
        case measure => simp [intOf]; omega
      · rw [hq] at hpe
        have HQ := hidOf (inL_hit hq)
        clear hq
        go_wp2
        go_ret
        exact ⟨rbool (by rw [← HP.out, HQ.out]), rfl⟩
    · have h1 : ¬ (i : Int) + (t.size : Int) ≤ (s.size : Int) := by omega
      have HQ := hidOf (inL_short (s.toList.drop i) t.toList (by rw [List.length_drop, HL.out.1, HL.out.2]; omega))
      go_wp2
      go_ret
      exact ⟨rbool (by rw [← HP.out, HQ.out]), rfl⟩
theorem okB_two {k n : Int} {s : ByteArray} (h : okB k n s = true) : k = 1 ∨ k = 2 ∧ s.size ≤ 40 := by
  by_cases h1 : k = 1
  · exact .inl h1
  · by_cases h2 : k = 2
    · subst h2
      simp [okB, plainB] at h
      exact .inr ⟨rfl, h.2.1⟩
    · simp [okB, h1, h2] at h
theorem ok_67 {op n : Int} {t : ByteArray} (h : okTm (op, n, t) = true) (ho : op = 6 ∨ op = 7) : t.size ≤ 10 := by
  rcases ho with rfl | rfl
  · simp [okTm, partB] at h; omega
  · simp [okTm, partB] at h; omega
abbrev SayR (w0 : World) (x : Nat) (op num : Int) (t : ByteArray) (y : Nat) (k n : Int) (s : ByteArray) (w : World) : Prop :=
  w.cell? ⟨x, 0, none⟩ = some (.int .i64 op) ∧ w.cell? ⟨x, 1, none⟩ = some (.int .i64 num) ∧ w.cell? ⟨x, 2, none⟩ = some (.string t) ∧ w.cell? ⟨y, 0, none⟩ = some (.int .i64 k) ∧ w.cell? ⟨y, 1, none⟩ = some (.int .i64 n) ∧ w.cell? ⟨y, 2, none⟩ = some (.string s) ∧ Below w0.heap.size w0 w
set_option maxHeartbeats 4000000 in
theorem l8Says_any (t : Tm) (k n : Int) (s : ByteArray) (w : World) (hok : okTm t = true) (hc : cntM t.1 = 0) (hm : okB k n s = true) :
    Calls Tryz.prog 117 #[.agg #[.int .i64 t.1, .int .i64 t.2.1, .string t.2.2], .agg #[.int .i64 k, .int .i64 n, .string s]] w fun e w' => e = .returned (.bool (leafP t (bdOf k n s))) ∧ Below w.heap.size w w' := by
  obtain ⟨op, num, t⟩ := t
  have h := leaf_ops hok hc
  simp only at h ⊢
  have hb : ∀ op : Int, Below w.heap.size w ((w.alloc (.cells #[.int .i64 op, .int .i64 num, .string t] 144)).alloc (.cells #[.int .i64 k, .int .i64 n, .string s] 30)) := fun _ => bl_alloc (bl_alloc (Below.refl _ _) _) _
  rcases okB_two hm with rfl | ⟨rfl, hs⟩
  · have HB := fun op => hidOf (hb op)
    have h5 : op = 5 → ¬ num = 0 ∧ ¬ num = -1 := fun e => by subst e; have := ok_5 hok; omega
    clear hb hm hok hc
    rcases h with rfl | rfl | rfl | rfl | rfl | rfl | rfl
    all_goals (try (obtain ⟨n0, n1⟩ := h5 rfl))
    all_goals clear h5
    all_goals go_enter Tryz.func117, Tryz.ntmps117
    all_goals go_wp2_with fail
    all_goals (try go_quiet (fail))
    all_goals (try go_wp2)
    all_goals (try go_ret)
    all_goals first | (refine ⟨rbool ?_, (HB _).out⟩; simp [leafP, bdOf]; done) | (refine ⟨rbool ?_, bl_drewN (HB _).out _⟩; simp [leafP, bdOf]; done) | (refine ⟨rbool ?_, (HB _).out⟩; simp [leafP, bdOf]; rw [Bool.eq_iff_iff]; simp)
  · have HB := fun op => hidOf (hb op)
    have ht : op = 6 ∨ op = 7 → t.size ≤ 10 := fun e => ok_67 hok e
    clear hb hm hok hc
    rcases h with rfl | rfl | rfl | rfl | rfl | rfl | rfl
    iterate 5
      · clear ht
        go_enter Tryz.func117, Tryz.ntmps117
        go_wp2_with fail
        (try go_ret)
        exact ⟨rbool (by simp [leafP, bdOf]), (HB _).out⟩
    · have ht' := ht (.inl rfl)
      clear ht
      by_cases hle : t.size ≤ s.size
      · have hd : decide ((t.size : Int) ≤ (s.size : Int)) = true := by simp; omega
        have hbe := beg_eq s t
        go_enter Tryz.func117, Tryz.ntmps117
        go_wp2_with fail
        go_quiet (fail)
        (try go_wp2)
        (try go_ret)
        exact ⟨rbool (by simp [leafP, bdOf]), bl_drewN (HB _).out _⟩
      · have hd : decide ((t.size : Int) ≤ (s.size : Int)) = false := by simp; omega
        have hbe := beg_no hle
        go_enter Tryz.func117, Tryz.ntmps117
        go_wp2_with fail
        go_quiet (fail)
        (try go_wp2)
        (try go_ret)
        exact ⟨rbool (by simp [leafP, bdOf, hbe]), bl_drewN (HB _).out _⟩
    · have ht' := ht (.inr rfl)
      have HH := fun u => hidOf (l8Holds_any s t u hs ht')
      clear ht
      go_enter Tryz.func117, Tryz.ntmps117
      go_wp2_with (first | (go_at_call 149; refine ((HH _).out).mono ?_; rintro e w1 ⟨rfl, rfl⟩))
      go_ret
      exact ⟨rbool (by simp [leafP, bdOf]), (HB _).out⟩
end Go.Proofs.YtpiknjkdojalpaaGreat
namespace Go.Proofs.YtpiknjkdojalpaaGreat
open Go.RowKit Pl Il

theorem fstep_append_ex {P : Program} {ops : Array Oper} {o : Oper} {a : Act} {w : World} {K : Act → World → Prop} {Q : Exit → Act → World → Prop} {E : Prop} {R : Value → World → Prop} (hgd : o.guard = none) (s x : Operand) (t : TypeId)
    (ho : o.op = .call { callee := .builtin .append, args := #[s, x], argTypes := #[t, t] }) (v u : Value) (hs : a.eval s = v) (hx : a.eval x = u)
    (hr : ∃ v' w', (Builtin.append_ #[t, t] o.type #[v, u]).run P w = .ok v' w' ∧ R v' w') (h : ∀ v' w', R v' w' → K (a.put o.dst v') w') :
    if Region.wanted o (yielded ops a.tmps) = true then Oper.wp P o a w K Q else E := by
  have hw : Region.wanted o (yielded ops a.tmps) = true := by simp [Region.wanted, hgd]
  rw [if_pos hw]
  obtain ⟨v', w', hrun, hR⟩ := hr
  unfold Oper.wp execOp
  simp only [ho, resolve, invoke, builtin, Sem.run_bind, Sem.run_pure, Result.andThen_ok, List.map_toArray, List.map_cons, List.map_nil, hs, hx, hrun]
  exact h v' w' hR
theorem fstep_append_run {P : Program} {ops : Array Oper} {o : Oper} {a : Act} {w w' : World} {K : Act → World → Prop} {Q : Exit → Act → World → Prop} {E : Prop} (hgd : o.guard = none) (s x : Operand) (t : TypeId)
    (ho : o.op = .call { callee := .builtin .append, args := #[s, x], argTypes := #[t, t] }) (v u v' : Value) (hs : a.eval s = v) (hx : a.eval x = u)
    (hr : (Builtin.append_ #[t, t] o.type #[v, u]).run P w = .ok v' w') (h : K (a.put o.dst v') w') :
    if Region.wanted o (yielded ops a.tmps) = true then Oper.wp P o a w K Q else E :=
  fstep_append_ex (R := fun v1 w1 => v1 = v' ∧ w1 = w') hgd s x t ho v u hs hx ⟨v', w', hr, rfl, rfl⟩ (fun _ _ h1 => by obtain ⟨rfl, rfl⟩ := h1; exact h)
theorem okF_pre {f : List Tm} (h : okF f = true) {k : Nat} : ∃ m, goN (f.take k) 0 = some m := by
  cases e : goN (f.take k) 0 with
  | some m => exact ⟨m, rfl⟩
  | none =>
    exfalso
    have h2 : goN f 0 = none := by
      have e' : f = f.take k ++ f.drop k := (List.take_append_drop _ _).symm
      rw [e', goN_append, e]; rfl
    cases f with
    | nil => simp [goN] at h2
    | cons x l => simp [okF, h2] at h
theorem okF_at {f : List Tm} (h : okF f = true) {k : Nat} (hk : k < f.length) {m : Nat} (hm : goN (f.take k) 0 = some m) : okTm (qg f k) = true ∧ ¬ m < cntM (qg f k).1 := by
  constructor
  · cases e : okTm (qg f k) with
    | true => rfl
    | false => have := okF_stop hk hm (.inl e); rw [h] at this; cases this
  · intro e
    have := okF_stop hk hm (.inr e)
    rw [h] at this; cases this
def bitsV (ps : List Pd) (b : Bd) : List Value := ps.map fun p => .bool (p b)
theorem bits_len (ps : List Pd) (b : Bd) : (bitsV ps b).length = ps.length := by simp [bitsV]
theorem bits_snoc (ps : List Pd) (p : Pd) (b : Bd) : bitsV (ps ++ [p]) b = bitsV ps b ++ [.bool (p b)] := by simp [bitsV]
theorem infoBo : (Tryz.prog.info? 4).map (fun i => (i.zero, i.size, i.bytes)) = some (some (.bool false), 1, 1) := by kernel_rfl
/-- One truth value is appended to an own row. -/
theorem append_bit (B m : Nat) (v : Value) (vs : List Value) (x : Bool) (w : World) (ho : w.ownsRow B 4 1 v m vs) (hB : B ≤ w.heap.size) (hs : m + 1 ≤ 4194304) :
    ∃ (g cap : Nat) (w' : World), (Builtin.append_ #[142, 142] 142 #[v, .slice (some ⟨w.heap.size, 0, none⟩) 1 1]).run Tryz.prog (w.alloc (.cells #[.bool x] 4)) = .ok (.slice (some ⟨g, 0, none⟩) (m + 1) cap) w' ∧
      w'.ownsRow B 4 1 (.slice (some ⟨g, 0, none⟩) (m + 1) cap) (m + 1) (vs ++ [.bool x]) ∧ w.grownBy w' v.ownBlock := by
  obtain ⟨i, hi, hz0, hz1, hz2⟩ := info_parts infoBo
  have hb0 : Below w.heap.size w (w.alloc (.cells #[.bool x] 4)) := bl_alloc (Below.refl _ _) _
  have ho' : (w.alloc (.cells #[.bool x] 4)).ownsRow B 4 1 v m vs := ho.alloc _
  obtain ⟨g, c, w', hr, hown, hg, _, _⟩ := run_append_lies (P := Tryz.prog) (w.alloc (.cells #[.bool x] 4)) 142 142 B 4 i _ 1 1 Tryz.underlying142 hi hz0 hz1 hz2 rfl (by omega) v m _ ho' ⟨w.heap.size, 0, none⟩ 1 1 [.bool x] (by simp)
    (fun j u h => by
      have hj : j = 0 := by
        have := (List.getElem?_eq_some_iff.1 h).1
        simp at this; omega
      subst hj
      simp at h
      subst h
      rw [Addr.add_lit]; simp)
    (fun u hu => by
      simp at hu
      subst hu
      rfl) (by omega) (by unfold maxLen; omega) (by omega) (by simp; omega) _ rfl
  refine ⟨g, c, w', hr, hown, ?_⟩
  exact ⟨hg.os.trans hb0.os, hg.tape.trans hb0.tape, hg.output.trans hb0.output, Nat.le_trans hb0.size hg.size, fun k hk hne => (hg.block k (Nat.lt_of_lt_of_le hk hb0.size) hne).trans (hb0.block k hk)⟩
/-- What a round reads. -/
abbrev LeftS (b o M : Nat) (z : Tm) (k n : Int) (s : ByteArray) (u0 w : World) : Prop :=
  w.cell? ⟨b, o, none⟩ = some (.int .i64 z.1) ∧ w.cell? ⟨b, o + 1, none⟩ = some (.int .i64 z.2.1) ∧ w.cell? ⟨b, o + 2, none⟩ = some (.string z.2.2) ∧ w.cell? ⟨M, 0, none⟩ = some (.int .i64 k) ∧ w.cell? ⟨M, 1, none⟩ = some (.int .i64 n) ∧ w.cell? ⟨M, 2, none⟩ = some (.string s) ∧ Below u0.heap.size u0 w
theorem LeftS.keep {b o M : Nat} {z : Tm} {k n : Int} {s : ByteArray} {u0 w w' : World} (h : LeftS b o M z k n s u0 w) (hb : Below u0.heap.size w w') (hl : b < u0.heap.size) (hl' : M < u0.heap.size) : LeftS b o M z k n s u0 w' := by
  obtain ⟨h0, h1, h2, h3, h4, h5, h6⟩ := h
  exact ⟨by rw [hb.cell (p := ⟨b, o, none⟩) hl]; exact h0, by rw [hb.cell (p := ⟨b, o + 1, none⟩) hl]; exact h1, by rw [hb.cell (p := ⟨b, o + 2, none⟩) hl]; exact h2, by rw [hb.cell (p := ⟨M, 0, none⟩) hl']; exact h3, by rw [hb.cell (p := ⟨M, 1, none⟩) hl']; exact h4, by rw [hb.cell (p := ⟨M, 2, none⟩) hl']; exact h5, h6.trans hb⟩
theorem rowB_keep {B : Nat} {w w' : World} {v : Value} {n : Nat} {t : TypeId} {xs : List Value} (h : w.ownsRow B t 1 v n xs) (hb : Below w.heap.size w w') : w'.ownsRow B t 1 v n xs := by
  refine h.kept (row := none) ⟨hb.os, hb.tape, hb.output, hb.size, fun k hk _ => hb.block k hk⟩ ?_
  cases v.ownBlock with
  | none => exact .inl rfl
  | some _ => exact .inr (by simp)
theorem pd_snoc {ps : List Pd} (h : 0 < ps.length) : ∃ qs p, ps = qs ++ [p] := by
  have hne : ps ≠ [] := by rintro rfl; simp at h
  exact ⟨ps.dropLast, ps.getLast hne, (List.dropLast_concat_getLast hne).symm⟩
theorem step8 {z : Tm} (qs : List Pd) (p : Pd) (b : Bd) (h : z.1 = 8) : bitsV (stepP z (qs ++ [p])) b = bitsV qs b ++ [.bool (!(p b))] := by
  rw [stepP_8 h]
  have e : (qs ++ [p]).length - 1 = qs.length := by simp
  rw [e, List.take_left, pg_snoc_eq, bits_snoc]
theorem step9 {z : Tm} (qs : List Pd) (p q : Pd) (b : Bd) (h : z.1 = 9) : bitsV (stepP z (qs ++ [p] ++ [q])) b = bitsV qs b ++ [.bool (p b && q b)] := by
  rw [stepP_9 h]
  have e : (qs ++ [p] ++ [q]).length - 1 = (qs ++ [p]).length := by simp
  have e2 : (qs ++ [p] ++ [q]).length - 2 = qs.length := by simp
  rw [e, e2, List.append_assoc, List.take_left, ← List.append_assoc, pg_snoc_eq, bits_snoc, pg_snoc_lt (by simp), pg_snoc_eq, Bool.and_comm]
theorem step10 {z : Tm} (qs : List Pd) (p q : Pd) (b : Bd) (h : z.1 = 10) : bitsV (stepP z (qs ++ [p] ++ [q])) b = bitsV qs b ++ [.bool (p b || q b)] := by
  rw [stepP_10 h]
  have e : (qs ++ [p] ++ [q]).length - 1 = (qs ++ [p]).length := by simp
  have e2 : (qs ++ [p] ++ [q]).length - 2 = qs.length := by simp
  rw [e, e2, List.append_assoc, List.take_left, ← List.append_assoc, pg_snoc_eq, bits_snoc, pg_snoc_lt (by simp), pg_snoc_eq, Bool.or_comm]
theorem set_snoc {l : List Value} {x y : Value} : (l ++ [x]).set l.length y = l ++ [y] := by simp
theorem set_snoc2 {l : List Value} {x z y : Value} : (l ++ [x] ++ [z]).set l.length y = l ++ [y] ++ [z] := by
  rw [List.append_assoc, List.append_assoc, List.set_append_right _ _ (Nat.le_refl _)]
  simp
end Go.Proofs.YtpiknjkdojalpaaGreat
