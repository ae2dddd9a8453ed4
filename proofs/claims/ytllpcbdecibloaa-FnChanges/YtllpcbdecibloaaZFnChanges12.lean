/-
  The program's changes: the table of method expressions.
  The program's changes: the four methods.
  The plain order of messages: irreflexive, total on right messages, transitive.
  What a change of the table makes of two bodies.
  Changes turned about: plain mathematics.
  Walk of the program's Changed.
  Walks of the laws' own helpers on lists of numbers: too long, the same, within; and of the specification's.
-/
import Derived.Test.YtllpcbdecibloaaZFnChanges11
import Derived.Maps.OwnSet
import Derived.Deep.RegionWith
import Derived.Test.YtllpcbdecibloaaZFnChanges5
import Derived.Test.YtllpcbdecibloaaZFnChanges6
import Derived.Test.YtllpcbdecibloaaZFnChanges2
namespace Go.Proofs.Ytllpcbdecibloaa
open Go.RowKit Go.Maps Pl Il

/-- A function of the table, as a number. -/
def fnR (v : Value) : Option (DataW Unit × List MemPlace) := match v with
  | .func (.func k) ⟨[]⟩ ⟨[]⟩ => some (.lit (.int .i64 k), [])
  | .nilFunc => some (.lit (.int .i64 (-1)), [])
  | _ => none
theorem fnR_inv {v : Value} {k : Nat} {ps : List MemPlace} (h : fnR v = some (.lit (.int .i64 (k : Int)), ps)) : v = .func (.func k) #[] #[] := by
  unfold fnR at h
  split at h
  · rename_i q
    simp at h
    obtain ⟨h1, _⟩ := h
    have h2 : q = k := Int.ofNat.inj h1
    subst h2
    rfl
  · simp at h
  · simp at h
theorem key3 : Keyed Try.prog 3 := int_keyed Try.underlying3
theorem zeroF (w : World) : (zeroValue 92).run Try.prog w = .ok .nilFunc w := by kernel_rfl
/-- The table. -/
def tabD : DataW Unit := .map [(.int .i64 1, .lit (.int .i64 104)), (.int .i64 2, .lit (.int .i64 105)), (.int .i64 3, .lit (.int .i64 106)), (.int .i64 4, .lit (.int .i64 107))]
theorem changes_any (w : World) : Calls Try.prog 50 #[] w fun e w' => ∃ mb n, e = .returned (.map (some mb)) ∧ w'.ownsMap Try.prog 3 fnR mb n tabD ∧ Below w.heap.size w w' := by
  have hmm := @run_makeMap Try.prog
  have h0 := World.ownsMap_made w Try.prog 3 fnR
  have b0 : Below w.heap.size w (w.alloc (.map #[] 0)) := bl_alloc (Below.refl _ _) _
  obtain ⟨w1, r1, h1, t1⟩ := h0.store (t := 94) key3 Try.underlying94 (by unfold maxLen; omega) (key := .int .i64 1) (val := .func (.func 104) #[] #[]) (kl := .int .i64 1) (keyOf_int_mk Try.underlying3 (by decide)) (d := .lit (.int .i64 104)) (ps := []) rfl
  obtain ⟨w2, r2, h2, t2⟩ := h1.store (t := 94) key3 Try.underlying94 (by unfold maxLen; omega) (key := .int .i64 2) (val := .func (.func 105) #[] #[]) (kl := .int .i64 2) (keyOf_int_mk Try.underlying3 (by decide)) (d := .lit (.int .i64 105)) (ps := []) rfl
  obtain ⟨w3, r3, h3, t3⟩ := h2.store (t := 94) key3 Try.underlying94 (by unfold maxLen; omega) (key := .int .i64 3) (val := .func (.func 106) #[] #[]) (kl := .int .i64 3) (keyOf_int_mk Try.underlying3 (by decide)) (d := .lit (.int .i64 106)) (ps := []) rfl
  obtain ⟨w4, r4, h4, t4⟩ := h3.store (t := 94) key3 Try.underlying94 (by unfold maxLen; omega) (key := .int .i64 4) (val := .func (.func 107) #[] #[]) (kl := .int .i64 4) (keyOf_int_mk Try.underlying3 (by decide)) (d := .lit (.int .i64 107)) (ps := []) rfl
  have hD : ((((DataW.map [] : DataW Unit).put (.int .i64 1) (.lit (.int .i64 104))).put (.int .i64 2) (.lit (.int .i64 105))).put (.int .i64 3) (.lit (.int .i64 106))).put (.int .i64 4) (.lit (.int .i64 107)) = tabD := by rfl
  rw [hD] at h4
  have bt : ∀ {u v : World}, Below w.heap.size w u → w.heap.size < u.heap.size → u.mapTurned v w.heap.size → Below w.heap.size w v := fun hb hlt ht => hb.grown ht.grown (by omega) (fun j hj => by cases hj; exact Nat.le_refl _)
  have s0 : w.heap.size < (w.alloc (.map #[] 0)).heap.size := by simp
  have B1 := bt b0 s0 t1
  have s1 := h1.lt
  have B2 := bt B1 s1 t2
  have s2 := h2.lt
  have B3 := bt B2 s2 t3
  have s3 := h3.lt
  have B4 := bt B3 s3 t4
  have H4 := hidOf (And.intro h4 B4)
  clear B1 B2 B3 B4 s0 s1 s2 s3 bt b0 t1 t2 t3 t4 h0 h1 h2 h3 h4 hD
  go_enter Try.func50, Try.ntmps50
  go_wp2
  go_ret
  exact ⟨_, _, rfl, H4.out.1, H4.out.2⟩
/-- A look into the table. -/
theorem tab_look (w : World) (mb n : Nat) (kind : Int) (h : w.ownsMap Try.prog 3 fnR mb n tabD) (hk : (Lit.int .i64 kind).wf = true) :
    ∃ v ps, (Instr.lookup 94 (.map (some mb)) (.int .i64 kind) true).run Try.prog w = .ok (.tuple #[v, .bool (Maps.has tabD (.int .i64 kind))]) w ∧ fnR v = some (tabD.atKey (.int .i64 kind) (.lit (.int .i64 (-1))), ps) :=
  h.look_ok key3 Try.underlying94 (zeroF w) (zd := .lit (.int .i64 (-1))) (zp := []) rfl (keyOf_int_mk Try.underlying3 hk)
theorem tab_no {kind : Int} (h1 : ¬ kind = 1) (h2 : ¬ kind = 2) (h3 : ¬ kind = 3) (h4 : ¬ kind = 4) : Maps.has tabD (.int .i64 kind) = false := by
  simp [tabD, Maps.has, Lit.sameKey, Ne.symm h1, Ne.symm h2, Ne.symm h3, Ne.symm h4]
theorem tab_1 (w : World) (mb n : Nat) (h : w.ownsMap Try.prog 3 fnR mb n tabD) : (Instr.lookup 94 (.map (some mb)) (.int .i64 1) true).run Try.prog w = .ok (.tuple #[.func (.func 104) #[] #[], .bool true]) w := by
  obtain ⟨v, ps, hr, hv⟩ := tab_look w mb n 1 h (by decide)
  obtain rfl := fnR_inv (k := 104) hv
  exact hr
theorem tab_2 (w : World) (mb n : Nat) (h : w.ownsMap Try.prog 3 fnR mb n tabD) : (Instr.lookup 94 (.map (some mb)) (.int .i64 2) true).run Try.prog w = .ok (.tuple #[.func (.func 105) #[] #[], .bool true]) w := by
  obtain ⟨v, ps, hr, hv⟩ := tab_look w mb n 2 h (by decide)
  obtain rfl := fnR_inv (k := 105) hv
  exact hr
theorem tab_3 (w : World) (mb n : Nat) (h : w.ownsMap Try.prog 3 fnR mb n tabD) : (Instr.lookup 94 (.map (some mb)) (.int .i64 3) true).run Try.prog w = .ok (.tuple #[.func (.func 106) #[] #[], .bool true]) w := by
  obtain ⟨v, ps, hr, hv⟩ := tab_look w mb n 3 h (by decide)
  obtain rfl := fnR_inv (k := 106) hv
  exact hr
theorem tab_4 (w : World) (mb n : Nat) (h : w.ownsMap Try.prog 3 fnR mb n tabD) : (Instr.lookup 94 (.map (some mb)) (.int .i64 4) true).run Try.prog w = .ok (.tuple #[.func (.func 107) #[] #[], .bool true]) w := by
  obtain ⟨v, ps, hr, hv⟩ := tab_look w mb n 4 h (by decide)
  obtain rfl := fnR_inv (k := 107) hv
  exact hr
theorem tab_0 (w : World) (mb n : Nat) (kind : Int) (h : w.ownsMap Try.prog 3 fnR mb n tabD) (hk : (Lit.int .i64 kind).wf = true) (h1 : ¬ kind = 1) (h2 : ¬ kind = 2) (h3 : ¬ kind = 3) (h4 : ¬ kind = 4) : ∃ v, (Instr.lookup 94 (.map (some mb)) (.int .i64 kind) true).run Try.prog w = .ok (.tuple #[v, .bool false]) w := by
  obtain ⟨v, ps, hr, _⟩ := tab_look w mb n kind h hk
  rw [tab_no h1 h2 h3 h4] at hr
  exact ⟨v, hr⟩
end Go.Proofs.Ytllpcbdecibloaa
namespace Go.Proofs.Ytllpcbdecibloaa
open Go.RowKit Go.Maps Pl Il

theorem put_any (v1 v2 : Value) (w : World) :
    Calls Try.prog 104 #[.agg #[v1, v2]] w fun e w' => e = .returned (.tuple #[v2, .bool true]) ∧ Below w.heap.size w w' := by
  have hb : Below w.heap.size w (w.alloc (.cells #[v1, v2] 97)) := bl_alloc (Below.refl _ _) _
  go_enter Try.func104, Try.ntmps104
  go_wp2
  go_ret2
  exact ⟨rfl, hb⟩
theorem add_nn (a b : Int) (w : World) (hw : IntKind.i64.wrap (a + b) = a + b) :
    Calls Try.prog 105 #[.agg #[.iface 153 (.int .i64 a), .iface 153 (.int .i64 b)]] w fun e w' => e = .returned (.tuple #[.iface 153 (.int .i64 (a + b)), .bool true]) ∧ Below w.heap.size w w' := by
  have hb : Below w.heap.size w (w.alloc (.cells #[.iface 153 (.int .i64 a), .iface 153 (.int .i64 b)] 97)) := bl_alloc (Below.refl _ _) _
  have h1 := as_nn a
  have h2 := as_nn b
  go_enter Try.func105, Try.ntmps105
  go_wp2
  go_ret2
  exact ⟨rfl, hb⟩
theorem add_nt (a : Int) (t : ByteArray) (w : World) :
    Calls Try.prog 105 #[.agg #[.iface 153 (.int .i64 a), .iface 154 (.string t)]] w fun e w' => (∃ v, e = .returned (.tuple #[v, .bool false])) ∧ Below w.heap.size w w' := by
  have hb : Below w.heap.size w (w.alloc (.cells #[.iface 153 (.int .i64 a), .iface 154 (.string t)] 97)) := bl_alloc (Below.refl _ _) _
  have h1 := as_nn a
  have h2 := as_nt t
  go_enter Try.func105, Try.ntmps105
  go_wp2
  go_ret2
  exact ⟨⟨_, rfl⟩, hb⟩
theorem add_t (s : ByteArray) (v : Value) (w : World) (hv : ∃ r b, ∀ u, (Instr.typeAssert v 89 153 true).run Try.prog u = .ok (.tuple #[.int .i64 r, .bool b]) u) :
    Calls Try.prog 105 #[.agg #[.iface 154 (.string s), v]] w fun e w' => (∃ v, e = .returned (.tuple #[v, .bool false])) ∧ Below w.heap.size w w' := by
  have hb : Below w.heap.size w (w.alloc (.cells #[.iface 154 (.string s), v] 97)) := bl_alloc (Below.refl _ _) _
  have h1 := as_nt s
  obtain ⟨r, b, h2⟩ := hv
  go_enter Try.func105, Try.ntmps105
  go_wp2
  go_ret2
  exact ⟨⟨_, rfl⟩, hb⟩
theorem join_tt (s t : ByteArray) (w : World) (hs : s.size ≤ 40) (ht : t.size ≤ 40) :
    Calls Try.prog 106 #[.agg #[.iface 154 (.string s), .iface 154 (.string t)]] w fun e w' => e = .returned (.tuple #[.iface 154 (.string (s ++ t)), .bool true]) ∧ Below w.heap.size w w' := by
  have hb : Below w.heap.size w (w.alloc (.cells #[.iface 154 (.string s), .iface 154 (.string t)] 97)) := bl_alloc (Below.refl _ _) _
  have h1 := as_tt s
  have h2 := as_tt t
  go_enter Try.func106, Try.ntmps106
  go_wp2
  go_ret2
  exact ⟨rfl, hb⟩
theorem join_tn (s : ByteArray) (a : Int) (w : World) (hm : s.size ≤ 40) :
    Calls Try.prog 106 #[.agg #[.iface 154 (.string s), .iface 153 (.int .i64 a)]] w fun e w' => (∃ v, e = .returned (.tuple #[v, .bool false])) ∧ Below w.heap.size w w' := by
  have hb : Below w.heap.size w (w.alloc (.cells #[.iface 154 (.string s), .iface 153 (.int .i64 a)] 97)) := bl_alloc (Below.refl _ _) _
  have h1 := as_tt s
  have h2 := as_tn a
  go_enter Try.func106, Try.ntmps106
  go_wp2
  go_ret2
  exact ⟨⟨_, rfl⟩, hb⟩
theorem join_n (a : Int) (v : Value) (t : ByteArray) (b : Bool) (w : World) (ht : t.size ≤ 40) (hv : ∀ u, (Instr.typeAssert v 89 154 true).run Try.prog u = .ok (.tuple #[.string t, .bool b]) u) :
    Calls Try.prog 106 #[.agg #[.iface 153 (.int .i64 a), v]] w fun e w' => (∃ v, e = .returned (.tuple #[v, .bool false])) ∧ Below w.heap.size w w' := by
  have hb : Below w.heap.size w (w.alloc (.cells #[.iface 153 (.int .i64 a), v] 97)) := bl_alloc (Below.refl _ _) _
  have h1 := as_tn a
  go_enter Try.func106, Try.ntmps106
  go_wp2
  go_ret2
  exact ⟨⟨_, rfl⟩, hb⟩
def mostV (b : Bool) (x y : Value) : Value := match b with | true => y | false => x
theorem most_any (k n : Int) (s : ByteArray) (k' n' : Int) (s' : ByteArray) (w : World) (h : okB k n s = true) (h' : okB k' n' s' = true) :
    Calls Try.prog 107 #[.agg #[.iface (tyOf k) (valOf k n s), .iface (tyOf k') (valOf k' n' s')]] w fun e w' => e = .returned (.tuple #[mostV (ltB k n s k' n' s') (.iface (tyOf k) (valOf k n s)) (.iface (tyOf k') (valOf k' n' s')), .bool true]) ∧ Below w.heap.size w w' := by
  have hb : Below w.heap.size w (w.alloc (.cells #[.iface (tyOf k) (valOf k n s), .iface (tyOf k') (valOf k' n' s')] 97)) := bl_alloc (Below.refl _ _) _
  have HL := hidOf (less_any k n s k' n' s' (w.alloc (.cells #[.iface (tyOf k) (valOf k n s), .iface (tyOf k') (valOf k' n' s')] 97)) h h')
  generalize tyOf k = t1 at *
  generalize tyOf k' = t2 at *
  generalize valOf k n s = v1 at *
  generalize valOf k' n' s' = v2 at *
  go_enter Try.func107, Try.ntmps107
  go_wp2_with fail
  refine HL.out.mono ?_
  rintro e w2 ⟨rfl, rfl⟩
  cases hl : ltB k n s k' n' s'
  · go_wp2
    go_ret2
    exact ⟨by rw [hl]; rfl, hb⟩
  · go_wp2
    go_ret2
    exact ⟨by rw [hl]; rfl, hb⟩
end Go.Proofs.Ytllpcbdecibloaa
namespace Go.Proofs.Ytllpcbdecibloaa.Pl
open Go.RowKit

theorem bls_asymm : ∀ (x y : List UInt8), Op.bytesLess x y = true → Op.bytesLess y x = false := by
  intro x
  induction x with
  | nil => intro y h; cases y <;> simp_all [Op.bytesLess]
  | cons a r ih =>
    intro y h
    cases y with
    | nil => simp [Op.bytesLess] at h
    | cons b r' =>
      simp only [Op.bytesLess, Bool.or_eq_true, decide_eq_true_eq, Bool.and_eq_true, beq_iff_eq, UInt8.lt_iff_toNat_lt, Bool.or_eq_false_iff, decide_eq_false_iff_not, Bool.and_eq_false_iff, beq_eq_false_iff_ne, ne_eq, ← UInt8.toNat_inj] at h ⊢
      rcases h with h | ⟨e, h⟩
      · exact ⟨by omega, .inl (by omega)⟩
      · exact ⟨by omega, .inr (ih r' h)⟩
theorem bls_trans : ∀ (x y z : List UInt8), Op.bytesLess x y = true → Op.bytesLess y z = true → Op.bytesLess x z = true := by
  intro x
  induction x with
  | nil => intro y z h k; cases y <;> cases z <;> simp_all [Op.bytesLess]
  | cons a r ih =>
    intro y z h k
    cases y with
    | nil => simp [Op.bytesLess] at h
    | cons b r' =>
      cases z with
      | nil => simp [Op.bytesLess] at k
      | cons d r'' =>
        simp only [Op.bytesLess, Bool.or_eq_true, decide_eq_true_eq, Bool.and_eq_true, beq_iff_eq, UInt8.lt_iff_toNat_lt, ← UInt8.toNat_inj] at h k ⊢
        rcases h with h | ⟨e, h⟩ <;> rcases k with k | ⟨e', k⟩
        · exact .inl (by omega)
        · exact .inl (by omega)
        · exact .inl (by omega)
        · exact .inr ⟨by omega, ih r' r'' h k⟩
theorem bls_tri : ∀ (x y : List UInt8), Op.bytesLess x y = false → Op.bytesLess y x = false → x = y := by
  intro x
  induction x with
  | nil => intro y h k; cases y <;> simp_all [Op.bytesLess]
  | cons a r ih =>
    intro y h k
    cases y with
    | nil => simp [Op.bytesLess] at k
    | cons b r' =>
      simp only [Op.bytesLess, UInt8.lt_iff_toNat_lt, Bool.or_eq_false_iff, decide_eq_false_iff_not, Bool.and_eq_false_iff, beq_eq_false_iff_ne, ne_eq, ← UInt8.toNat_inj] at h k
      obtain ⟨h1, h2⟩ := h
      obtain ⟨k1, k2⟩ := k
      have e : a.toNat = b.toNat := by omega
      have e' : a = b := UInt8.toNat_inj.1 e
      rcases h2 with h2 | h2
      · omega
      · rcases k2 with k2 | k2
        · omega
        · rw [e', ih r' h2 k2]

theorem ok_one' {k n : Int} {s : ByteArray} (h : okB k n s = true) (h1 : k = 1) : s.toList = [] := by
  subst h1; simp [okB] at h; exact h.1
theorem ok_two' {k n : Int} {s : ByteArray} (h : okB k n s = true) (h1 : ¬ k = 1) : k = 2 ∧ n = 0 := by
  unfold okB at h
  rw [if_neg h1] at h
  by_cases h2 : k = 2
  · rw [if_pos h2] at h; simp at h; exact ⟨h2, h.1⟩
  · rw [if_neg h2] at h; cases h

theorem lt_asymm {k n : Int} {s : ByteArray} {k' n' : Int} {s' : ByteArray} (h : ltB k n s k' n' s' = true) : ltB k' n' s' k n s = false := by
  unfold ltB at h ⊢
  split at h
  · rename_i ho
    rw [if_pos ⟨ho.2, ho.1⟩]
    by_cases e : k = k'
    · subst e
      simp only [if_true] at h ⊢
      by_cases h1 : k = 1
      · simp only [h1, if_true, decide_eq_true_eq, decide_eq_false_iff_not] at h ⊢; omega
      · rw [if_neg h1] at h ⊢; exact bls_asymm _ _ h
    · rw [if_neg e] at h; rw [if_neg (Ne.symm e)]
      simp only [decide_eq_true_eq, decide_eq_false_iff_not] at h ⊢; omega
  · cases h
theorem lt_tri {k n : Int} {s : ByteArray} {k' n' : Int} {s' : ByteArray} (ho : okB k n s = true) (ho' : okB k' n' s' = true) (h : ltB k n s k' n' s' = false) (h' : ltB k' n' s' k n s = false) : k = k' ∧ n = n' ∧ s.toList = s'.toList := by
  unfold ltB at h h'
  rw [if_pos ⟨ho, ho'⟩] at h
  rw [if_pos ⟨ho', ho⟩] at h'
  by_cases e : k = k'
  · subst e
    simp only [if_true] at h h'
    by_cases h1 : k = 1
    · simp only [h1, if_true, decide_eq_false_iff_not] at h h'
      exact ⟨rfl, by omega, (ok_one' ho h1).trans (ok_one' ho' h1).symm⟩
    · rw [if_neg h1] at h h'
      exact ⟨rfl, (ok_two' ho h1).2.trans (ok_two' ho' h1).2.symm, bls_tri _ _ h h'⟩
  · rw [if_neg e] at h; rw [if_neg (Ne.symm e)] at h'
    simp only [decide_eq_false_iff_not] at h h'; omega
theorem lt_trans' {k n : Int} {s : ByteArray} {k' n' : Int} {s' : ByteArray} {k'' n'' : Int} {s'' : ByteArray} (h : ltB k n s k' n' s' = true) (h' : ltB k' n' s' k'' n'' s'' = true) : ltB k n s k'' n'' s'' = true := by
  unfold ltB at h h' ⊢
  split at h
  · rename_i ho
    split at h'
    · rename_i ho'
      rw [if_pos ⟨ho.1, ho'.2⟩]
      by_cases e : k = k' <;> by_cases e' : k' = k''
      · subst e e'
        simp only [if_true] at h h' ⊢
        by_cases h1 : k = 1
        · simp only [h1, if_true, decide_eq_true_eq] at h h' ⊢; omega
        · rw [if_neg h1] at h h' ⊢; exact bls_trans _ _ _ h h'
      · subst e
        rw [if_neg e'] at h' ⊢; exact h'
      · subst e'
        rw [if_neg e] at h ⊢; exact h
      · rw [if_neg e] at h; rw [if_neg e'] at h'
        simp only [decide_eq_true_eq] at h h'
        rw [if_neg (by omega)]; simp only [decide_eq_true_eq]; omega
    · cases h'
  · cases h
end Go.Proofs.Ytllpcbdecibloaa.Pl
namespace Go.Proofs.Ytllpcbdecibloaa
open Go.RowKit Go.Maps Pl Il

theorem ba_extC {a b : ByteArray} (h : a.toList = b.toList) : a = b := by
  rw [ByteArray.toList_eq, ByteArray.toList_eq] at h
  cases a with
  | mk x => cases b with
    | mk y => simp only at h; rw [Array.toList_inj.1 h]
theorem ok_cases {k n : Int} {s : ByteArray} (h : okB k n s = true) : (k = 1 ∧ s = ⟨#[]⟩ ∧ -999999999 ≤ n ∧ n ≤ 999999999) ∨ (k = 2 ∧ n = 0 ∧ s.size ≤ 40) := by
  by_cases h1 : k = 1
  · subst h1
    simp only [okB, if_true, Bool.and_eq_true, List.isEmpty_iff, okNum, decide_eq_true_eq] at h
    exact .inl ⟨rfl, ba_extC (by rw [h.1, ByteArray.toList_eq]), h.2.1, h.2.2⟩
  · by_cases h2 : k = 2
    · subst h2
      simp [okB, plainB] at h
      exact .inr ⟨rfl, h.1, h.2.1⟩
    · simp [okB, h1, h2] at h
theorem okB_num (b : Int) : okB 1 b ⟨#[]⟩ = okNum b := by
  have : (⟨#[]⟩ : ByteArray).toList = [] := by rw [ByteArray.toList_eq]
  simp [okB, this]
theorem okB_txt (c : ByteArray) : okB 2 0 c = plainB c := by simp [okB]
/-- What comes back of a change's method. -/
def AftP (k n : Int) (s : ByteArray) (kind k' n' : Int) (s' : ByteArray) (e : Ending) : Prop :=
  (chRaw k n s kind k' n' s' = none ∧ ∃ v, e = .returned (.tuple #[v, .bool false])) ∨
  (∃ b, chRaw k n s kind k' n' s' = some (1, b, ⟨#[]⟩) ∧ e = .returned (.tuple #[.iface 153 (.int .i64 b), .bool true])) ∨
  (∃ c, c.size ≤ maxLen ∧ chRaw k n s kind k' n' s' = some (2, 0, c) ∧ e = .returned (.tuple #[.iface 154 (.string c), .bool true]))
theorem aft_is {k n : Int} {s : ByteArray} {kind k' n' : Int} {s' : ByteArray} {a b : Int} {c : ByteArray} (h : okB a b c = true) (hr : chRaw k n s kind k' n' s' = some (a, b, c)) : AftP k n s kind k' n' s' (.returned (.tuple #[.iface (tyOf a) (valOf a b c), .bool true])) := by
  rcases ok_cases h with ⟨rfl, rfl, _⟩ | ⟨rfl, rfl, hc⟩
  · exact .inr (.inl ⟨b, hr, rfl⟩)
  · exact .inr (.inr ⟨c, by unfold maxLen; omega, hr, rfl⟩)
/-- The contract of a function of the table. -/
def FunP (k n : Int) (s : ByteArray) (kind k' n' : Int) (s' : ByteArray) (f : Nat) : Prop := ∀ u : World, okB k n s = true → okB k' n' s' = true →
  Calls Try.prog f #[.agg #[.iface (tyOf k) (valOf k n s), .iface (tyOf k') (valOf k' n' s')]] u fun e u' => AftP k n s kind k' n' s' e ∧ Below u.heap.size u u'
theorem fun_1 (k n : Int) (s : ByteArray) (k' n' : Int) (s' : ByteArray) : FunP k n s 1 k' n' s' 104 := by
  intro u h h'
  exact (put_any _ _ u).mono fun e u' ⟨he, hb⟩ => ⟨by rw [he]; exact aft_is h' (raw1 k n s k' n' s'), hb⟩
theorem wrap_sum' {n m : Int} (h1 : -999999999 ≤ n) (h2 : n ≤ 999999999) (h3 : -999999999 ≤ m) (h4 : m ≤ 999999999) : IntKind.i64.wrap (n + m) = n + m := by
  rw [IntKind.wrap_i64]; omega
theorem fun_2 (k n : Int) (s : ByteArray) (k' n' : Int) (s' : ByteArray) : FunP k n s 2 k' n' s' 105 := by
  intro u h h'
  rcases ok_cases h with ⟨rfl, rfl, a1, a2⟩ | ⟨rfl, rfl, a1⟩
  · rcases ok_cases h' with ⟨rfl, rfl, b1, b2⟩ | ⟨rfl, rfl, b1⟩
    · exact (add_nn n n' u (wrap_sum' a1 a2 b1 b2)).mono fun e u' ⟨he, hb⟩ => ⟨.inr (.inl ⟨n + n', raw2 ⟨rfl, rfl⟩, he⟩), hb⟩
    · exact (add_nt n s' u).mono fun e u' ⟨he, hb⟩ => ⟨.inl ⟨raw2n (by omega), he⟩, hb⟩
  · have hv : ∃ r b, ∀ u, (Instr.typeAssert (.iface (tyOf k') (valOf k' n' s')) 89 153 true).run Try.prog u = .ok (.tuple #[.int .i64 r, .bool b]) u := by
      rcases ok_cases h' with ⟨rfl, rfl, _⟩ | ⟨rfl, rfl, _⟩
      · exact ⟨_, _, as_nn n'⟩
      · exact ⟨_, _, as_nt s'⟩
    exact (add_t s _ u hv).mono fun e u' ⟨he, hb⟩ => ⟨.inl ⟨raw2n (by omega), he⟩, hb⟩
theorem fun_3 (k n : Int) (s : ByteArray) (k' n' : Int) (s' : ByteArray) : FunP k n s 3 k' n' s' 106 := by
  intro u h h'
  rcases ok_cases h with ⟨rfl, rfl, a1, a2⟩ | ⟨rfl, rfl, a1⟩
  · rcases ok_cases h' with ⟨rfl, rfl, b1, b2⟩ | ⟨rfl, rfl, b1⟩
    · exact (join_n n _ ⟨#[]⟩ false u (by decide) (as_tn n')).mono fun e u' ⟨he, hb⟩ => ⟨.inl ⟨raw3n (by omega), he⟩, hb⟩
    · exact (join_n n _ s' true u b1 (as_tt s')).mono fun e u' ⟨he, hb⟩ => ⟨.inl ⟨raw3n (by omega), he⟩, hb⟩
  · rcases ok_cases h' with ⟨rfl, rfl, b1, b2⟩ | ⟨rfl, rfl, b1⟩
    · exact (join_tn s n' u a1).mono fun e u' ⟨he, hb⟩ => ⟨.inl ⟨raw3n (by omega), he⟩, hb⟩
    · exact (join_tt s s' u a1 b1).mono fun e u' ⟨he, hb⟩ => ⟨.inr (.inr ⟨s ++ s', by rw [ByteArray.size_append]; unfold maxLen; omega, raw3 ⟨rfl, rfl⟩, he⟩), hb⟩
theorem fun_4 (k n : Int) (s : ByteArray) (k' n' : Int) (s' : ByteArray) : FunP k n s 4 k' n' s' 107 := by
  intro u h h'
  refine (most_any k n s k' n' s' u h h').mono fun e u' ⟨he, hb⟩ => ⟨?_, hb⟩
  rw [he]
  cases hl : ltB k n s k' n' s'
  · cases hr : ltB k' n' s' k n s
    · obtain ⟨rfl, rfl, hs⟩ := lt_tri h h' hl hr
      have := ba_extC hs
      subst this
      exact aft_is h (raw4n hr)
    · exact aft_is h (raw4y hr)
  · exact aft_is h' (raw4n (lt_asymm hl))
/-- A look into the table, whatever the kind. -/
theorem tab_any (k n : Int) (s : ByteArray) (k' n' : Int) (s' : ByteArray) (w : World) (mb m : Nat) (kind : Int) (h : w.ownsMap Try.prog 3 fnR mb m tabD) (hk : (Lit.int .i64 kind).wf = true) :
    ∃ v b, (Instr.lookup 94 (.map (some mb)) (.int .i64 kind) true).run Try.prog w = .ok (.tuple #[v, .bool b]) w ∧
      ((b = false ∧ chRaw k n s kind k' n' s' = none) ∨ (b = true ∧ ∃ f, v = .func (.func f) #[] #[] ∧ (∀ args u, (callFunc f args).run Try.prog u = .ok (.enter f args) u) ∧ FunP k n s kind k' n' s' f)) := by
  by_cases h1 : kind = 1
  · subst h1; exact ⟨_, _, tab_1 w mb m h, .inr ⟨rfl, _, rfl, fun _ _ => by kernel_rfl, fun_1 k n s k' n' s'⟩⟩
  by_cases h2 : kind = 2
  · subst h2; exact ⟨_, _, tab_2 w mb m h, .inr ⟨rfl, _, rfl, fun _ _ => by kernel_rfl, fun_2 k n s k' n' s'⟩⟩
  by_cases h3 : kind = 3
  · subst h3; exact ⟨_, _, tab_3 w mb m h, .inr ⟨rfl, _, rfl, fun _ _ => by kernel_rfl, fun_3 k n s k' n' s'⟩⟩
  by_cases h4 : kind = 4
  · subst h4; exact ⟨_, _, tab_4 w mb m h, .inr ⟨rfl, _, rfl, fun _ _ => by kernel_rfl, fun_4 k n s k' n' s'⟩⟩
  obtain ⟨v, hv⟩ := tab_0 w mb m kind h hk h1 h2 h3 h4
  exact ⟨v, _, hv, .inl ⟨rfl, raw0 h1 h2 h3 h4⟩⟩
theorem body_two (k n : Int) (s : ByteArray) (w : World) (hm : s.size ≤ maxLen) :
    Calls Try.prog 49 #[.agg #[.int .i64 k, .int .i64 n, .string s]] w fun e w' =>
      (∃ v, e = .returned (.tuple #[v, .bool (okB k n s)]) ∧ (okB k n s = true → v = .iface (tyOf k) (valOf k n s))) ∧ Below w.heap.size w w' := by
  refine (body_any k n s w hm).mono fun e w' ⟨hc, hb⟩ => ⟨?_, hb⟩
  rcases hc with ⟨h, rfl⟩ | ⟨h, rfl⟩
  · exact ⟨_, by rw [h]; rfl, fun _ => rfl⟩
  · exact ⟨_, by rw [h]; rfl, fun h' => by rw [h] at h'; cases h'⟩
end Go.Proofs.Ytllpcbdecibloaa
namespace Go.Proofs.Ytllpcbdecibloaa
open Go.RowKit Pl Il

theorem lt_irr {k n : Int} {s : ByteArray} : ltB k n s k n s = false := by
  cases h : ltB k n s k n s with
  | false => rfl
  | true => have := lt_asymm h; rw [h] at this; cases this
theorem ch_put {k n : Int} {s : ByteArray} {k' n' : Int} {s' : ByteArray} (h0 : okB k n s = true) (h1 : okB k' n' s' = true) : changedM k n s 1 k' n' s' = (k', n', s', true) := by
  rw [ch_some h0 h1 (raw1 k n s k' n' s'), if_pos h1]
theorem ch_most {k n : Int} {s : ByteArray} {k' n' : Int} {s' : ByteArray} (h0 : okB k n s = true) (h1 : okB k' n' s' = true) :
    ∃ a b c, changedM k n s 4 k' n' s' = (a, b, c, true) ∧ changedM k' n' s' 4 k n s = (a, b, c, true) ∧ ltB a b c k n s = false ∧ c.size ≤ 40 := by
  have sz : ∀ {k n : Int} {s : ByteArray}, okB k n s = true → s.size ≤ 40 := fun h => by
    rcases ok_cases h with ⟨_, rfl, _⟩ | ⟨_, _, h⟩
    · decide
    · exact h
  cases hl : ltB k n s k' n' s' with
  | true =>
    refine ⟨k', n', s', ?_, ?_, lt_asymm hl, sz h1⟩
    · rw [ch_some h0 h1 (raw4n (lt_asymm hl)), if_pos h1]
    · rw [ch_some h1 h0 (raw4y hl), if_pos h1]
  | false =>
    cases hr : ltB k' n' s' k n s with
    | true =>
      refine ⟨k, n, s, ?_, ?_, lt_irr, sz h0⟩
      · rw [ch_some h0 h1 (raw4y hr), if_pos h0]
      · rw [ch_some h1 h0 (raw4n hl), if_pos h0]
    | false =>
      obtain ⟨rfl, rfl, hs⟩ := lt_tri h0 h1 hl hr
      have := ba_extC hs
      subst this
      exact ⟨k, n, s, by rw [ch_some h0 h1 (raw4n hr), if_pos h0], by rw [ch_some h0 h1 (raw4n hr), if_pos h0], lt_irr, sz h0⟩
theorem ch_add {k n : Int} {s : ByteArray} {k' n' : Int} {s' : ByteArray} (h0 : okB k n s = true) (h1 : okB k' n' s' = true) : changedM k n s 2 k' n' s' = changedM k' n' s' 2 k n s := by
  by_cases h : k = 1 ∧ k' = 1
  · rw [ch_some h0 h1 (raw2 h), ch_some h1 h0 (raw2 ⟨h.2, h.1⟩)]
    rcases ok_cases h0 with ⟨rfl, rfl, _⟩ | ⟨h2, _⟩
    · rcases ok_cases h1 with ⟨rfl, rfl, _⟩ | ⟨h2, _⟩
      · rw [Int.add_comm]
      · omega
    · omega
  · rw [ch_none h0 h1 (raw2n h), ch_none h1 h0 (raw2n (fun e => h ⟨e.2, e.1⟩))]
/-- What is told as done is right. -/
theorem ch_fine {k n : Int} {s : ByteArray} {kind k' n' : Int} {s' : ByteArray} {a b : Int} {c : ByteArray} (h : changedM k n s kind k' n' s' = (a, b, c, true)) : okB a b c = true := by
  unfold changedM at h
  split at h
  · simp [noCh] at h
  · split at h
    · simp [noCh] at h
    · split at h
      · simp [noCh] at h
      · split at h
        · rename_i ho
          simp at h
          obtain ⟨rfl, rfl, rfl⟩ := h
          exact ho
        · simp [noCh] at h
theorem ch_size {k n : Int} {s : ByteArray} {kind k' n' : Int} {s' : ByteArray} : (changedM k n s kind k' n' s').2.2.1.size ≤ 40 := by
  obtain ⟨⟨a, b, c, d⟩, hx⟩ : ∃ x, changedM k n s kind k' n' s' = x := ⟨_, rfl⟩
  rw [hx]
  cases d with
  | true =>
    rcases ok_cases (ch_fine hx) with ⟨_, rfl, _⟩ | ⟨_, _, h⟩
    · exact (by decide : (0 : Nat) ≤ 40)
    · exact h
  | false =>
    unfold changedM at hx
    split at hx
    · simp [noCh] at hx; obtain ⟨_, _, rfl⟩ := hx; exact (by decide : (0 : Nat) ≤ 40)
    · split at hx
      · simp [noCh] at hx; obtain ⟨_, _, rfl⟩ := hx; exact (by decide : (0 : Nat) ≤ 40)
      · split at hx
        · simp [noCh] at hx; obtain ⟨_, _, rfl⟩ := hx; exact (by decide : (0 : Nat) ≤ 40)
        · split at hx
          · simp at hx
          · simp [noCh] at hx; obtain ⟨_, _, rfl⟩ := hx; exact (by decide : (0 : Nat) ≤ 40)
/-- Of a message that is not right nothing is made. -/
theorem ch_bad {k n : Int} {s : ByteArray} {kind k' n' : Int} {s' : ByteArray} (h : okB k n s = false ∨ okB k' n' s' = false) : changedM k n s kind k' n' s' = noCh := by
  rcases h with h | h
  · exact ch_no1 h
  · unfold changedM
    rw [if_pos h]
    split <;> rfl
end Go.Proofs.Ytllpcbdecibloaa
namespace Go.Proofs.Ytllpcbdecibloaa
open Go.RowKit Go.Maps Pl Il

/-- The three variables of the program's Changed. -/
structure ChJ (w : World) (k n : Int) (s : ByteArray) (kind k' n' : Int) (s' : ByteArray) (u : World) : Prop where
  m : Box3 w.heap.size (.int .i64 k) (.int .i64 n) (.string s) u
  x0 : u.cell? ⟨w.heap.size + 1, 0, none⟩ = some (.int .i64 kind)
  x1 : u.cell? ⟨w.heap.size + 1, 1, none⟩ = some (.int .i64 k')
  x2 : u.cell? ⟨w.heap.size + 1, 2, none⟩ = some (.int .i64 n')
  x3 : u.cell? ⟨w.heap.size + 1, 3, none⟩ = some (.string s')
  r : Box3 (w.heap.size + 1 + 1) (.int .i64 0) (.int .i64 0) (.string ⟨#[]⟩) u
  below : Below w.heap.size w u
theorem ChJ.keep {w : World} {k n : Int} {s : ByteArray} {kind k' n' : Int} {s' : ByteArray} {u u' : World} (h : ChJ w k n s kind k' n' s' u) (hb : Below u.heap.size u u') : ChJ w k n s kind k' n' s' u' :=
  ⟨h.m.keep hb, cellU h.x0 hb, cellU h.x1 hb, cellU h.x2 hb, cellU h.x3 hb, h.r.keep hb, bl_trans h.below hb⟩
theorem ChJ.fin {w : World} {k n : Int} {s : ByteArray} {kind k' n' : Int} {s' : ByteArray} {u : World} (h : ChJ w k n s kind k' n' s' u) (y0 y1 y2 : Value) : Below w.heap.size w (((u.setCell ⟨w.heap.size + 1 + 1, 0, none⟩ y0).setCell ⟨w.heap.size + 1 + 1, 1, none⟩ y1).setCell ⟨w.heap.size + 1 + 1, 2, none⟩ y2) :=
  bl_set1 (bl_set1 (bl_set1 h.below _ 0 (by omega) y0) _ 1 (by omega) y1) _ 2 (by omega) y2
theorem chj_new (w : World) (k n : Int) (s : ByteArray) (kind k' n' : Int) (s' : ByteArray) : ChJ w k n s kind k' n' s' (((w.alloc (.cells #[.int .i64 k, .int .i64 n, .string s] 25)).alloc (.cells #[.int .i64 kind, .int .i64 k', .int .i64 n', .string s'] 27)).alloc (.cells #[.int .i64 0, .int .i64 0, .string ⟨#[]⟩] 25)) := by
  have s1 : (w.alloc (.cells #[.int .i64 k, .int .i64 n, .string s] 25)).heap.size = w.heap.size + 1 := by simp
  have s2 : ((w.alloc (.cells #[.int .i64 k, .int .i64 n, .string s] 25)).alloc (.cells #[.int .i64 kind, .int .i64 k', .int .i64 n', .string s'] 27)).heap.size = w.heap.size + 1 + 1 := by simp
  have bb : ∀ (v : World) (a : Obj), Below v.heap.size v (v.alloc a) := fun v a => bl_alloc (Below.refl _ _) _
  refine ⟨(((Box3.new w _ _ _ _).alloc _).alloc _), cellU ?_ (bb _ _), cellU ?_ (bb _ _), cellU ?_ (bb _ _), cellU ?_ (bb _ _), ?_, bl_alloc (bl_alloc (bl_alloc (Below.refl _ _) _) _) _⟩
  · rw [← s1]; simp
  · rw [← s1]; simp
  · rw [← s1]; simp
  · rw [← s1]; simp
  · rw [← s2]; exact Box3.new _ _ _ _ _
set_option maxRecDepth 100000 in
set_option maxHeartbeats 2000000 in
theorem implChanged_any (k n : Int) (s : ByteArray) (kind k' n' : Int) (s' : ByteArray) (w : World) (hs : s.size ≤ maxLen) (hs' : s'.size ≤ maxLen) (hk : (Lit.int .i64 kind).wf = true) :
    Calls Try.prog 12 #[.agg #[.int .i64 k, .int .i64 n, .string s], .agg #[.int .i64 kind, .int .i64 k', .int .i64 n', .string s']] w fun e w' => ChP (changedM k n s kind k' n' s') e ∧ Below w.heap.size w w' := by
  have HV0 := hidOf (chj_new w k n s kind k' n' s')
  have HK := hidOf hk
  clear hk
  go_enter Try.func12, Try.ntmps12
  go_wp2_with fail
  refine (body_two k n s _ hs).mono ?_
  rintro e w1 ⟨⟨v1, rfl, hv1⟩, hb1⟩
  have HE1 := hidOf hv1
  have V1 := HV0.out.keep hb1
  obtain ⟨_, m0, m1, m2, mf⟩ := id V1.m
  have x0 := V1.x0
  have x1 := V1.x1
  have x2 := V1.x2
  have x3 := V1.x3
  obtain ⟨_, r0, r1, r2, rf⟩ := id V1.r
  have HV1 := hidOf V1
  clear V1 hb1 HV0 hv1
  go_wp2_with fail
  refine (body_two k' n' s' _ hs').mono ?_
  rintro e w2 ⟨⟨v2, rfl, hv2⟩, hb2⟩
  have HE2 := hidOf hv2
  have V2 := HV1.out.keep hb2
  clear m0 m1 m2 mf x0 x1 x2 x3 r0 r1 r2 rf
  have x0 := V2.x0
  have HV2 := hidOf V2
  clear V2 hb2 HV1 hv2
  go_wp2_with fail
  first | (go_region_with (first | (go_at_call 50; refine (changes_any _).mono ?_; rintro e w3 ⟨mb, mm, rfl, hmap, hb3⟩; have V3 := HV2.out.keep ((Below.refl _ _).drew.trans hb3); obtain ⟨v3, b3, hlook, hc3⟩ := tab_any k n s k' n' s' w3 mb mm kind hmap HK.out; have x0' := V3.x0; have HV3 := hidOf V3; have HC3 := hidOf hc3; clear V3 hc3 hb3 hmap))) | fail
  all_goals
    clear HV2 x0
    obtain ⟨_, r0, r1, r2, rf⟩ := id HV3.out.r
    cases h0 : okB k n s
    · have HR := hidOf (ch_no1 (kind := kind) (k' := k') (n' := n') (s' := s') h0)
      have HF := hidOf (HV3.out.fin (.int .i64 0) (.int .i64 0) (.string ⟨#[]⟩))
      go_wp2
      refine bodyPost_ret (v := .tuple #[.agg #[.int .i64 0, .int .i64 0, .string ⟨#[]⟩], .bool false]) (by simp [results, Try.results12, go_sem, r0, r1, r2]) rfl ?_
      exact ⟨by unfold ChP; rw [HR.out]; rfl, HF.out⟩
    cases h1 : okB k' n' s'
    · have HR := hidOf (ch_no2 (kind := kind) h0 h1)
      have HF := hidOf (HV3.out.fin (.int .i64 0) (.int .i64 0) (.string ⟨#[]⟩))
      go_wp2
      refine bodyPost_ret (v := .tuple #[.agg #[.int .i64 0, .int .i64 0, .string ⟨#[]⟩], .bool false]) (by simp [results, Try.results12, go_sem, r0, r1, r2]) rfl ?_
      exact ⟨by unfold ChP; rw [HR.out]; rfl, HF.out⟩
    have HO := hidOf (And.intro h0 h1)
    rcases HC3.out with ⟨rfl, hn⟩ | ⟨rfl, f, rfl, hcf, hf⟩
    · have HR := hidOf (ch_none h0 h1 hn)
      have HF := hidOf (HV3.out.fin (.int .i64 0) (.int .i64 0) (.string ⟨#[]⟩))
      clear hn
      go_wp2
      refine bodyPost_ret (v := .tuple #[.agg #[.int .i64 0, .int .i64 0, .string ⟨#[]⟩], .bool false]) (by simp [results, Try.results12, go_sem, r0, r1, r2]) rfl ?_
      exact ⟨by unfold ChP; rw [HR.out]; rfl, HF.out⟩
    · have HFf := hidOf (fun u => hf u h0 h1)
      have e1 := HE1.out h0
      have e2 := HE2.out h1
      subst e1 e2
      clear hf HE1 HE2
      go_wp2_with fail
      refine (HFf.out _).mono ?_
      rintro e w4 ⟨ha, hb4⟩
      have V4 := HV3.out.keep hb4
      clear r0 r1 r2 rf x0' HFf HC3 hcf
      obtain ⟨_, r0, r1, r2, rf⟩ := id V4.r
      have HV4 := hidOf V4
      clear V4 hb4 HV3
      rcases ha with ⟨hr, v4, rfl⟩ | ⟨b, hr, rfl⟩ | ⟨c, hc, hr, rfl⟩
      · have HR := hidOf (ch_none HO.out.1 HO.out.2 hr)
        have HF := hidOf (HV4.out.fin (.int .i64 0) (.int .i64 0) (.string ⟨#[]⟩))
        clear hr
        go_wp2
        refine bodyPost_ret (v := .tuple #[.agg #[.int .i64 0, .int .i64 0, .string ⟨#[]⟩], .bool false]) (by simp [results, Try.results12, go_sem, r0, r1, r2]) rfl ?_
        exact ⟨by unfold ChP; rw [HR.out]; rfl, HF.out⟩
      · have mr := meth_right_num b
        have mm := meth_msg_num b
        have HRw := hidOf (ch_some HO.out.1 HO.out.2 hr)
        clear hr
        go_wp2_with fail
        refine (right_num b _).mono ?_
        rintro e w5 ⟨rfl, rfl⟩
        cases h9 : okNum b
        · have HR := hidOf (HRw.out.trans (if_neg (by rw [okB_num, h9]; simp)))
          have HF := hidOf (HV4.out.fin (.int .i64 0) (.int .i64 0) (.string ⟨#[]⟩))
          go_wp2
          refine bodyPost_ret (v := .tuple #[.agg #[.int .i64 0, .int .i64 0, .string ⟨#[]⟩], .bool false]) (by simp [results, Try.results12, go_sem, r0, r1, r2]) rfl ?_
          exact ⟨by unfold ChP; rw [HR.out]; rfl, HF.out⟩
        · have HR := hidOf (HRw.out.trans (if_pos (by rw [okB_num, h9])))
          go_wp2_with fail
          refine (msg_num b _).mono ?_
          rintro e w6 ⟨rfl, hw6⟩
          have V6 := HV4.out.keep (hw6 ▸ bl_alloc (Below.refl _ _) _)
          clear r0 r1 r2 rf hw6
          obtain ⟨_, r0, r1, r2, rf⟩ := id V6.r
          have HF := hidOf (V6.fin (.int .i64 1) (.int .i64 b) (.string ⟨#[]⟩))
          clear V6
          go_wp2
          refine bodyPost_ret (v := .tuple #[.agg #[.int .i64 1, .int .i64 b, .string ⟨#[]⟩], .bool true]) (by simp [results, Try.results12, go_sem, r0, r1, r2]) rfl ?_
          exact ⟨by unfold ChP; rw [HR.out], HF.out⟩
      · have mr := meth_right_text c
        have mm := meth_msg_text c
        have HRw := hidOf (ch_some HO.out.1 HO.out.2 hr)
        clear hr
        go_wp2_with fail
        refine (right_text c _ hc).mono ?_
        rintro e w5 ⟨rfl, rfl⟩
        cases h9 : plainB c
        · have HR := hidOf (HRw.out.trans (if_neg (by rw [okB_txt, h9]; simp)))
          have HF := hidOf (HV4.out.fin (.int .i64 0) (.int .i64 0) (.string ⟨#[]⟩))
          go_wp2
          refine bodyPost_ret (v := .tuple #[.agg #[.int .i64 0, .int .i64 0, .string ⟨#[]⟩], .bool false]) (by simp [results, Try.results12, go_sem, r0, r1, r2]) rfl ?_
          exact ⟨by unfold ChP; rw [HR.out]; rfl, HF.out⟩
        · have HR := hidOf (HRw.out.trans (if_pos (by rw [okB_txt, h9])))
          go_wp2_with fail
          refine (msg_text c _).mono ?_
          rintro e w6 ⟨rfl, hw6⟩
          have V6 := HV4.out.keep (hw6 ▸ bl_alloc (Below.refl _ _) _)
          clear r0 r1 r2 rf hw6
          obtain ⟨_, r0, r1, r2, rf⟩ := id V6.r
          have HF := hidOf (V6.fin (.int .i64 2) (.int .i64 0) (.string c))
          clear V6
          go_wp2
          refine bodyPost_ret (v := .tuple #[.agg #[.int .i64 2, .int .i64 0, .string c], .bool true]) (by simp [results, Try.results12, go_sem, r0, r1, r2]) rfl ?_
          exact ⟨by unfold ChP; rw [HR.out], HF.out⟩
end Go.Proofs.Ytllpcbdecibloaa
namespace Go.Proofs.Ytllpcbdecibloaa
open Go.RowKit Pl Il

theorem big_any (a : Option Addr) (n cap : Nat) (w : World) :
    Calls Try.prog 10 #[.slice a n cap] w fun e w' => e = .returned (.bool (decide (1048576 < n))) ∧ w' = w := by
  go_enter Try.func10, Try.ntmps10
  go_wp2
  go_ret
  refine ⟨rbool ?_, rfl⟩
  rw [Bool.eq_iff_iff]; simp; try omega
theorem sameInts_any (a a' : Option Addr) (n n' cap cap' : Nat) (xs ys : List Int) (w : World) (hI : IntsAt w a n xs) (hJ : IntsAt w a' n' ys) (hn : n ≤ 2097152) (hn' : n' ≤ 2097152) :
    Calls Try.prog 40 #[.slice a n cap, .slice a' n' cap'] w fun e w' => e = .returned (.bool (eqL xs ys)) ∧ Below w.heap.size w w' := by
  by_cases hl : n = n'
  · subst hl
    obtain ⟨hlen, rfl | ⟨b, off, rfl, hb, hcell⟩⟩ := hI
    · have : xs = [] := List.length_eq_zero_iff.1 hlen
      have e2 : ys = [] := List.length_eq_zero_iff.1 hJ.len
      subst this e2
      go_enter Try.func40, Try.ntmps40
      go_wp2
      go_loop [5] (fun i => i = .int .i64 0) (fun _ => 0)
      case atStart => rfl
      case round =>
        subst hrel
        go_wp2
        go_ret
        exact ⟨rfl, Below.refl _ _⟩
    · obtain ⟨hlen', rfl | ⟨b', off', rfl, hb', hcell'⟩⟩ := hJ
      · have : xs = [] := List.length_eq_zero_iff.1 hlen
        have e2 : ys = [] := List.length_eq_zero_iff.1 hlen'
        subst this e2
        go_enter Try.func40, Try.ntmps40
        go_wp2
        go_loop [5] (fun i => i = .int .i64 0) (fun _ => 0)
        case atStart => rfl
        case round =>
          subst hrel
          go_wp2
          go_ret
          exact ⟨rfl, Below.refl _ _⟩
      · go_enter Try.func40, Try.ntmps40
        go_wp2
        go_loopw [5] (fun i wr => ∃ k : Nat, k ≤ n ∧ i = .int .i64 k ∧ xs.take k = ys.take k ∧ ∃ q, wr = w.drewN q) (fun i _ => n - (intOf i).toNat)
        case atStart => exact ⟨0, Nat.zero_le _, rfl, rfl, 0, rfl⟩
        case round =>
          obtain ⟨k, hk, rfl, hno, q, rfl⟩ := hrel
          have Hno : Hid _ := hno
          clear hno
          by_cases hlt : k < n
          · have hc := hcell k hlt
            have hc' := hcell' k hlt
            generalize hy : xs.getD k 0 = y at hc
            generalize hz : ys.getD k 0 = z at hc'
            have HY : Hid _ := hy
            have HZ : Hid _ := hz
            clear hy hz hcell hcell'
            have hki : (k : Int) < (n : Int) := by omega
            cases hyz : (y != z)
            · go_wp2
              go_quiet (fail)
              go_wp2
              go_roundw
              case rel => exact ⟨k + 1, by omega, by go_num, eq_step (by omega) (by omega) Hno.out (by rw [HY.out, HZ.out]; exact hyz), _, rfl⟩
              case measure => simp [intOf]; omega
            · go_wp2
              go_quiet (fail)
              go_wp2
              go_ret
              exact ⟨rbool (eq_no (k := k) (by rw [HY.out, HZ.out]; exact hyz)).symm, bl_drewN (bl_drewN (Below.refl _ _) _) _⟩
          · clear hcell hcell'
            go_wp2
            go_ret
            exact ⟨rbool (eq_end (by omega) (by omega) Hno.out).symm, bl_drewN (Below.refl _ _) _⟩
  · have hne : ((n : Int) != (n' : Int)) = true := by simp; omega
    have hq := eq_len (xs := xs) (ys := ys) (by rw [hI.len, hJ.len]; exact hl)
    clear hI hJ
    go_enter Try.func40, Try.ntmps40
    go_wp2
    go_ret
    exact ⟨rbool hq.symm, Below.refl _ _⟩
theorem l15Ints_any (a a' : Option Addr) (n n' cap cap' : Nat) (xs ys : List Int) (w : World) (hI : IntsAt w a n xs) (hJ : IntsAt w a' n' ys) (hn : n ≤ 2097152) (hn' : n' ≤ 2097152) :
    Calls Try.prog 139 #[.slice a n cap, .slice a' n' cap'] w fun e w' => e = .returned (.bool (eqL xs ys)) ∧ Below w.heap.size w w' := by
  by_cases hl : n = n'
  · subst hl
    obtain ⟨hlen, rfl | ⟨b, off, rfl, hb, hcell⟩⟩ := hI
    · have : xs = [] := List.length_eq_zero_iff.1 hlen
      have e2 : ys = [] := List.length_eq_zero_iff.1 hJ.len
      subst this e2
      go_enter Try.func139, Try.ntmps139
      go_wp2
      go_loop [5] (fun i => i = .int .i64 0) (fun _ => 0)
      case atStart => rfl
      case round =>
        subst hrel
        go_wp2
        go_ret
        exact ⟨rfl, Below.refl _ _⟩
    · obtain ⟨hlen', rfl | ⟨b', off', rfl, hb', hcell'⟩⟩ := hJ
      · have : xs = [] := List.length_eq_zero_iff.1 hlen
        have e2 : ys = [] := List.length_eq_zero_iff.1 hlen'
        subst this e2
        go_enter Try.func139, Try.ntmps139
        go_wp2
        go_loop [5] (fun i => i = .int .i64 0) (fun _ => 0)
        case atStart => rfl
        case round =>
          subst hrel
          go_wp2
          go_ret
          exact ⟨rfl, Below.refl _ _⟩
      · go_enter Try.func139, Try.ntmps139
        go_wp2
        go_loopw [5] (fun i wr => ∃ k : Nat, k ≤ n ∧ i = .int .i64 k ∧ xs.take k = ys.take k ∧ ∃ q, wr = w.drewN q) (fun i _ => n - (intOf i).toNat)
        case atStart => exact ⟨0, Nat.zero_le _, rfl, rfl, 0, rfl⟩
        case round =>
          obtain ⟨k, hk, rfl, hno, q, rfl⟩ := hrel
          have Hno : Hid _ := hno
          clear hno
          by_cases hlt : k < n
          · have hc := hcell k hlt
            have hc' := hcell' k hlt
            generalize hy : xs.getD k 0 = y at hc
            generalize hz : ys.getD k 0 = z at hc'
            have HY : Hid _ := hy
            have HZ : Hid _ := hz
            clear hy hz hcell hcell'
            have hki : (k : Int) < (n : Int) := by omega
            cases hyz : (y != z)
            · go_wp2
              go_quiet (fail)
              go_wp2
              go_roundw
              case rel => exact ⟨k + 1, by omega, by go_num, eq_step (by omega) (by omega) Hno.out (by rw [HY.out, HZ.out]; exact hyz), _, rfl⟩
              case measure => simp [intOf]; omega
            · go_wp2
              go_quiet (fail)
              go_wp2
              go_ret
              exact ⟨rbool (eq_no (k := k) (by rw [HY.out, HZ.out]; exact hyz)).symm, bl_drewN (bl_drewN (Below.refl _ _) _) _⟩
          · clear hcell hcell'
            go_wp2
            go_ret
            exact ⟨rbool (eq_end (by omega) (by omega) Hno.out).symm, bl_drewN (Below.refl _ _) _⟩
  · have hne : ((n : Int) != (n' : Int)) = true := by simp; omega
    have hq := eq_len (xs := xs) (ys := ys) (by rw [hI.len, hJ.len]; exact hl)
    clear hI hJ
    go_enter Try.func139, Try.ntmps139
    go_wp2
    go_ret
    exact ⟨rbool hq.symm, Below.refl _ _⟩
end Go.Proofs.Ytllpcbdecibloaa
