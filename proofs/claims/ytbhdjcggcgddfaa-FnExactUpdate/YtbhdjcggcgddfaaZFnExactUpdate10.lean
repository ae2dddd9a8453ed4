/-
  The program's changes: the table of method expressions.
  Cells: what a look, and one who has been told, is answered.
  Cells: what one who has been told is answered.
  Walks: which of two messages is ahead.
  What a change makes of a message: plain mathematics.
  The program's changes: the four methods.
  Walks: which of two messages is ahead, by the specification's own text.
  The plain order of messages: irreflexive, total on right messages, transitive.
  What a change of the table makes of two bodies.
  Walks of the specification's waiters: are a line and those that were told right?
  Walks of the specification's cells: is one right? A copy of one.
-/
import Derived.Test.YtbhdjcggcgddfaaZFnExactUpdate9
import Derived.Maps.OwnSet
import Derived.Deep.RegionWith
import Derived.Test.YtbhdjcggcgddfaaZFnExactUpdate8
import Derived.Test.YtbhdjcggcgddfaaZFnExactUpdate1
namespace Go.Proofs.Ytbhdjcggcgddfaa
open Go.RowKit Go.Maps Pl Il

/-- A function of the table, as a number. -/
def fnR (v : Value) : Option (DataW Unit × List MemPlace) := match v with
  | .func (.func k) ⟨[]⟩ ⟨[]⟩ => some (.lit (.int .i64 k), [])
  | .nilFunc => some (.lit (.int .i64 (-1)), [])
  | _ => none
theorem fnR_inv {v : Value} {k : Nat} {ps : List MemPlace} (h : fnR v = some (.lit (.int .i64 (k : Int)), ps)) : v = .func (.func k) #[] #[] := by
  unfold fnR at h
  split at h
  · rename_i q
    simp at h
    obtain ⟨h1, _⟩ := h
    have h2 : q = k := Int.ofNat.inj h1
    subst h2
    rfl
  · simp at h
  · simp at h
theorem key3 : Keyed Try.prog 3 := int_keyed Try.underlying3
theorem zeroF (w : World) : (zeroValue 201).run Try.prog w = .ok .nilFunc w := by kernel_rfl
/-- The table. -/
def tabD : DataW Unit := .map [(.int .i64 1, .lit (.int .i64 166)), (.int .i64 2, .lit (.int .i64 167)), (.int .i64 3, .lit (.int .i64 168)), (.int .i64 4, .lit (.int .i64 169))]
theorem changes_any (w : World) : Calls Try.prog 156 #[] w fun e w' => ∃ mb n, e = .returned (.map (some mb)) ∧ w'.ownsMap Try.prog 3 fnR mb n tabD ∧ Below w.heap.size w w' := by
  have hmm := @run_makeMap Try.prog
  have h0 := World.ownsMap_made w Try.prog 3 fnR
  have b0 : Below w.heap.size w (w.alloc (.map #[] 0)) := bl_alloc (Below.refl _ _) _
  obtain ⟨w1, r1, h1, t1⟩ := h0.store (t := 203) key3 Try.underlying203 (by unfold maxLen; omega) (key := .int .i64 1) (val := .func (.func 166) #[] #[]) (kl := .int .i64 1) (keyOf_int_mk Try.underlying3 (by decide)) (d := .lit (.int .i64 166)) (ps := []) rfl
  obtain ⟨w2, r2, h2, t2⟩ := h1.store (t := 203) key3 Try.underlying203 (by unfold maxLen; omega) (key := .int .i64 2) (val := .func (.func 167) #[] #[]) (kl := .int .i64 2) (keyOf_int_mk Try.underlying3 (by decide)) (d := .lit (.int .i64 167)) (ps := []) rfl
  obtain ⟨w3, r3, h3, t3⟩ := h2.store (t := 203) key3 Try.underlying203 (by unfold maxLen; omega) (key := .int .i64 3) (val := .func (.func 168) #[] #[]) (kl := .int .i64 3) (keyOf_int_mk Try.underlying3 (by decide)) (d := .lit (.int .i64 168)) (ps := []) rfl
  obtain ⟨w4, r4, h4, t4⟩ := h3.store (t := 203) key3 Try.underlying203 (by unfold maxLen; omega) (key := .int .i64 4) (val := .func (.func 169) #[] #[]) (kl := .int .i64 4) (keyOf_int_mk Try.underlying3 (by decide)) (d := .lit (.int .i64 169)) (ps := []) rfl
  have hD : ((((DataW.map [] : DataW Unit).put (.int .i64 1) (.lit (.int .i64 166))).put (.int .i64 2) (.lit (.int .i64 167))).put (.int .i64 3) (.lit (.int .i64 168))).put (.int .i64 4) (.lit (.int .i64 169)) = tabD := by rfl
  rw [hD] at h4
  have bt : ∀ {u v : World}, Below w.heap.size w u → w.heap.size < u.heap.size → u.mapTurned v w.heap.size → Below w.heap.size w v := fun hb hlt ht => hb.grown ht.grown (by omega) (fun j hj => by cases hj; exact Nat.le_refl _)
  have s0 : w.heap.size < (w.alloc (.map #[] 0)).heap.size := by simp
  have B1 := bt b0 s0 t1
  have s1 := h1.lt
  have B2 := bt B1 s1 t2
  have s2 := h2.lt
  have B3 := bt B2 s2 t3
  have s3 := h3.lt
  have B4 := bt B3 s3 t4
  have H4 := hidOf (And.intro h4 B4)
  clear B1 B2 B3 B4 s0 s1 s2 s3 bt b0 t1 t2 t3 t4 h0 h1 h2 h3 h4 hD
  go_enter Try.func156, Try.ntmps156
  go_wp2
  go_ret
  exact ⟨_, _, rfl, H4.out.1, H4.out.2⟩
/-- A look into the table. -/
theorem tab_look (w : World) (mb n : Nat) (kind : Int) (h : w.ownsMap Try.prog 3 fnR mb n tabD) (hk : (Lit.int .i64 kind).wf = true) :
    ∃ v ps, (Instr.lookup 203 (.map (some mb)) (.int .i64 kind) true).run Try.prog w = .ok (.tuple #[v, .bool (Maps.has tabD (.int .i64 kind))]) w ∧ fnR v = some (tabD.atKey (.int .i64 kind) (.lit (.int .i64 (-1))), ps) :=
  h.look_ok key3 Try.underlying203 (zeroF w) (zd := .lit (.int .i64 (-1))) (zp := []) rfl (keyOf_int_mk Try.underlying3 hk)
theorem tab_no {kind : Int} (h1 : ¬ kind = 1) (h2 : ¬ kind = 2) (h3 : ¬ kind = 3) (h4 : ¬ kind = 4) : Maps.has tabD (.int .i64 kind) = false := by
  simp [tabD, Maps.has, Lit.sameKey, Ne.symm h1, Ne.symm h2, Ne.symm h3, Ne.symm h4]
theorem tab_1 (w : World) (mb n : Nat) (h : w.ownsMap Try.prog 3 fnR mb n tabD) : (Instr.lookup 203 (.map (some mb)) (.int .i64 1) true).run Try.prog w = .ok (.tuple #[.func (.func 166) #[] #[], .bool true]) w := by
  obtain ⟨v, ps, hr, hv⟩ := tab_look w mb n 1 h (by decide)
  obtain rfl := fnR_inv (k := 166) hv
  exact hr
theorem tab_2 (w : World) (mb n : Nat) (h : w.ownsMap Try.prog 3 fnR mb n tabD) : (Instr.lookup 203 (.map (some mb)) (.int .i64 2) true).run Try.prog w = .ok (.tuple #[.func (.func 167) #[] #[], .bool true]) w := by
  obtain ⟨v, ps, hr, hv⟩ := tab_look w mb n 2 h (by decide)
  obtain rfl := fnR_inv (k := 167) hv
  exact hr
theorem tab_3 (w : World) (mb n : Nat) (h : w.ownsMap Try.prog 3 fnR mb n tabD) : (Instr.lookup 203 (.map (some mb)) (.int .i64 3) true).run Try.prog w = .ok (.tuple #[.func (.func 168) #[] #[], .bool true]) w := by
  obtain ⟨v, ps, hr, hv⟩ := tab_look w mb n 3 h (by decide)
  obtain rfl := fnR_inv (k := 168) hv
  exact hr
theorem tab_4 (w : World) (mb n : Nat) (h : w.ownsMap Try.prog 3 fnR mb n tabD) : (Instr.lookup 203 (.map (some mb)) (.int .i64 4) true).run Try.prog w = .ok (.tuple #[.func (.func 169) #[] #[], .bool true]) w := by
  obtain ⟨v, ps, hr, hv⟩ := tab_look w mb n 4 h (by decide)
  obtain rfl := fnR_inv (k := 169) hv
  exact hr
theorem tab_0 (w : World) (mb n : Nat) (kind : Int) (h : w.ownsMap Try.prog 3 fnR mb n tabD) (hk : (Lit.int .i64 kind).wf = true) (h1 : ¬ kind = 1) (h2 : ¬ kind = 2) (h3 : ¬ kind = 3) (h4 : ¬ kind = 4) : ∃ v, (Instr.lookup 203 (.map (some mb)) (.int .i64 kind) true).run Try.prog w = .ok (.tuple #[v, .bool false]) w := by
  obtain ⟨v, ps, hr, _⟩ := tab_look w mb n kind h hk
  rw [tab_no h1 h2 h3 h4] at hr
  exact ⟨v, hr⟩
end Go.Proofs.Ytbhdjcggcgddfaa
namespace Go.Proofs.Ytbhdjcggcgddfaa
open Go.RowKit Pl Il

/-- How a look ends. -/
def lookC (x : Ct) : Int := if x.cl = true then 6 else 0
theorem lookC_no {x : Ct} (h : false = x.cl) : lookC x = 0 := by unfold lookC; rw [← h]; rfl
theorem lookC_yes {x : Ct} (h : true = x.cl) : lookC x = 6 := by unfold lookC; rw [← h]; rfl
def lookM (x : Ct) : Int × Int × ByteArray × Int × Int := if okC x = false then (0, 0, ⟨#[]⟩, 0, 1) else (x.kd, x.nu, x.tx, x.ve, lookC x)
/-- A look's answer. -/
def LookP (x : Ct) (e : Ending) : Prop := e = .returned (.tuple #[.agg #[.int .i64 (lookM x).1, .int .i64 (lookM x).2.1, .string (lookM x).2.2.1], .int .i64 (lookM x).2.2.2.1, .int .i64 (lookM x).2.2.2.2])
end Go.Proofs.Ytbhdjcggcgddfaa
namespace Go.Proofs.Ytbhdjcggcgddfaa
open Go.RowKit Pl Il

theorem Pl.Box3.below {N B : Nat} {v0 v1 v2 : Value} {w u : World} (h : Box3 N v0 v1 v2 w) (hb : Below B w u) (hN : N < B) : Box3 N v0 v1 v2 u where
  lt := Nat.lt_of_lt_of_le h.lt hb.size
  c0 := by rw [hb.cell (p := ⟨N, 0, none⟩) hN]; exact h.c0
  c1 := by rw [hb.cell (p := ⟨N, 1, none⟩) hN]; exact h.c1
  c2 := by rw [hb.cell (p := ⟨N, 2, none⟩) hN]; exact h.c2
  fr := fun k => by rw [hb.frozen (p := ⟨N, k, none⟩) hN]; exact h.fr k
/-- The argument's variable, the two answers'. -/
structure CC3 (w : World) (A : Na) (x : Ct) (u : World) : Prop where
  c : CCtx w A x u
  m : Box3 (w.heap.size + 2) (.int .i64 0) (.int .i64 0) (.string ⟨#[]⟩) u
  sz : w.heap.size + 3 ≤ u.heap.size
theorem CC3.keep {w : World} {A : Na} {x : Ct} {u u' : World} {B : Nat} (h : CC3 w A x u) (hb : Below B u u') (hB : w.heap.size + 3 ≤ B) : CC3 w A x u' := ⟨h.c.keep hb (by omega), h.m.below hb (by omega), Nat.le_trans h.sz hb.size⟩
theorem CC3.kp {w : World} {A : Na} {x : Ct} {u u' : World} (h : CC3 w A x u) (hb : Below u.heap.size u u') : CC3 w A x u' := h.keep hb h.sz
theorem cc3_new {w : World} {A : Na} {x : Ct} (hI : CIn w A x) : CC3 w A x (((w.alloc (.cells #[.int .i64 x.kd, .int .i64 x.nu, .string x.tx, .int .i64 x.ve, .bool x.cl, .slice A.a A.n A.c, .slice A.a' A.n' A.c'] 58)).alloc (.cells #[.int .i64 0, .int .i64 0, .string ⟨#[]⟩, .int .i64 0, .bool false, .slice none 0 0, .slice none 0 0] 58)).alloc (.cells #[.int .i64 0, .int .i64 0, .string ⟨#[]⟩] 55)) := by
  have hc := cctx_new hI
  have s1 : ((w.alloc (.cells #[.int .i64 x.kd, .int .i64 x.nu, .string x.tx, .int .i64 x.ve, .bool x.cl, .slice A.a A.n A.c, .slice A.a' A.n' A.c'] 58)).alloc (.cells #[.int .i64 0, .int .i64 0, .string ⟨#[]⟩, .int .i64 0, .bool false, .slice none 0 0, .slice none 0 0] 58)).heap.size = w.heap.size + 2 := by simp
  exact ⟨hc.kp (bl_alloc (Below.refl _ _) _), by rw [← s1]; exact Box3.new _ _ _ _ _, by simp⟩
theorem seen_fin {w : World} {A A' : Na} {x y : Ct} {u : World} (hC : CC3 w A x u) (hR : Rows2 (w.heap.size + 3) u A' y.ln y.gs) (ht : y.tx.size ≤ maxLen) (m0 m1 m2 : Value) :
    COwn w.heap.size ((((((((((u.setCell ⟨w.heap.size + 1, 0, none⟩ (.int .i64 y.kd)).setCell ⟨w.heap.size + 1, 1, none⟩ (.int .i64 y.nu)).setCell ⟨w.heap.size + 1, 2, none⟩ (.string y.tx)).setCell ⟨w.heap.size + 1, 3, none⟩ (.int .i64 y.ve)).setCell ⟨w.heap.size + 1, 4, none⟩ (.bool y.cl)).setCell ⟨w.heap.size + 1, 5, none⟩ (.slice A'.a A'.n A'.c)).setCell ⟨w.heap.size + 1, 6, none⟩ (.slice A'.a' A'.n' A'.c')).setCell ⟨w.heap.size + 2, 0, none⟩ m0).setCell ⟨w.heap.size + 2, 1, none⟩ m1).setCell ⟨w.heap.size + 2, 2, none⟩ m2) A' y ∧ A'.ok ∧ Below w.heap.size w ((((((((((u.setCell ⟨w.heap.size + 1, 0, none⟩ (.int .i64 y.kd)).setCell ⟨w.heap.size + 1, 1, none⟩ (.int .i64 y.nu)).setCell ⟨w.heap.size + 1, 2, none⟩ (.string y.tx)).setCell ⟨w.heap.size + 1, 3, none⟩ (.int .i64 y.ve)).setCell ⟨w.heap.size + 1, 4, none⟩ (.bool y.cl)).setCell ⟨w.heap.size + 1, 5, none⟩ (.slice A'.a A'.n A'.c)).setCell ⟨w.heap.size + 1, 6, none⟩ (.slice A'.a' A'.n' A'.c')).setCell ⟨w.heap.size + 2, 0, none⟩ m0).setCell ⟨w.heap.size + 2, 1, none⟩ m1).setCell ⟨w.heap.size + 2, 2, none⟩ m2) :=
  ⟨((((((hR.cown ht).farA (w.heap.size + 1) (by omega) _ _ _ _ _ _ _).far (w.heap.size + 2) 0 (by omega) m0).far (w.heap.size + 2) 1 (by omega) m1).far (w.heap.size + 2) 2 (by omega) m2).mono (by omega)), hR.ok, bl_set1 (bl_set1 (bl_set1 (bl_sC hC.c.below (w.heap.size + 1) (by omega) _ _ _ _ _ _ _) (w.heap.size + 2) 0 (by omega) m0) (w.heap.size + 2) 1 (by omega) m1) (w.heap.size + 2) 2 (by omega) m2⟩
def seenM (x : Ct) (who : Int) : Ct × Int × Int × ByteArray × Int × Int :=
  if okC x = false then (x, 0, 0, ⟨#[]⟩, 0, 1) else if hasL x.ln who = true then (x, 0, 0, ⟨#[]⟩, 0, 4) else if hasL x.gs who = true then ({ x with gs := lessL x.gs who }, x.kd, x.nu, x.tx, x.ve, lookC x) else (x, 0, 0, ⟨#[]⟩, 0, 3)
theorem seen_len (x : Ct) (y : Int) : (seenM x y).1.ln.length ≤ x.ln.length + x.gs.length + 1 ∧ (seenM x y).1.gs.length ≤ x.ln.length + x.gs.length + 1 := by
  have h1 : (lessL x.gs y).length ≤ x.gs.length := by unfold lessL; exact List.length_erase_le
  unfold seenM
  repeat' split
  all_goals (constructor <;> dsimp only <;> omega)
end Go.Proofs.Ytbhdjcggcgddfaa
namespace Go.Proofs.Ytbhdjcggcgddfaa
open Go.RowKit Pl

def ltB (k n : Int) (s : ByteArray) (k' n' : Int) (s' : ByteArray) : Bool :=
  if okB k n s = true ∧ okB k' n' s' = true then (if k = k' then (if k = 1 then decide (n < n') else Op.bytesLess s.toList s'.toList) else decide (k < k')) else false

theorem as_nn (a : Int) (w : World) : (Instr.typeAssert (.iface 214 (.int .i64 a)) 198 214 true).run Try.prog w = .ok (.tuple #[.int .i64 a, .bool true]) w := by kernel_rfl
theorem as_nt (s : ByteArray) (w : World) : (Instr.typeAssert (.iface 215 (.string s)) 198 214 true).run Try.prog w = .ok (.tuple #[.int .i64 0, .bool false]) w := by kernel_rfl
theorem as_tn (a : Int) (w : World) : (Instr.typeAssert (.iface 214 (.int .i64 a)) 198 215 true).run Try.prog w = .ok (.tuple #[.string ⟨#[]⟩, .bool false]) w := by kernel_rfl
theorem as_tt (s : ByteArray) (w : World) : (Instr.typeAssert (.iface 215 (.string s)) 198 215 true).run Try.prog w = .ok (.tuple #[.string s, .bool true]) w := by kernel_rfl

theorem less_nn (a b : Int) (w : World) :
    Calls Try.prog 171 #[.iface 214 (.int .i64 a), .iface 214 (.int .i64 b)] w fun e w' => e = .returned (.bool (decide (a < b))) ∧ w' = w := by
  have m1 := as_nn
  go_enter Try.func171, Try.ntmps171
  go_wp2
  go_ret
  exact ⟨rfl, rfl⟩
theorem less_nt (a : Int) (s : ByteArray) (w : World) :
    Calls Try.prog 171 #[.iface 214 (.int .i64 a), .iface 215 (.string s)] w fun e w' => e = .returned (.bool true) ∧ w' = w := by
  have m1 := as_nn
  have m2 := as_nt
  go_enter Try.func171, Try.ntmps171
  go_wp2
  go_ret
  exact ⟨rfl, rfl⟩
theorem less_tn (a : Int) (s : ByteArray) (w : World) :
    Calls Try.prog 171 #[.iface 215 (.string s), .iface 214 (.int .i64 a)] w fun e w' => e = .returned (.bool false) ∧ w' = w := by
  have m1 := as_nt
  have m2 := as_tt
  have m3 := as_tn
  go_enter Try.func171, Try.ntmps171
  go_wp2
  go_ret
  exact ⟨rfl, rfl⟩
theorem less_tt (s t : ByteArray) (w : World) :
    Calls Try.prog 171 #[.iface 215 (.string s), .iface 215 (.string t)] w fun e w' => e = .returned (.bool (Op.bytesLess s.toList t.toList)) ∧ w' = w := by
  have m1 := as_nt
  have m2 := as_tt
  go_enter Try.func171, Try.ntmps171
  go_wp2
  go_ret
  exact ⟨rfl, rfl⟩

theorem ok_kind {k n : Int} {s : ByteArray} (h : okB k n s = true) : k = 1 ∨ k = 2 := by
  unfold okB at h
  by_cases h1 : k = 1
  · exact .inl h1
  · by_cases h2 : k = 2
    · exact .inr h2
    · simp [h1, h2] at h

/-- Two bodies, whichever they are: which is ahead. -/
theorem less_any (k n : Int) (s : ByteArray) (k' n' : Int) (s' : ByteArray) (w : World) (h : okB k n s = true) (h' : okB k' n' s' = true) :
    Calls Try.prog 171 #[.iface (tyOf k) (valOf k n s), .iface (tyOf k') (valOf k' n' s')] w fun e w' => e = .returned (.bool (ltB k n s k' n' s')) ∧ w' = w := by
  rcases ok_kind h with rfl | rfl <;> rcases ok_kind h' with rfl | rfl
  · refine (less_nn n n' w).mono fun e w' ⟨he, hw⟩ => ⟨?_, hw⟩
    rw [he]; simp [ltB, h, h']
  · refine (less_nt n s' w).mono fun e w' ⟨he, hw⟩ => ⟨?_, hw⟩
    rw [he]; simp [ltB, h, h']
  · refine (less_tn n' s w).mono fun e w' ⟨he, hw⟩ => ⟨?_, hw⟩
    rw [he]; simp [ltB, h, h']
  · refine (less_tt s s' w).mono fun e w' ⟨he, hw⟩ => ⟨?_, hw⟩
    rw [he]; simp [ltB, h, h']

theorem lt_no1 {k n : Int} {s : ByteArray} {k' n' : Int} {s' : ByteArray} (h : okB k n s = false) : ltB k n s k' n' s' = false := by simp [ltB, h]
theorem lt_no2 {k n : Int} {s : ByteArray} {k' n' : Int} {s' : ByteArray} (h : okB k' n' s' = false) : ltB k n s k' n' s' = false := by simp [ltB, h]

end Go.Proofs.Ytbhdjcggcgddfaa
namespace Go.Proofs.Ytbhdjcggcgddfaa
open Go.RowKit Pl Il

/-- What comes of it, whether it is right or not. -/
def chRaw (k n : Int) (s : ByteArray) (kind k' n' : Int) (s' : ByteArray) : Option (Int × Int × ByteArray) :=
  if kind = 1 then some (k', n', s')
  else if kind = 2 then (if k = 1 ∧ k' = 1 then some (k', n + n', s') else none)
  else if kind = 3 then (if k = 2 ∧ k' = 2 then some (k', n', s ++ s') else none)
  else if kind = 4 then (if ltB k' n' s' k n s = true then some (k, n, s) else some (k', n', s'))
  else none
def noCh : Int × Int × ByteArray × Bool := (0, 0, ⟨#[]⟩, false)
def changedM (k n : Int) (s : ByteArray) (kind k' n' : Int) (s' : ByteArray) : Int × Int × ByteArray × Bool :=
  if okB k n s = false then noCh else if okB k' n' s' = false then noCh else
  match chRaw k n s kind k' n' s' with
  | none => noCh
  | some (a, b, c) => if okB a b c = true then (a, b, c, true) else noCh
/-- The answer. -/
def ChP (r : Int × Int × ByteArray × Bool) (e : Ending) : Prop := e = .returned (.tuple #[.agg #[.int .i64 r.1, .int .i64 r.2.1, .string r.2.2.1], .bool r.2.2.2])
theorem ch_no1 {k n : Int} {s : ByteArray} {kind k' n' : Int} {s' : ByteArray} (h : okB k n s = false) : changedM k n s kind k' n' s' = noCh := by unfold changedM; rw [if_pos h]
theorem ch_no2 {k n : Int} {s : ByteArray} {kind k' n' : Int} {s' : ByteArray} (h0 : okB k n s = true) (h : okB k' n' s' = false) : changedM k n s kind k' n' s' = noCh := by unfold changedM; rw [if_neg (by rw [h0]; simp), if_pos h]
theorem ch_none {k n : Int} {s : ByteArray} {kind k' n' : Int} {s' : ByteArray} (h0 : okB k n s = true) (h1 : okB k' n' s' = true) (h : chRaw k n s kind k' n' s' = none) : changedM k n s kind k' n' s' = noCh := by unfold changedM; rw [if_neg (by rw [h0]; simp), if_neg (by rw [h1]; simp), h]
theorem ch_some {k n : Int} {s : ByteArray} {kind k' n' : Int} {s' : ByteArray} {a b : Int} {c : ByteArray} (h0 : okB k n s = true) (h1 : okB k' n' s' = true) (h : chRaw k n s kind k' n' s' = some (a, b, c)) : changedM k n s kind k' n' s' = if okB a b c = true then (a, b, c, true) else noCh := by unfold changedM; rw [if_neg (by rw [h0]; simp), if_neg (by rw [h1]; simp), h]
theorem raw1 (k n : Int) (s : ByteArray) (k' n' : Int) (s' : ByteArray) : chRaw k n s 1 k' n' s' = some (k', n', s') := rfl
theorem raw2 {k n : Int} {s : ByteArray} {k' n' : Int} {s' : ByteArray} (h : k = 1 ∧ k' = 1) : chRaw k n s 2 k' n' s' = some (k', n + n', s') := by unfold chRaw; rw [if_neg (by omega), if_pos rfl, if_pos h]
theorem raw2n {k n : Int} {s : ByteArray} {k' n' : Int} {s' : ByteArray} (h : ¬ (k = 1 ∧ k' = 1)) : chRaw k n s 2 k' n' s' = none := by unfold chRaw; rw [if_neg (by omega), if_pos rfl, if_neg h]
theorem raw3 {k n : Int} {s : ByteArray} {k' n' : Int} {s' : ByteArray} (h : k = 2 ∧ k' = 2) : chRaw k n s 3 k' n' s' = some (k', n', s ++ s') := by unfold chRaw; rw [if_neg (by omega), if_neg (by omega), if_pos rfl, if_pos h]
theorem raw3n {k n : Int} {s : ByteArray} {k' n' : Int} {s' : ByteArray} (h : ¬ (k = 2 ∧ k' = 2)) : chRaw k n s 3 k' n' s' = none := by unfold chRaw; rw [if_neg (by omega), if_neg (by omega), if_pos rfl, if_neg h]
theorem raw4y {k n : Int} {s : ByteArray} {k' n' : Int} {s' : ByteArray} (h : ltB k' n' s' k n s = true) : chRaw k n s 4 k' n' s' = some (k, n, s) := by unfold chRaw; rw [if_neg (by omega), if_neg (by omega), if_neg (by omega), if_pos rfl, if_pos h]
theorem raw4n {k n : Int} {s : ByteArray} {k' n' : Int} {s' : ByteArray} (h : ltB k' n' s' k n s = false) : chRaw k n s 4 k' n' s' = some (k', n', s') := by unfold chRaw; rw [if_neg (by omega), if_neg (by omega), if_neg (by omega), if_pos rfl, if_neg (by rw [h]; simp)]
theorem raw0 {k n : Int} {s : ByteArray} {kind k' n' : Int} {s' : ByteArray} (h1 : ¬ kind = 1) (h2 : ¬ kind = 2) (h3 : ¬ kind = 3) (h4 : ¬ kind = 4) : chRaw k n s kind k' n' s' = none := by unfold chRaw; rw [if_neg h1, if_neg h2, if_neg h3, if_neg h4]
end Go.Proofs.Ytbhdjcggcgddfaa
namespace Go.Proofs.Ytbhdjcggcgddfaa
open Go.RowKit Go.Maps Pl Il

theorem put_any (v1 v2 : Value) (w : World) :
    Calls Try.prog 166 #[.agg #[v1, v2]] w fun e w' => e = .returned (.tuple #[v2, .bool true]) ∧ Below w.heap.size w w' := by
  have hb : Below w.heap.size w (w.alloc (.cells #[v1, v2] 206)) := bl_alloc (Below.refl _ _) _
  go_enter Try.func166, Try.ntmps166
  go_wp2
  go_ret2
  exact ⟨rfl, hb⟩
theorem add_nn (a b : Int) (w : World) (hw : IntKind.i64.wrap (a + b) = a + b) :
    Calls Try.prog 167 #[.agg #[.iface 214 (.int .i64 a), .iface 214 (.int .i64 b)]] w fun e w' => e = .returned (.tuple #[.iface 214 (.int .i64 (a + b)), .bool true]) ∧ Below w.heap.size w w' := by
  have hb : Below w.heap.size w (w.alloc (.cells #[.iface 214 (.int .i64 a), .iface 214 (.int .i64 b)] 206)) := bl_alloc (Below.refl _ _) _
  have h1 := as_nn a
  have h2 := as_nn b
  go_enter Try.func167, Try.ntmps167
  go_wp2
  go_ret2
  exact ⟨rfl, hb⟩
theorem add_nt (a : Int) (t : ByteArray) (w : World) :
    Calls Try.prog 167 #[.agg #[.iface 214 (.int .i64 a), .iface 215 (.string t)]] w fun e w' => (∃ v, e = .returned (.tuple #[v, .bool false])) ∧ Below w.heap.size w w' := by
  have hb : Below w.heap.size w (w.alloc (.cells #[.iface 214 (.int .i64 a), .iface 215 (.string t)] 206)) := bl_alloc (Below.refl _ _) _
  have h1 := as_nn a
  have h2 := as_nt t
  go_enter Try.func167, Try.ntmps167
  go_wp2
  go_ret2
  exact ⟨⟨_, rfl⟩, hb⟩
theorem add_t (s : ByteArray) (v : Value) (w : World) (hv : ∃ r b, ∀ u, (Instr.typeAssert v 198 214 true).run Try.prog u = .ok (.tuple #[.int .i64 r, .bool b]) u) :
    Calls Try.prog 167 #[.agg #[.iface 215 (.string s), v]] w fun e w' => (∃ v, e = .returned (.tuple #[v, .bool false])) ∧ Below w.heap.size w w' := by
  have hb : Below w.heap.size w (w.alloc (.cells #[.iface 215 (.string s), v] 206)) := bl_alloc (Below.refl _ _) _
  have h1 := as_nt s
  obtain ⟨r, b, h2⟩ := hv
  go_enter Try.func167, Try.ntmps167
  go_wp2
  go_ret2
  exact ⟨⟨_, rfl⟩, hb⟩
theorem join_tt (s t : ByteArray) (w : World) (hs : s.size ≤ 40) (ht : t.size ≤ 40) :
    Calls Try.prog 168 #[.agg #[.iface 215 (.string s), .iface 215 (.string t)]] w fun e w' => e = .returned (.tuple #[.iface 215 (.string (s ++ t)), .bool true]) ∧ Below w.heap.size w w' := by
  have hb : Below w.heap.size w (w.alloc (.cells #[.iface 215 (.string s), .iface 215 (.string t)] 206)) := bl_alloc (Below.refl _ _) _
  have h1 := as_tt s
  have h2 := as_tt t
  go_enter Try.func168, Try.ntmps168
  go_wp2
  go_ret2
  exact ⟨rfl, hb⟩
theorem join_tn (s : ByteArray) (a : Int) (w : World) (hm : s.size ≤ 40) :
    Calls Try.prog 168 #[.agg #[.iface 215 (.string s), .iface 214 (.int .i64 a)]] w fun e w' => (∃ v, e = .returned (.tuple #[v, .bool false])) ∧ Below w.heap.size w w' := by
  have hb : Below w.heap.size w (w.alloc (.cells #[.iface 215 (.string s), .iface 214 (.int .i64 a)] 206)) := bl_alloc (Below.refl _ _) _
  have h1 := as_tt s
  have h2 := as_tn a
  go_enter Try.func168, Try.ntmps168
  go_wp2
  go_ret2
  exact ⟨⟨_, rfl⟩, hb⟩
theorem join_n (a : Int) (v : Value) (t : ByteArray) (b : Bool) (w : World) (ht : t.size ≤ 40) (hv : ∀ u, (Instr.typeAssert v 198 215 true).run Try.prog u = .ok (.tuple #[.string t, .bool b]) u) :
    Calls Try.prog 168 #[.agg #[.iface 214 (.int .i64 a), v]] w fun e w' => (∃ v, e = .returned (.tuple #[v, .bool false])) ∧ Below w.heap.size w w' := by
  have hb : Below w.heap.size w (w.alloc (.cells #[.iface 214 (.int .i64 a), v] 206)) := bl_alloc (Below.refl _ _) _
  have h1 := as_tn a
  go_enter Try.func168, Try.ntmps168
  go_wp2
  go_ret2
  exact ⟨⟨_, rfl⟩, hb⟩
def mostV (b : Bool) (x y : Value) : Value := match b with | true => y | false => x
theorem most_any (k n : Int) (s : ByteArray) (k' n' : Int) (s' : ByteArray) (w : World) (h : okB k n s = true) (h' : okB k' n' s' = true) :
    Calls Try.prog 169 #[.agg #[.iface (tyOf k) (valOf k n s), .iface (tyOf k') (valOf k' n' s')]] w fun e w' => e = .returned (.tuple #[mostV (ltB k n s k' n' s') (.iface (tyOf k) (valOf k n s)) (.iface (tyOf k') (valOf k' n' s')), .bool true]) ∧ Below w.heap.size w w' := by
  have hb : Below w.heap.size w (w.alloc (.cells #[.iface (tyOf k) (valOf k n s), .iface (tyOf k') (valOf k' n' s')] 206)) := bl_alloc (Below.refl _ _) _
  have HL := hidOf (less_any k n s k' n' s' (w.alloc (.cells #[.iface (tyOf k) (valOf k n s), .iface (tyOf k') (valOf k' n' s')] 206)) h h')
  generalize tyOf k = t1 at *
  generalize tyOf k' = t2 at *
  generalize valOf k n s = v1 at *
  generalize valOf k' n' s' = v2 at *
  go_enter Try.func169, Try.ntmps169
  go_wp2_with fail
  refine HL.out.mono ?_
  rintro e w2 ⟨rfl, rfl⟩
  cases hl : ltB k n s k' n' s'
  · go_wp2
    go_ret2
    exact ⟨by rw [hl]; rfl, hb⟩
  · go_wp2
    go_ret2
    exact ⟨by rw [hl]; rfl, hb⟩
end Go.Proofs.Ytbhdjcggcgddfaa
namespace Go.Proofs.Ytbhdjcggcgddfaa
open Go.RowKit Pl

theorem lt_kinds {k n : Int} {s : ByteArray} {k' n' : Int} {s' : ByteArray} (h : okB k n s = true) (h' : okB k' n' s' = true) (hk : ¬ k = k') : ltB k n s k' n' s' = decide (k < k') := by simp [ltB, h, h', hk]
theorem lt_nums {n : Int} {s : ByteArray} {n' : Int} {s' : ByteArray} (h : okB 1 n s = true) (h' : okB 1 n' s' = true) : ltB 1 n s 1 n' s' = decide (n < n') := by simp [ltB, h, h']
theorem lt_texts {k n : Int} {s : ByteArray} {n' : Int} {s' : ByteArray} (h : okB k n s = true) (h' : okB k n' s' = true) (hk : ¬ k = 1) : ltB k n s k n' s' = Op.bytesLess s.toList s'.toList := by simp [ltB, h, h', hk]

theorem specLess_any (k n : Int) (s : ByteArray) (k' n' : Int) (s' : ByteArray) (w : World) (hm : s.size ≤ maxLen) (hm' : s'.size ≤ maxLen) :
    Calls Try.prog 160 #[.agg #[.int .i64 k, .int .i64 n, .string s], .agg #[.int .i64 k', .int .i64 n', .string s']] w fun e w' =>
      e = .returned (.bool (ltB k n s k' n' s')) ∧ Below w.heap.size w w' := by
  go_enter Try.func160, Try.ntmps160
  go_wp2_with fail
  refine (specMsgOk_any k n s _ hm).mono ?_
  rintro e w1 ⟨rfl, hb1⟩
  obtain ⟨hc1, hf1⟩ := bcell hb1
  have hb := bl_trans (bl_alloc (bl_alloc (Below.refl _ _) _) _) hb1
  cases ho : okB k n s
  · clear hb1
    go_wp2
    go_ret
    exact ⟨ret_bool (lt_no1 ho).symm, hb⟩
  · go_wp2_with fail
    refine (specMsgOk_any k' n' s' _ hm').mono ?_
    rintro e w2 ⟨rfl, hb2⟩
    have hb' := bl_trans hb hb2
    have hb12 := bl_trans hb1 hb2
    clear hb1 hb2 hc1 hf1 hb
    obtain ⟨hc1, hf1⟩ := bcell hb12
    clear hb12
    cases ho' : okB k' n' s'
    · go_wp2
      go_ret
      exact ⟨ret_bool (lt_no2 ho').symm, hb'⟩
    · by_cases hk : k = k'
      · subst hk
        by_cases h1 : k = 1
        · subst h1
          go_wp2
          go_ret
          exact ⟨ret_bool (lt_nums ho ho').symm, hb'⟩
        · have h1' : (k == 1) = false := by simp [h1]
          go_wp2
          go_ret
          exact ⟨ret_bool (lt_texts ho ho' h1).symm, hb'⟩
      · have hk' : (k != k') = true := by simp [hk]
        go_wp2
        go_ret
        exact ⟨ret_bool (lt_kinds ho ho' hk).symm, hb'⟩
end Go.Proofs.Ytbhdjcggcgddfaa
namespace Go.Proofs.Ytbhdjcggcgddfaa.Pl
open Go.RowKit

theorem bls_asymm : ∀ (x y : List UInt8), Op.bytesLess x y = true → Op.bytesLess y x = false := by
  intro x
  induction x with
  | nil => intro y h; cases y <;> simp_all [Op.bytesLess]
  | cons a r ih =>
    intro y h
    cases y with
    | nil => simp [Op.bytesLess] at h
    | cons b r' =>
      simp only [Op.bytesLess, Bool.or_eq_true, decide_eq_true_eq, Bool.and_eq_true, beq_iff_eq, UInt8.lt_iff_toNat_lt, Bool.or_eq_false_iff, decide_eq_false_iff_not, Bool.and_eq_false_iff, beq_eq_false_iff_ne, ne_eq, ← UInt8.toNat_inj] at h ⊢
      rcases h with h | ⟨e, h⟩
      · exact ⟨by omega, .inl (by omega)⟩
      · exact ⟨by omega, .inr (ih r' h)⟩
theorem bls_trans : ∀ (x y z : List UInt8), Op.bytesLess x y = true → Op.bytesLess y z = true → Op.bytesLess x z = true := by
  intro x
  induction x with
  | nil => intro y z h k; cases y <;> cases z <;> simp_all [Op.bytesLess]
  | cons a r ih =>
    intro y z h k
    cases y with
    | nil => simp [Op.bytesLess] at h
    | cons b r' =>
      cases z with
      | nil => simp [Op.bytesLess] at k
      | cons d r'' =>
        simp only [Op.bytesLess, Bool.or_eq_true, decide_eq_true_eq, Bool.and_eq_true, beq_iff_eq, UInt8.lt_iff_toNat_lt, ← UInt8.toNat_inj] at h k ⊢
        rcases h with h | ⟨e, h⟩ <;> rcases k with k | ⟨e', k⟩
        · exact .inl (by omega)
        · exact .inl (by omega)
        · exact .inl (by omega)
        · exact .inr ⟨by omega, ih r' r'' h k⟩
theorem bls_tri : ∀ (x y : List UInt8), Op.bytesLess x y = false → Op.bytesLess y x = false → x = y := by
  intro x
  induction x with
  | nil => intro y h k; cases y <;> simp_all [Op.bytesLess]
  | cons a r ih =>
    intro y h k
    cases y with
    | nil => simp [Op.bytesLess] at k
    | cons b r' =>
      simp only [Op.bytesLess, UInt8.lt_iff_toNat_lt, Bool.or_eq_false_iff, decide_eq_false_iff_not, Bool.and_eq_false_iff, beq_eq_false_iff_ne, ne_eq, ← UInt8.toNat_inj] at h k
      obtain ⟨h1, h2⟩ := h
      obtain ⟨k1, k2⟩ := k
      have e : a.toNat = b.toNat := by omega
      have e' : a = b := UInt8.toNat_inj.1 e
      rcases h2 with h2 | h2
      · omega
      · rcases k2 with k2 | k2
        · omega
        · rw [e', ih r' h2 k2]

theorem ok_one' {k n : Int} {s : ByteArray} (h : okB k n s = true) (h1 : k = 1) : s.toList = [] := by
  subst h1; simp [okB] at h; exact h.1
theorem ok_two' {k n : Int} {s : ByteArray} (h : okB k n s = true) (h1 : ¬ k = 1) : k = 2 ∧ n = 0 := by
  unfold okB at h
  rw [if_neg h1] at h
  by_cases h2 : k = 2
  · rw [if_pos h2] at h; simp at h; exact ⟨h2, h.1⟩
  · rw [if_neg h2] at h; cases h

theorem lt_asymm {k n : Int} {s : ByteArray} {k' n' : Int} {s' : ByteArray} (h : ltB k n s k' n' s' = true) : ltB k' n' s' k n s = false := by
  unfold ltB at h ⊢
  split at h
  · rename_i ho
    rw [if_pos ⟨ho.2, ho.1⟩]
    by_cases e : k = k'
    · subst e
      simp only [if_true] at h ⊢
      by_cases h1 : k = 1
      · simp only [h1, if_true, decide_eq_true_eq, decide_eq_false_iff_not] at h ⊢; omega
      · rw [if_neg h1] at h ⊢; exact bls_asymm _ _ h
    · rw [if_neg e] at h; rw [if_neg (Ne.symm e)]
      simp only [decide_eq_true_eq, decide_eq_false_iff_not] at h ⊢; omega
  · cases h
theorem lt_tri {k n : Int} {s : ByteArray} {k' n' : Int} {s' : ByteArray} (ho : okB k n s = true) (ho' : okB k' n' s' = true) (h : ltB k n s k' n' s' = false) (h' : ltB k' n' s' k n s = false) : k = k' ∧ n = n' ∧ s.toList = s'.toList := by
  unfold ltB at h h'
  rw [if_pos ⟨ho, ho'⟩] at h
  rw [if_pos ⟨ho', ho⟩] at h'
  by_cases e : k = k'
  · subst e
    simp only [if_true] at h h'
    by_cases h1 : k = 1
    · simp only [h1, if_true, decide_eq_false_iff_not] at h h'
      exact ⟨rfl, by omega, (ok_one' ho h1).trans (ok_one' ho' h1).symm⟩
    · rw [if_neg h1] at h h'
      exact ⟨rfl, (ok_two' ho h1).2.trans (ok_two' ho' h1).2.symm, bls_tri _ _ h h'⟩
  · rw [if_neg e] at h; rw [if_neg (Ne.symm e)] at h'
    simp only [decide_eq_false_iff_not] at h h'; omega
theorem lt_trans' {k n : Int} {s : ByteArray} {k' n' : Int} {s' : ByteArray} {k'' n'' : Int} {s'' : ByteArray} (h : ltB k n s k' n' s' = true) (h' : ltB k' n' s' k'' n'' s'' = true) : ltB k n s k'' n'' s'' = true := by
  unfold ltB at h h' ⊢
  split at h
  · rename_i ho
    split at h'
    · rename_i ho'
      rw [if_pos ⟨ho.1, ho'.2⟩]
      by_cases e : k = k' <;> by_cases e' : k' = k''
      · subst e e'
        simp only [if_true] at h h' ⊢
        by_cases h1 : k = 1
        · simp only [h1, if_true, decide_eq_true_eq] at h h' ⊢; omega
        · rw [if_neg h1] at h h' ⊢; exact bls_trans _ _ _ h h'
      · subst e
        rw [if_neg e'] at h' ⊢; exact h'
      · subst e'
        rw [if_neg e] at h ⊢; exact h
      · rw [if_neg e] at h; rw [if_neg e'] at h'
        simp only [decide_eq_true_eq] at h h'
        rw [if_neg (by omega)]; simp only [decide_eq_true_eq]; omega
    · cases h'
  · cases h
end Go.Proofs.Ytbhdjcggcgddfaa.Pl
namespace Go.Proofs.Ytbhdjcggcgddfaa
open Go.RowKit Go.Maps Pl Il

theorem ba_extC {a b : ByteArray} (h : a.toList = b.toList) : a = b := by
  rw [ByteArray.toList_eq, ByteArray.toList_eq] at h
  cases a with
  | mk x => cases b with
    | mk y => simp only at h; rw [Array.toList_inj.1 h]
theorem ok_cases {k n : Int} {s : ByteArray} (h : okB k n s = true) : (k = 1 ∧ s = ⟨#[]⟩ ∧ -999999999 ≤ n ∧ n ≤ 999999999) ∨ (k = 2 ∧ n = 0 ∧ s.size ≤ 40) := by
  by_cases h1 : k = 1
  · subst h1
    simp only [okB, if_true, Bool.and_eq_true, List.isEmpty_iff, okNum, decide_eq_true_eq] at h
    exact .inl ⟨rfl, ba_extC (by rw [h.1, ByteArray.toList_eq]), h.2.1, h.2.2⟩
  · by_cases h2 : k = 2
    · subst h2
      simp [okB, plainB] at h
      exact .inr ⟨rfl, h.1, h.2.1⟩
    · simp [okB, h1, h2] at h
theorem okB_num (b : Int) : okB 1 b ⟨#[]⟩ = okNum b := by
  have : (⟨#[]⟩ : ByteArray).toList = [] := by rw [ByteArray.toList_eq]
  simp [okB, this]
theorem okB_txt (c : ByteArray) : okB 2 0 c = plainB c := by simp [okB]
/-- What comes back of a change's method. -/
def AftP (k n : Int) (s : ByteArray) (kind k' n' : Int) (s' : ByteArray) (e : Ending) : Prop :=
  (chRaw k n s kind k' n' s' = none ∧ ∃ v, e = .returned (.tuple #[v, .bool false])) ∨
  (∃ b, chRaw k n s kind k' n' s' = some (1, b, ⟨#[]⟩) ∧ e = .returned (.tuple #[.iface 214 (.int .i64 b), .bool true])) ∨
  (∃ c, c.size ≤ maxLen ∧ chRaw k n s kind k' n' s' = some (2, 0, c) ∧ e = .returned (.tuple #[.iface 215 (.string c), .bool true]))
theorem aft_is {k n : Int} {s : ByteArray} {kind k' n' : Int} {s' : ByteArray} {a b : Int} {c : ByteArray} (h : okB a b c = true) (hr : chRaw k n s kind k' n' s' = some (a, b, c)) : AftP k n s kind k' n' s' (.returned (.tuple #[.iface (tyOf a) (valOf a b c), .bool true])) := by
  rcases ok_cases h with ⟨rfl, rfl, _⟩ | ⟨rfl, rfl, hc⟩
  · exact .inr (.inl ⟨b, hr, rfl⟩)
  · exact .inr (.inr ⟨c, by unfold maxLen; omega, hr, rfl⟩)
/-- The contract of a function of the table. -/
def FunP (k n : Int) (s : ByteArray) (kind k' n' : Int) (s' : ByteArray) (f : Nat) : Prop := ∀ u : World, okB k n s = true → okB k' n' s' = true →
  Calls Try.prog f #[.agg #[.iface (tyOf k) (valOf k n s), .iface (tyOf k') (valOf k' n' s')]] u fun e u' => AftP k n s kind k' n' s' e ∧ Below u.heap.size u u'
theorem fun_1 (k n : Int) (s : ByteArray) (k' n' : Int) (s' : ByteArray) : FunP k n s 1 k' n' s' 166 := by
  intro u h h'
  exact (put_any _ _ u).mono fun e u' ⟨he, hb⟩ => ⟨by rw [he]; exact aft_is h' (raw1 k n s k' n' s'), hb⟩
theorem wrap_sum' {n m : Int} (h1 : -999999999 ≤ n) (h2 : n ≤ 999999999) (h3 : -999999999 ≤ m) (h4 : m ≤ 999999999) : IntKind.i64.wrap (n + m) = n + m := by
  rw [IntKind.wrap_i64]; omega
theorem fun_2 (k n : Int) (s : ByteArray) (k' n' : Int) (s' : ByteArray) : FunP k n s 2 k' n' s' 167 := by
  intro u h h'
  rcases ok_cases h with ⟨rfl, rfl, a1, a2⟩ | ⟨rfl, rfl, a1⟩
  · rcases ok_cases h' with ⟨rfl, rfl, b1, b2⟩ | ⟨rfl, rfl, b1⟩
    · exact (add_nn n n' u (wrap_sum' a1 a2 b1 b2)).mono fun e u' ⟨he, hb⟩ => ⟨.inr (.inl ⟨n + n', raw2 ⟨rfl, rfl⟩, he⟩), hb⟩
    · exact (add_nt n s' u).mono fun e u' ⟨he, hb⟩ => ⟨.inl ⟨raw2n (by omega), he⟩, hb⟩
  · have hv : ∃ r b, ∀ u, (Instr.typeAssert (.iface (tyOf k') (valOf k' n' s')) 198 214 true).run Try.prog u = .ok (.tuple #[.int .i64 r, .bool b]) u := by
      rcases ok_cases h' with ⟨rfl, rfl, _⟩ | ⟨rfl, rfl, _⟩
      · exact ⟨_, _, as_nn n'⟩
      · exact ⟨_, _, as_nt s'⟩
    exact (add_t s _ u hv).mono fun e u' ⟨he, hb⟩ => ⟨.inl ⟨raw2n (by omega), he⟩, hb⟩
theorem fun_3 (k n : Int) (s : ByteArray) (k' n' : Int) (s' : ByteArray) : FunP k n s 3 k' n' s' 168 := by
  intro u h h'
  rcases ok_cases h with ⟨rfl, rfl, a1, a2⟩ | ⟨rfl, rfl, a1⟩
  · rcases ok_cases h' with ⟨rfl, rfl, b1, b2⟩ | ⟨rfl, rfl, b1⟩
    · exact (join_n n _ ⟨#[]⟩ false u (by decide) (as_tn n')).mono fun e u' ⟨he, hb⟩ => ⟨.inl ⟨raw3n (by omega), he⟩, hb⟩
    · exact (join_n n _ s' true u b1 (as_tt s')).mono fun e u' ⟨he, hb⟩ => ⟨.inl ⟨raw3n (by omega), he⟩, hb⟩
  · rcases ok_cases h' with ⟨rfl, rfl, b1, b2⟩ | ⟨rfl, rfl, b1⟩
    · exact (join_tn s n' u a1).mono fun e u' ⟨he, hb⟩ => ⟨.inl ⟨raw3n (by omega), he⟩, hb⟩
    · exact (join_tt s s' u a1 b1).mono fun e u' ⟨he, hb⟩ => ⟨.inr (.inr ⟨s ++ s', by rw [ByteArray.size_append]; unfold maxLen; omega, raw3 ⟨rfl, rfl⟩, he⟩), hb⟩
theorem fun_4 (k n : Int) (s : ByteArray) (k' n' : Int) (s' : ByteArray) : FunP k n s 4 k' n' s' 169 := by
  intro u h h'
  refine (most_any k n s k' n' s' u h h').mono fun e u' ⟨he, hb⟩ => ⟨?_, hb⟩
  rw [he]
  cases hl : ltB k n s k' n' s'
  · cases hr : ltB k' n' s' k n s
    · obtain ⟨rfl, rfl, hs⟩ := lt_tri h h' hl hr
      have := ba_extC hs
      subst this
      exact aft_is h (raw4n hr)
    · exact aft_is h (raw4y hr)
  · exact aft_is h' (raw4n (lt_asymm hl))
/-- A look into the table, whatever the kind. -/
theorem tab_any (k n : Int) (s : ByteArray) (k' n' : Int) (s' : ByteArray) (w : World) (mb m : Nat) (kind : Int) (h : w.ownsMap Try.prog 3 fnR mb m tabD) (hk : (Lit.int .i64 kind).wf = true) :
    ∃ v b, (Instr.lookup 203 (.map (some mb)) (.int .i64 kind) true).run Try.prog w = .ok (.tuple #[v, .bool b]) w ∧
      ((b = false ∧ chRaw k n s kind k' n' s' = none) ∨ (b = true ∧ ∃ f, v = .func (.func f) #[] #[] ∧ (∀ args u, (callFunc f args).run Try.prog u = .ok (.enter f args) u) ∧ FunP k n s kind k' n' s' f)) := by
  by_cases h1 : kind = 1
  · subst h1; exact ⟨_, _, tab_1 w mb m h, .inr ⟨rfl, _, rfl, fun _ _ => by kernel_rfl, fun_1 k n s k' n' s'⟩⟩
  by_cases h2 : kind = 2
  · subst h2; exact ⟨_, _, tab_2 w mb m h, .inr ⟨rfl, _, rfl, fun _ _ => by kernel_rfl, fun_2 k n s k' n' s'⟩⟩
  by_cases h3 : kind = 3
  · subst h3; exact ⟨_, _, tab_3 w mb m h, .inr ⟨rfl, _, rfl, fun _ _ => by kernel_rfl, fun_3 k n s k' n' s'⟩⟩
  by_cases h4 : kind = 4
  · subst h4; exact ⟨_, _, tab_4 w mb m h, .inr ⟨rfl, _, rfl, fun _ _ => by kernel_rfl, fun_4 k n s k' n' s'⟩⟩
  obtain ⟨v, hv⟩ := tab_0 w mb m kind h hk h1 h2 h3 h4
  exact ⟨v, _, hv, .inl ⟨rfl, raw0 h1 h2 h3 h4⟩⟩
theorem body_two (k n : Int) (s : ByteArray) (w : World) (hm : s.size ≤ maxLen) :
    Calls Try.prog 155 #[.agg #[.int .i64 k, .int .i64 n, .string s]] w fun e w' =>
      (∃ v, e = .returned (.tuple #[v, .bool (okB k n s)]) ∧ (okB k n s = true → v = .iface (tyOf k) (valOf k n s))) ∧ Below w.heap.size w w' := by
  refine (body_any k n s w hm).mono fun e w' ⟨hc, hb⟩ => ⟨?_, hb⟩
  rcases hc with ⟨h, rfl⟩ | ⟨h, rfl⟩
  · exact ⟨_, by rw [h]; rfl, fun _ => rfl⟩
  · exact ⟨_, by rw [h]; rfl, fun h' => by rw [h] at h'; cases h'⟩
end Go.Proofs.Ytbhdjcggcgddfaa
namespace Go.Proofs.Ytbhdjcggcgddfaa
open Go.RowKit Pl Il

theorem l6Waits_any (a : Option Addr) (n cap : Nat) (ls : List Int) (a' : Option Addr) (n' cap' : Nat) (ts : List Int) (w : World) (hI : IntsAt w a n ls) (hJ : IntsAt w a' n' ts) (hn : n ≤ 2097152) (hn' : n' ≤ 2097152) (hcap : n ≤ cap) (hcap' : n' ≤ cap') :
    Calls Try.prog 108 #[.slice a n cap, .slice a' n' cap'] w fun e w' => e = .returned (.bool (waitL ls ts)) ∧ Below w.heap.size w w' := by
  go_enter Try.func108, Try.ntmps108
  go_wp2_with fail
  refine (specLineOk_any a n cap ls _ hI hn hcap).mono ?_
  rintro e w1 ⟨rfl, hb1⟩
  cases h1 : lineL ls
  · go_wp2
    go_ret
    exact ⟨rbool (by simp [waitL, h1]), hb1⟩
  · go_wp2_with fail
    refine (specLineOk_any a' n' cap' ts _ (hJ.keep hb1) hn' hcap').mono ?_
    rintro e w2 ⟨rfl, hb2⟩
    have hB2 := bl_trans hb1 hb2
    cases h2 : lineL ts
    · go_wp2
      go_ret
      exact ⟨rbool (by simp [waitL, h2]), hB2⟩
    · have H1 := hidOf h1
      have H2 := hidOf h2
      have HI2 := hidOf (hI.keep hB2)
      have hJ2 := hJ.keep hB2
      have HB2 := hidOf hB2
      clear hI hJ h1 h2 hB2 hb1 hb2
      obtain ⟨hlen, h0 | ⟨b, off, rfl, hb, hcell⟩⟩ := hJ2
      · subst h0
        have : ts = [] := List.length_eq_zero_iff.1 hlen
        subst this
        go_wp2_with fail
        go_loop [5] (fun i => i = .int .i64 0) (fun _ => 0)
        case atStart => rfl
        case round =>
          subst hrel
          go_wp2
          go_ret
          exact ⟨rbool (by simp [waitL, H1.out, H2.out, apartL]), HB2.out⟩
      · have HL := hidOf hlen
        clear hlen
        go_wp2_with fail
        go_loop [5] (fun i => ∃ k : Nat, k ≤ n' ∧ i = .int .i64 k ∧ apartL ls (ts.take k) = true) (fun i => n' - (intOf i).toNat)
        case atStart => exact ⟨0, Nat.zero_le _, rfl, rfl⟩
        case round =>
          obtain ⟨k, hk, rfl, hap⟩ := hrel
          have HAp := hidOf hap
          clear hap
          by_cases hlt : k < n'
          · have hc := hcell k hlt
            have hkl : k < ts.length := by rw [HL.out]; exact hlt
            generalize hy : ts.getD k 0 = y at hc
            have HY := hidOf hy
            have hki : (0 : Int) ≤ (k : Int) ∧ (k : Int) < (n' : Int) := by omega
            clear hy hcell
            cases hh : hasL ls y
            · go_wp2_with (go_at_call 91; refine (l2Has_any a n cap ls y _ HI2.out hn).mono ?_; rintro e w3 ⟨rfl, rfl⟩; rw [hh])
              go_round
              case rel => exact ⟨k + 1, by omega, by go_num, apart_step hkl HY.out HAp.out hh⟩
              case measure => simp [intOf]; omega
            · go_wp2_with (go_at_call 91; refine (l2Has_any a n cap ls y _ HI2.out hn).mono ?_; rintro e w3 ⟨rfl, rfl⟩; rw [hh])
              go_ret
              exact ⟨rbool (by rw [waitL, apart_bad hkl HY.out hh]; simp), HB2.out⟩
          · obtain rfl : k = n' := by omega
            clear hcell
            go_wp2
            go_ret
            exact ⟨rbool (by rw [waitL, H1.out, H2.out, apart_end (by rw [HL.out]; exact Nat.le_refl _) HAp.out]; rfl), HB2.out⟩
theorem inCnt_any (x : Int) (w : World) :
    Calls Try.prog 99 #[.int .i64 x, .int .i64 0, .int .i64 1000000000] w fun e w' => e = .returned (.bool (cnt x)) ∧ w' = w := in_any x 0 1000000000 w
end Go.Proofs.Ytbhdjcggcgddfaa
namespace Go.Proofs.Ytbhdjcggcgddfaa
open Go.RowKit Pl Il

theorem specCellOk_any (A : Na) (x : Ct) (w : World) (hI : CIn w A x) (hn : A.n ≤ 2097152) (hn' : A.n' ≤ 2097152) (hok : A.ok) :
    Calls Try.prog 47 #[.agg #[.int .i64 x.kd, .int .i64 x.nu, .string x.tx, .int .i64 x.ve, .bool x.cl, .slice A.a A.n A.c, .slice A.a' A.n' A.c']] w fun e w' => e = .returned (.bool (okC x)) ∧ Below w.heap.size w w' := by
  generalize hW0 : w.alloc (.cells #[.int .i64 x.kd, .int .i64 x.nu, .string x.tx, .int .i64 x.ve, .bool x.cl, .slice A.a A.n A.c, .slice A.a' A.n' A.c'] 58) = W0
  have B0 : Below w.heap.size w W0 := by subst hW0; exact bl_alloc (Below.refl _ _) _
  have x0 : CBox w.heap.size A x W0 := by subst hW0; exact CBox.new w A x _
  have HI0 := hidOf (hI.keep B0)
  have HL := hidOf hI.ints.len
  have htx := hI.tx
  obtain ⟨_, p0, p1, p2, p3, p4, p5, p6, _⟩ := id x0
  have X0 := hidOf x0
  clear hI x0
  have hun : (undef : Value) = .tuple #[] := rfl
  go_enter Try.func47, Try.ntmps47
  go_wp2_with fail
  refine (specMsgOk_any x.kd x.nu x.tx _ htx).mono ?_
  rintro e w1 ⟨rfl, hb1⟩
  have X0 := hidOf (X0.out.keep hb1)
  have HI0 := hidOf (HI0.out.keep hb1)
  have B1 := bl_trans B0 hb1
  clear B0 hb1 hW0 p0 p1 p2 p3 p4 p5 p6
  obtain ⟨_, p0, p1, p2, p3, p4, p5, p6, _⟩ := X0.out
  cases h0 : okB x.kd x.nu x.tx
  · go_wp2
    go_ret
    exact ⟨rbool (by simp [okC, h0]), B1⟩
  · go_wp2_with fail
    refine (inCnt_any x.ve _).mono ?_
    rintro e w2 ⟨rfl, rfl⟩
    cases h1 : cnt x.ve
    · go_wp2
      go_ret
      exact ⟨rbool (by simp [okC, h1]), B1⟩
    · go_wp2_with fail
      refine (l6Waits_any A.a A.n A.c x.ln A.a' A.n' A.c' x.gs _ HI0.out.ints HI0.out.grs hn hn' hok.1 hok.2).mono ?_
      rintro e w3 ⟨rfl, hb3⟩
      have B3 := bl_trans B1 hb3
      clear p0 p1 p2 p3 p4 p5 p6 B1
      obtain ⟨_, p0, p1, p2, p3, p4, p5, p6, _⟩ := X0.out.keep hb3
      clear X0 HI0 hb3
      cases h2 : waitL x.ln x.gs
      · go_wp2
        go_ret
        exact ⟨rbool (by simp [okC, h2]), B3⟩
      · obtain ⟨b, hb⟩ : ∃ b, b = x.cl := ⟨_, rfl⟩
        rw [← hb] at p4
        have HCl := hidOf hb
        clear hb
        cases b
        · go_wp2
          go_ret
          exact ⟨rbool (by simp [okC, h0, h1, h2, ← HCl.out]), B3⟩
        · by_cases h4 : (0 : Int) < (A.n : Int)
          · go_wp2
            go_ret
            exact ⟨rbool (by have := HL.out; first | (simp [okC, ← HCl.out, HL.out]; done) | (simp [okC, ← HCl.out, HL.out]; omega)), B3⟩
          · go_wp2
            go_ret
            exact ⟨rbool (by have := HL.out; first | (simp [okC, h0, h1, h2, ← HCl.out, HL.out]; done) | (simp [okC, h0, h1, h2, ← HCl.out, HL.out]; omega)), B3⟩
set_option maxHeartbeats 1000000 in
theorem l7Copy_any (A : Na) (x : Ct) (w : World) (hI : CIn w A x) (hn : A.n ≤ 2097152) (hn' : A.n' ≤ 2097152) :
    Calls Try.prog 129 #[.agg #[.int .i64 x.kd, .int .i64 x.nu, .string x.tx, .int .i64 x.ve, .bool x.cl, .slice A.a A.n A.c, .slice A.a' A.n' A.c']] w fun e w' => ∃ A', e = .returned (.agg #[.int .i64 x.kd, .int .i64 x.nu, .string x.tx, .int .i64 x.ve, .bool x.cl, .slice A'.a A'.n A'.c, .slice A'.a' A'.n' A'.c']) ∧ Rows2 w.heap.size w' A' x.ln x.gs ∧ Below w.heap.size w w' := by
  generalize hW0 : w.alloc (.cells #[.int .i64 x.kd, .int .i64 x.nu, .string x.tx, .int .i64 x.ve, .bool x.cl, .slice A.a A.n A.c, .slice A.a' A.n' A.c'] 58) = W0
  generalize hW1 : W0.alloc (.cells #[.int .i64 0, .int .i64 0, .string ⟨#[]⟩, .int .i64 0, .bool false, .slice none 0 0, .slice none 0 0] 58) = W1
  have b0 : Below w.heap.size w W0 := by subst hW0; exact bl_alloc (Below.refl _ _) _
  have b1 : Below w.heap.size w W1 := by subst hW1; exact bl_alloc b0 _
  have s0 : W0.heap.size = w.heap.size + 1 := by subst hW0; simp
  have s1 : W1.heap.size = w.heap.size + 2 := by subst hW1; simp [s0]
  have x0 : CBox w.heap.size A x W1 := by subst hW1 hW0; exact (CBox.new w A x _).alloc _
  have x1 : CBox (w.heap.size + 1) Na.zero Ct.zero W1 := by subst hW1; rw [← s0]; exact CBox.newZ W0 _
  have hI1 := hidOf (hI.keep b1)
  have HI := hidOf hI
  have X0 := hidOf x0
  have X1 := hidOf x1
  have HB := hidOf b1
  have S1 := hidOf s1
  clear hI x0 x1 b0 b1 s0 s1
  subst hW1 hW0
  go_enter Try.func129, Try.ntmps129
  go_wp2_with fail
  refine (l2Copy_any A.a A.n A.c x.ln _ hI1.out.ints hn).mono ?_
  rintro e w1 ⟨g1, c1, rfl, ho1, hb1⟩
  rw [S1.out] at ho1
  have x0 := X0.out.keep hb1
  have x1 := X1.out.keep hb1
  have hB1 := bl_trans HB.out hb1
  have y0 := x0.set5 (a := some ⟨g1, 0, none⟩) (n := A.n) (c := c1)
  have y1 := x1.far w.heap.size 5 (by omega) (.slice (some ⟨g1, 0, none⟩) A.n c1)
  have hg1 := (owns_parts ho1).2.1
  have ho2 := row_set ho1 w.heap.size 5 (fun e => by have e' : g1 = w.heap.size := by simpa [Value.ownBlock] using e
                                                     omega) (.slice (some ⟨g1, 0, none⟩) A.n c1)
  have hB2 := bl_set1 hB1 w.heap.size 5 (Nat.le_refl _) (.slice (some ⟨g1, 0, none⟩) A.n c1)
  generalize hU : w1.setCell ⟨w.heap.size, 5, none⟩ (.slice (some ⟨g1, 0, none⟩) A.n c1) = U at y0 y1 ho2 hB2
  have hIU := HI.out.grs.keep hB2
  obtain ⟨_, p0, p1, p2, p3, p4, p5, p6, pf⟩ := id x0
  obtain ⟨_, q0, q1, q2, q3, q4, q5, q6, qf⟩ := id y0
  have hz := y1.lt
  have Y0 := hidOf y0
  have Y1 := hidOf y1
  have HO2 := hidOf ho2
  have HB2 := hidOf hB2
  clear ho1 hB1 hb1 x0 x1 HI X0 X1 HB hI1 y0 y1 ho2 hB2
  subst hU
  go_wp2_with fail
  refine (l2Copy_any A.a' A.n' A.c' x.gs _ hIU hn').mono ?_
  rintro e w2 ⟨g2, c2, rfl, ho3, hb3⟩
  have z0 := Y0.out.keep hb3
  have z1 := Y1.out.keep hb3
  have hg2 := (owns_parts ho3).2.1
  have hlt1 : g1 < (w1.setCell ⟨w.heap.size, 5, none⟩ (.slice (some ⟨g1, 0, none⟩) A.n c1)).heap.size := (HO2.out.lt g1 rfl).2
  have hN : Rows2 (w.heap.size + 2) w2 ⟨some ⟨g1, 0, none⟩, A.n, c1, some ⟨g2, 0, none⟩, A.n', c2⟩ x.ln x.gs := by
    refine ⟨row_below HO2.out hb3, row_mono ho3 (by omega), fun q e e' => ?_⟩
    have h1 : g1 = q := by simpa [Value.ownBlock] using e
    have h2 : g2 = q := by simpa [Value.ownBlock] using e'
    omega
  have hN2 := ((((((((hN.far w.heap.size 6 (by omega) (.slice (some ⟨g2, 0, none⟩) A.n' c2)).far (w.heap.size + 1) 0 (by omega) (.int .i64 x.kd)).far (w.heap.size + 1) 1 (by omega) (.int .i64 x.nu)).far (w.heap.size + 1) 2 (by omega) (.string x.tx)).far (w.heap.size + 1) 3 (by omega) (.int .i64 x.ve)).far (w.heap.size + 1) 4 (by omega) (.bool x.cl)).far (w.heap.size + 1) 5 (by omega) (.slice (some ⟨g1, 0, none⟩) A.n c1)).far (w.heap.size + 1) 6 (by omega) (.slice (some ⟨g2, 0, none⟩) A.n' c2))
  have hB3 := bl_sC (bl_set1 (bl_trans HB2.out hb3) w.heap.size 6 (Nat.le_refl _) (.slice (some ⟨g2, 0, none⟩) A.n' c2)) (w.heap.size + 1) (by omega) (.int .i64 x.kd) (.int .i64 x.nu) (.string x.tx) (.int .i64 x.ve) (.bool x.cl) (.slice (some ⟨g1, 0, none⟩) A.n c1) (.slice (some ⟨g2, 0, none⟩) A.n' c2)
  obtain ⟨_, r0, r1, r2, r3, r4, r5, r6, rf⟩ := id z0
  obtain ⟨_, t0, t1, t2, t3, t4, t5, t6, tf⟩ := id z1
  have HN := hidOf hN2
  have HB3 := hidOf hB3
  clear hN hN2 hB3 ho3 hb3 z0 z1 Y0 Y1 HO2 HB2 p0 p1 p2 p3 p4 p5 p6 pf q0 q1 q2 q3 q4 q5 q6 qf hIU S1
  go_wp2
  exact bodyPost_ret (v := .agg #[.int .i64 x.kd, .int .i64 x.nu, .string x.tx, .int .i64 x.ve, .bool x.cl, .slice (some ⟨g1, 0, none⟩) A.n c1, .slice (some ⟨g2, 0, none⟩) A.n' c2]) (by simp [results, Try.results129, go_sem, t0, t1, t2, t3, t4, t5, t6]) rfl ⟨⟨some ⟨g1, 0, none⟩, A.n, c1, some ⟨g2, 0, none⟩, A.n', c2⟩, rfl, HN.out.mono (by omega), HB3.out⟩
end Go.Proofs.Ytbhdjcggcgddfaa
