/-
  The program's changes: the table of method expressions.
-/
import Derived.Test.YtbbhaekmjnincaaBC1
import Derived.Maps.OwnSet
import Derived.Deep.RegionWith
namespace Go.Proofs.Ytbbhaekmjnincaa
open Go.RowKit Go.Maps Pl Il

/-- A function of the table, as a number. -/
def fnR (v : Value) : Option (DataW Unit × List MemPlace) := match v with
  | .func (.func k) ⟨[]⟩ ⟨[]⟩ => some (.lit (.int .i64 k), [])
  | .nilFunc => some (.lit (.int .i64 (-1)), [])
  | _ => none
theorem fnR_inv {v : Value} {k : Nat} {ps : List MemPlace} (h : fnR v = some (.lit (.int .i64 (k : Int)), ps)) : v = .func (.func k) #[] #[] := by
  unfold fnR at h
  split at h
  · rename_i q
    simp at h
    obtain ⟨h1, _⟩ := h
    have h2 : q = k := Int.ofNat.inj h1
    subst h2
    rfl
  · simp at h
  · simp at h
theorem key3 : Keyed Try.prog 3 := int_keyed Try.underlying3
theorem zeroF (w : World) : (zeroValue 65).run Try.prog w = .ok .nilFunc w := by kernel_rfl
/-- The table. -/
def tabD : DataW Unit := .map [(.int .i64 1, .lit (.int .i64 44)), (.int .i64 2, .lit (.int .i64 45)), (.int .i64 3, .lit (.int .i64 46)), (.int .i64 4, .lit (.int .i64 47))]
theorem changes_any (w : World) : Calls Try.prog 30 #[] w fun e w' => ∃ mb n, e = .returned (.map (some mb)) ∧ w'.ownsMap Try.prog 3 fnR mb n tabD ∧ Below w.heap.size w w' := by
  have hmm := @run_makeMap Try.prog
  have h0 := World.ownsMap_made w Try.prog 3 fnR
  have b0 : Below w.heap.size w (w.alloc (.map #[] 0)) := bl_alloc (Below.refl _ _) _
  obtain ⟨w1, r1, h1, t1⟩ := h0.store (t := 67) key3 Try.underlying67 (by unfold maxLen; omega) (key := .int .i64 1) (val := .func (.func 44) #[] #[]) (kl := .int .i64 1) (keyOf_int_mk Try.underlying3 (by decide)) (d := .lit (.int .i64 44)) (ps := []) rfl
  obtain ⟨w2, r2, h2, t2⟩ := h1.store (t := 67) key3 Try.underlying67 (by unfold maxLen; omega) (key := .int .i64 2) (val := .func (.func 45) #[] #[]) (kl := .int .i64 2) (keyOf_int_mk Try.underlying3 (by decide)) (d := .lit (.int .i64 45)) (ps := []) rfl
  obtain ⟨w3, r3, h3, t3⟩ := h2.store (t := 67) key3 Try.underlying67 (by unfold maxLen; omega) (key := .int .i64 3) (val := .func (.func 46) #[] #[]) (kl := .int .i64 3) (keyOf_int_mk Try.underlying3 (by decide)) (d := .lit (.int .i64 46)) (ps := []) rfl
  obtain ⟨w4, r4, h4, t4⟩ := h3.store (t := 67) key3 Try.underlying67 (by unfold maxLen; omega) (key := .int .i64 4) (val := .func (.func 47) #[] #[]) (kl := .int .i64 4) (keyOf_int_mk Try.underlying3 (by decide)) (d := .lit (.int .i64 47)) (ps := []) rfl
  have hD : ((((DataW.map [] : DataW Unit).put (.int .i64 1) (.lit (.int .i64 44))).put (.int .i64 2) (.lit (.int .i64 45))).put (.int .i64 3) (.lit (.int .i64 46))).put (.int .i64 4) (.lit (.int .i64 47)) = tabD := by rfl
  rw [hD] at h4
  have bt : ∀ {u v : World}, Below w.heap.size w u → w.heap.size < u.heap.size → u.mapTurned v w.heap.size → Below w.heap.size w v := fun hb hlt ht => hb.grown ht.grown (by omega) (fun j hj => by cases hj; exact Nat.le_refl _)
  have s0 : w.heap.size < (w.alloc (.map #[] 0)).heap.size := by simp
  have B1 := bt b0 s0 t1
  have s1 := h1.lt
  have B2 := bt B1 s1 t2
  have s2 := h2.lt
  have B3 := bt B2 s2 t3
  have s3 := h3.lt
  have B4 := bt B3 s3 t4
  have H4 := hidOf (And.intro h4 B4)
  clear B1 B2 B3 B4 s0 s1 s2 s3 bt b0 t1 t2 t3 t4 h0 h1 h2 h3 h4 hD
  go_enter Try.func30, Try.ntmps30
  go_wp2
  go_ret
  exact ⟨_, _, rfl, H4.out.1, H4.out.2⟩
/-- A look into the table. -/
theorem tab_look (w : World) (mb n : Nat) (kind : Int) (h : w.ownsMap Try.prog 3 fnR mb n tabD) (hk : (Lit.int .i64 kind).wf = true) :
    ∃ v ps, (Instr.lookup 67 (.map (some mb)) (.int .i64 kind) true).run Try.prog w = .ok (.tuple #[v, .bool (Maps.has tabD (.int .i64 kind))]) w ∧ fnR v = some (tabD.atKey (.int .i64 kind) (.lit (.int .i64 (-1))), ps) :=
  h.look_ok key3 Try.underlying67 (zeroF w) (zd := .lit (.int .i64 (-1))) (zp := []) rfl (keyOf_int_mk Try.underlying3 hk)
theorem tab_no {kind : Int} (h1 : ¬ kind = 1) (h2 : ¬ kind = 2) (h3 : ¬ kind = 3) (h4 : ¬ kind = 4) : Maps.has tabD (.int .i64 kind) = false := by
  simp [tabD, Maps.has, Lit.sameKey, Ne.symm h1, Ne.symm h2, Ne.symm h3, Ne.symm h4]
theorem tab_1 (w : World) (mb n : Nat) (h : w.ownsMap Try.prog 3 fnR mb n tabD) : (Instr.lookup 67 (.map (some mb)) (.int .i64 1) true).run Try.prog w = .ok (.tuple #[.func (.func 44) #[] #[], .bool true]) w := by
  obtain ⟨v, ps, hr, hv⟩ := tab_look w mb n 1 h (by decide)
  obtain rfl := fnR_inv (k := 44) hv
  exact hr
theorem tab_2 (w : World) (mb n : Nat) (h : w.ownsMap Try.prog 3 fnR mb n tabD) : (Instr.lookup 67 (.map (some mb)) (.int .i64 2) true).run Try.prog w = .ok (.tuple #[.func (.func 45) #[] #[], .bool true]) w := by
  obtain ⟨v, ps, hr, hv⟩ := tab_look w mb n 2 h (by decide)
  obtain rfl := fnR_inv (k := 45) hv
  exact hr
theorem tab_3 (w : World) (mb n : Nat) (h : w.ownsMap Try.prog 3 fnR mb n tabD) : (Instr.lookup 67 (.map (some mb)) (.int .i64 3) true).run Try.prog w = .ok (.tuple #[.func (.func 46) #[] #[], .bool true]) w := by
  obtain ⟨v, ps, hr, hv⟩ := tab_look w mb n 3 h (by decide)
  obtain rfl := fnR_inv (k := 46) hv
  exact hr
theorem tab_4 (w : World) (mb n : Nat) (h : w.ownsMap Try.prog 3 fnR mb n tabD) : (Instr.lookup 67 (.map (some mb)) (.int .i64 4) true).run Try.prog w = .ok (.tuple #[.func (.func 47) #[] #[], .bool true]) w := by
  obtain ⟨v, ps, hr, hv⟩ := tab_look w mb n 4 h (by decide)
  obtain rfl := fnR_inv (k := 47) hv
  exact hr
theorem tab_0 (w : World) (mb n : Nat) (kind : Int) (h : w.ownsMap Try.prog 3 fnR mb n tabD) (hk : (Lit.int .i64 kind).wf = true) (h1 : ¬ kind = 1) (h2 : ¬ kind = 2) (h3 : ¬ kind = 3) (h4 : ¬ kind = 4) : ∃ v, (Instr.lookup 67 (.map (some mb)) (.int .i64 kind) true).run Try.prog w = .ok (.tuple #[v, .bool false]) w := by
  obtain ⟨v, ps, hr, _⟩ := tab_look w mb n kind h hk
  rw [tab_no h1 h2 h3 h4] at hr
  exact ⟨v, hr⟩
end Go.Proofs.Ytbbhaekmjnincaa
