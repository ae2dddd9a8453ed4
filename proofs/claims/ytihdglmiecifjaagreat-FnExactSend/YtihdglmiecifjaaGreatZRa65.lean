/-
  The numbers under which the library's functions stand in this program, laid in plain words by the shelf's own command: so its contract on strings.Contains speaks of this program.
  The program's tests: what a function value stands for.
  The program's tests: each term that takes nothing.
-/
import Derived.Shelf.Strings.Search3
import Derived.Test.YtihdglmiecifjaaGreatProg
import Derived.Test.YtihdglmiecifjaaGreatZRa34
namespace Go.Proofs
open Go.Shelf
def Tryz.lays144_ren : Go.Shelf.Ren := ⟨fun | 144 => 206 | 143 => 210 | 219 => 211 | 217 => 212 | 225 => 213 | 224 => 214 | 267 => 215 | 266 => 216 | 314 => 217 | n => n, fun | 9 => 9 | 4 => 4 | 3 => 3 | 5 => 5 | 46 => 204 | 146 => 224 | 51 => 223 | n => n, fun | 1 => 0 | n => n⟩
theorem Tryz.lays144 : Go.Proofs.Lays.n144 Tryz.prog Tryz.lays144_ren := {
  mixed := by kernel_rfl
  f143 := Tryz.func210.trans (congrArg some (by kernel_rfl))
  f144 := Tryz.func206.trans (congrArg some (by kernel_rfl))
  f217 := Tryz.func212.trans (congrArg some (by kernel_rfl))
  f219 := Tryz.func211.trans (congrArg some (by kernel_rfl))
  f224 := Tryz.func214.trans (congrArg some (by kernel_rfl))
  f225 := Tryz.func213.trans (congrArg some (by kernel_rfl))
  f266 := Tryz.func216.trans (congrArg some (by kernel_rfl))
  f267 := Tryz.func215.trans (congrArg some (by kernel_rfl))
  f314 := Tryz.func217.trans (congrArg some (by kernel_rfl))
  t3 := Tryz.underlying3
  a3 := Tryz.isAgg3
  z3 := Tryz.sizeOf3
  v3 := Tryz.zeroValue3
  t4 := Tryz.underlying4
  a4 := Tryz.isAgg4
  z4 := Tryz.sizeOf4
  v4 := Tryz.zeroValue4
  t5 := Tryz.underlying5
  a5 := Tryz.isAgg5
  z5 := Tryz.sizeOf5
  v5 := Tryz.zeroValue5
  t9 := Tryz.underlying9
  a9 := Tryz.isAgg9
  z9 := Tryz.sizeOf9
  v9 := Tryz.zeroValue9
  t46 := Tryz.underlying204
  a46 := Tryz.isAgg204
  z46 := Tryz.sizeOf204
  v46 := Tryz.zeroValue204
  t51 := Tryz.underlying223
  a51 := Tryz.isAgg223
  z51 := Tryz.sizeOf223
  v51 := Tryz.zeroValue223
  t146 := Tryz.underlying224
  a146 := Tryz.isAgg224
  z146 := Tryz.sizeOf224
  v146 := Tryz.zeroValue224
  g1 := by kernel_rfl }
end Go.Proofs
namespace Go.Proofs.YtihdglmiecifjaaGreat
open Go.RowKit Pl Il

def bdV : Bd → Value
  | .inl n => .iface 193 (.int .i64 n)
  | .inr s => .iface 194 (.string s)
def BdOk : Bd → Prop
  | .inl _ => True
  | .inr s => s.size ≤ 40
/-- The library's own variable holds some number. -/
def GOk (W : World) : Prop := ∃ m, W.cell? ⟨0, 0, none⟩ = some (.int .i64 m)
theorem GOk.keep {W W' : World} (h : GOk W) (hb : Below W.heap.size W W') : GOk W' := by
  obtain ⟨m, h⟩ := h
  exact ⟨m, by rw [hb.cell (World.block_lt_of_cell? W _ h)]; exact h⟩
/-- What a call of the function value does, wherever the blocks F lie as they lie in u. -/
def Does (F : List Nat) (u : World) (k : Nat) (caps : Array Value) (p : Pd) : Prop :=
  ∀ (W : World) (b : Bd), BdOk b → GOk W → (∀ j, j ∈ F → W.heap[j]? = u.heap[j]?) → Calls Tryz.prog k (#[bdV b] ++ caps) W fun e W' => e = .returned (.bool (p b)) ∧ Below W.heap.size W W'
def RepP (F : List Nat) (u : World) (v : Value) (p : Pd) : Prop :=
  (∀ j, j ∈ F → j < u.heap.size) ∧ ∃ (k : Nat) (caps : Array Value), v = .func (.func k) #[] caps ∧ (∀ args W, (callFunc k args).run Tryz.prog W = .ok (.enter k args) W) ∧ Does F u k caps p
theorem as_nn (n : Int) (u : World) : (Instr.typeAssert (.iface 193 (.int .i64 n)) 155 193 true).run Tryz.prog u = .ok (.tuple #[.int .i64 n, .bool true]) u := by kernel_rfl
theorem as_nt (s : ByteArray) (u : World) : (Instr.typeAssert (.iface 194 (.string s)) 155 193 true).run Tryz.prog u = .ok (.tuple #[.int .i64 0, .bool false]) u := by kernel_rfl
theorem as_tn (n : Int) (u : World) : (Instr.typeAssert (.iface 193 (.int .i64 n)) 155 194 true).run Tryz.prog u = .ok (.tuple #[.string ⟨#[]⟩, .bool false]) u := by kernel_rfl
theorem as_tt (s : ByteArray) (u : World) : (Instr.typeAssert (.iface 194 (.string s)) 155 194 true).run Tryz.prog u = .ok (.tuple #[.string s, .bool true]) u := by kernel_rfl
theorem passAll_does (u : World) : Does [] u 183 #[] (fun _ => true) := by
  intro W b _ _ _
  cases b <;>
  · unfold bdV
    go_enter Tryz.func183, Tryz.ntmps183
    go_wp2
    go_ret
    exact ⟨rfl, Below.refl _ _⟩
theorem num_txt (c : Nat) (s : ByteArray) (W : World) : Calls Tryz.prog 207 #[bdV (.inr s), .pointer (some ⟨c, 0, none⟩)] W fun e W' => e = .returned (.bool false) ∧ Below W.heap.size W W' := by
  have a1 := as_nt s
  unfold bdV
  go_enter Tryz.func207, Tryz.ntmps207
  go_wp2
  go_ret
  exact ⟨rfl, Below.refl _ _⟩
theorem txt_num (c : Nat) (n : Int) (W : World) : Calls Tryz.prog 208 #[bdV (.inl n), .pointer (some ⟨c, 0, none⟩)] W fun e W' => e = .returned (.bool false) ∧ Below W.heap.size W W' := by
  have a1 := as_tn n
  unfold bdV
  go_enter Tryz.func208, Tryz.ntmps208
  go_wp2
  go_ret
  exact ⟨rfl, Below.refl _ _⟩
end Go.Proofs.YtihdglmiecifjaaGreat
namespace Go.Proofs.YtihdglmiecifjaaGreat
open Go.RowKit Pl Il

theorem num_2 (c : Nat) (n : Int) (W : World) (hc : W.cell? ⟨c, 0, none⟩ = some (.func (.func 198) #[] #[])) : Calls Tryz.prog 207 #[bdV (.inl n), .pointer (some ⟨c, 0, none⟩)] W fun e W' => e = .returned (.bool true) ∧ Below W.heap.size W W' := by
  have a1 := as_nn n
  unfold bdV
  go_enter Tryz.func207, Tryz.ntmps207
  go_wp2
  go_ret
  exact ⟨rfl, Below.refl _ _⟩
theorem num_4 (c x : Nat) (n num : Int) (W : World) (hc : W.cell? ⟨c, 0, none⟩ = some (.func (.func 201) #[] #[.pointer (some ⟨x, 0, none⟩)])) (hx : W.cell? ⟨x, 1, none⟩ = some (.int .i64 num)) : Calls Tryz.prog 207 #[bdV (.inl n), .pointer (some ⟨c, 0, none⟩)] W fun e W' => e = .returned (.bool (decide (n < num))) ∧ Below W.heap.size W W' := by
  have a1 := as_nn n
  unfold bdV
  go_enter Tryz.func207, Tryz.ntmps207
  go_wp2
  all_goals go_ret
  all_goals exact ⟨by simp_all, Below.refl _ _⟩
theorem num_5 (c x : Nat) (n num : Int) (W : World) (hnum : 1 ≤ num) (hc : W.cell? ⟨c, 0, none⟩ = some (.func (.func 202) #[] #[.pointer (some ⟨x, 0, none⟩)])) (hx : W.cell? ⟨x, 1, none⟩ = some (.int .i64 num)) : Calls Tryz.prog 207 #[bdV (.inl n), .pointer (some ⟨c, 0, none⟩)] W fun e W' => e = .returned (.bool (decide (n.tmod num = 0))) ∧ Below W.heap.size W W' := by
  have a1 := as_nn n
  have h0 : ¬ num = 0 := by omega
  have h1 : ¬ num = -1 := by omega
  unfold bdV
  go_enter Tryz.func207, Tryz.ntmps207
  go_wp2
  all_goals go_ret
  all_goals exact ⟨rbool (by rw [Bool.eq_iff_iff]; simp), Below.refl _ _⟩
theorem ext_take (s : ByteArray) (k : Nat) : (s.extract 0 k).toList = s.toList.take k := by
  rw [ByteArray.toList_eq, ByteArray.toList_eq, ByteArray.data_extract, Array.toList_extract]
  simp [List.extract]
theorem beg_eq (s t : ByteArray) : ((s.extract 0 t.size).toList == t.toList) = begB s t := by
  have hl : t.toList.length = t.size := by rw [ByteArray.toList_eq]; rfl
  rw [ext_take s t.size, Bool.eq_iff_iff]
  unfold begB
  rw [List.isPrefixOf_iff_prefix, List.prefix_iff_eq_take, hl]
  simp only [beq_iff_eq]
  exact eq_comm
theorem beg_no {s t : ByteArray} (h : ¬ t.size ≤ s.size) : begB s t = false := by
  have hl : t.toList.length = t.size := by rw [ByteArray.toList_eq]; rfl
  have hl' : s.toList.length = s.size := by rw [ByteArray.toList_eq]; rfl
  unfold begB
  rw [Bool.eq_false_iff]
  intro e
  have := (List.isPrefixOf_iff_prefix.1 e).length_le
  omega
theorem txt_3 (c : Nat) (s : ByteArray) (W : World) (hc : W.cell? ⟨c, 0, none⟩ = some (.func (.func 200) #[] #[])) : Calls Tryz.prog 208 #[bdV (.inr s), .pointer (some ⟨c, 0, none⟩)] W fun e W' => e = .returned (.bool true) ∧ Below W.heap.size W W' := by
  have a1 := as_tt s
  unfold bdV
  go_enter Tryz.func208, Tryz.ntmps208
  go_wp2
  go_ret
  exact ⟨rfl, Below.refl _ _⟩
theorem cont_eq : ∀ (l sub : List UInt8), Lib.contains l sub = inL sub l
  | [], sub => by
    cases sub <;> simp [Lib.contains, Lib.index, inL]
  | x :: l, sub => by
    have ih := cont_eq l sub
    unfold Lib.contains at ih ⊢
    unfold Lib.index inL
    rw [← ih]
    by_cases h : sub.isPrefixOf (x :: l) = true
    · simp [h]
    · simp only [h, Bool.false_or]
      by_cases h2 : Lib.index l sub = -1
      · simp [h2]
      · have : -1 ≤ Lib.index l sub := Lib.index_ge l sub
        have e : (Lib.index l sub == -1) = false := by simp [h2]
        simp only [e]
        simp
        omega
theorem txt_7 (c x : Nat) (s t : ByteArray) (W : World) (hs : s.size ≤ 40) (hG : GOk W) (hc : W.cell? ⟨c, 0, none⟩ = some (.func (.func 205) #[] #[.pointer (some ⟨x, 0, none⟩)])) (hx : W.cell? ⟨x, 2, none⟩ = some (.string t)) : Calls Tryz.prog 208 #[bdV (.inr s), .pointer (some ⟨c, 0, none⟩)] W fun e W' => e = .returned (.bool (inL t.toList s.toList)) ∧ Below W.heap.size W W' := by
  have a1 := as_tt s
  obtain ⟨m, hm⟩ := hG
  have HC : ∀ w, w.cell? ⟨0, 0, none⟩ = some (.int .i64 m) → Calls Tryz.prog 206 #[.string s, .string t] w fun e w' => e = .returned (.bool (Lib.contains s.data.toList t.data.toList)) ∧ w' = w := fun w hw => Any.strings_Contains Tryz.lays144 s t m w (by omega) hw
  rw [ByteArray.toList_eq, ByteArray.toList_eq, ← cont_eq]
  have HH := hidOf (HC W hm)
  clear HC
  unfold bdV
  go_enter Tryz.func208, Tryz.ntmps208
  go_wp2_with (first | (go_at_call 206; refine (HH.out).mono ?_; rintro e w1 ⟨rfl, rfl⟩) | go_in)
  all_goals go_ret
  all_goals exact ⟨rfl, Below.refl _ _⟩
theorem txt_6 (c x : Nat) (s t : ByteArray) (W : World) (hc : W.cell? ⟨c, 0, none⟩ = some (.func (.func 203) #[] #[.pointer (some ⟨x, 0, none⟩)])) (hx : W.cell? ⟨x, 2, none⟩ = some (.string t)) : Calls Tryz.prog 208 #[bdV (.inr s), .pointer (some ⟨c, 0, none⟩)] W fun e W' => e = .returned (.bool (begB s t)) ∧ Below W.heap.size W W' := by
  have a1 := as_tt s
  unfold bdV
  go_enter Tryz.func208, Tryz.ntmps208
  go_wp2
  all_goals go_ret
  all_goals refine ⟨rbool ?_, Below.refl _ _⟩
  all_goals first | exact beg_eq s t | exact (beg_no (by assumption)).symm
end Go.Proofs.YtihdglmiecifjaaGreat
