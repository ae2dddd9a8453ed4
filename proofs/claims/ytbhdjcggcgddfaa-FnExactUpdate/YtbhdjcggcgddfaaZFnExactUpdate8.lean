/-
  What a call on a cell holds on to: the argument's variable, the answer's, a copy's.
  Cells: plain mathematics of what is answered.
  Walks of the functions that tell a right message.
  The walk of the function that makes a message's body.
  The walk of the function that makes a message's body: texts, and what is neither.
  Walks: a right message told by the program's own function; what the law's own functions answer.
-/
import Derived.Test.YtbhdjcggcgddfaaZFnExactUpdate3
import Derived.Test.YtbhdjcggcgddfaaZFnExactUpdate7
import Derived.Test.YtbhdjcggcgddfaaRows
import Derived.Test.YtbhdjcggcgddfaaZFnExactUpdate1
import Derived.WalkKit
import Derived.WalkSpells
import Derived.WalkLawsBesides
import Derived.RowKit3
import Derived.Deep.RegionHeld3
import Derived.Deep.RegionWith
namespace Go.Proofs.Ytbhdjcggcgddfaa
open Go.RowKit Pl Il

/-- The argument's variable, the answer's. -/
structure CCtx (w : World) (A : Na) (x : Ct) (u : World) : Prop where
  box0 : CBox w.heap.size A x u
  box1 : CBox (w.heap.size + 1) Na.zero Ct.zero u
  nin : CIn w A x
  below : Below w.heap.size w u
  sz : w.heap.size + 2 ≤ u.heap.size
section
variable {w : World} {A : Na} {x : Ct} {u u' : World}
theorem CCtx.keep {B : Nat} (h : CCtx w A x u) (hb : Below B u u') (hB : w.heap.size + 2 ≤ B) : CCtx w A x u' :=
  ⟨h.box0.below hb (by omega), h.box1.below hb (by omega), h.nin, h.below.trans (hb.mono (by omega)), Nat.le_trans h.sz hb.size⟩
theorem CCtx.kp (h : CCtx w A x u) (hb : Below u.heap.size u u') : CCtx w A x u' := h.keep hb h.sz
theorem CCtx.ninX (h : CCtx w A x u) : CIn u A x := h.nin.keep h.below
theorem cctx_new (hI : CIn w A x) : CCtx w A x ((w.alloc (.cells #[.int .i64 x.kd, .int .i64 x.nu, .string x.tx, .int .i64 x.ve, .bool x.cl, .slice A.a A.n A.c, .slice A.a' A.n' A.c'] 58)).alloc (.cells #[.int .i64 0, .int .i64 0, .string ⟨#[]⟩, .int .i64 0, .bool false, .slice none 0 0, .slice none 0 0] 58)) := by
  have s0 : (w.alloc (.cells #[.int .i64 x.kd, .int .i64 x.nu, .string x.tx, .int .i64 x.ve, .bool x.cl, .slice A.a A.n A.c, .slice A.a' A.n' A.c'] 58)).heap.size = w.heap.size + 1 := by simp
  refine ⟨(CBox.new w A x _).alloc _, by rw [← s0]; exact CBox.newZ _ _, hI, bl_alloc (bl_alloc (Below.refl _ _) _) _, by simp⟩
theorem Rows2.cown {B : Nat} (h : Rows2 B u A x.ln x.gs) (ht : x.tx.size ≤ maxLen) : COwn B u A x := ⟨h.parts.1, h.parts.2.1, h.parts.2.2, ht⟩
theorem cst_fin {A' : Na} {y : Ct} (hC : CCtx w A x u) (hR : Rows2 (w.heap.size + 2) u A' y.ln y.gs) (ht : y.tx.size ≤ maxLen) :
    COwn w.heap.size (((((((u.setCell ⟨w.heap.size + 1, 0, none⟩ (.int .i64 y.kd)).setCell ⟨w.heap.size + 1, 1, none⟩ (.int .i64 y.nu)).setCell ⟨w.heap.size + 1, 2, none⟩ (.string y.tx)).setCell ⟨w.heap.size + 1, 3, none⟩ (.int .i64 y.ve)).setCell ⟨w.heap.size + 1, 4, none⟩ (.bool y.cl)).setCell ⟨w.heap.size + 1, 5, none⟩ (.slice A'.a A'.n A'.c)).setCell ⟨w.heap.size + 1, 6, none⟩ (.slice A'.a' A'.n' A'.c')) A' y ∧ A'.ok ∧ Below w.heap.size w (((((((u.setCell ⟨w.heap.size + 1, 0, none⟩ (.int .i64 y.kd)).setCell ⟨w.heap.size + 1, 1, none⟩ (.int .i64 y.nu)).setCell ⟨w.heap.size + 1, 2, none⟩ (.string y.tx)).setCell ⟨w.heap.size + 1, 3, none⟩ (.int .i64 y.ve)).setCell ⟨w.heap.size + 1, 4, none⟩ (.bool y.cl)).setCell ⟨w.heap.size + 1, 5, none⟩ (.slice A'.a A'.n A'.c)).setCell ⟨w.heap.size + 1, 6, none⟩ (.slice A'.a' A'.n' A'.c')) :=
  ⟨((hR.cown ht).farA (w.heap.size + 1) (by omega) _ _ _ _ _ _ _).mono (by omega), hR.ok, bl_sC hC.below (w.heap.size + 1) (by omega) _ _ _ _ _ _ _⟩
theorem cst_finT {A' : Na} {y : Ct} {a : Option Addr} {m : Nat} {l : List Int} (hC : CCtx w A x u) (hR : Rows2 (w.heap.size + 2) u A' y.ln y.gs) (ht : y.tx.size ≤ maxLen) (hL : Il.OwnAt (w.heap.size + 2) u a m l) :
    COwn w.heap.size (((((((u.setCell ⟨w.heap.size + 1, 0, none⟩ (.int .i64 y.kd)).setCell ⟨w.heap.size + 1, 1, none⟩ (.int .i64 y.nu)).setCell ⟨w.heap.size + 1, 2, none⟩ (.string y.tx)).setCell ⟨w.heap.size + 1, 3, none⟩ (.int .i64 y.ve)).setCell ⟨w.heap.size + 1, 4, none⟩ (.bool y.cl)).setCell ⟨w.heap.size + 1, 5, none⟩ (.slice A'.a A'.n A'.c)).setCell ⟨w.heap.size + 1, 6, none⟩ (.slice A'.a' A'.n' A'.c')) A' y ∧ A'.ok ∧ Il.OwnAt w.heap.size (((((((u.setCell ⟨w.heap.size + 1, 0, none⟩ (.int .i64 y.kd)).setCell ⟨w.heap.size + 1, 1, none⟩ (.int .i64 y.nu)).setCell ⟨w.heap.size + 1, 2, none⟩ (.string y.tx)).setCell ⟨w.heap.size + 1, 3, none⟩ (.int .i64 y.ve)).setCell ⟨w.heap.size + 1, 4, none⟩ (.bool y.cl)).setCell ⟨w.heap.size + 1, 5, none⟩ (.slice A'.a A'.n A'.c)).setCell ⟨w.heap.size + 1, 6, none⟩ (.slice A'.a' A'.n' A'.c')) a m l ∧ Below w.heap.size w (((((((u.setCell ⟨w.heap.size + 1, 0, none⟩ (.int .i64 y.kd)).setCell ⟨w.heap.size + 1, 1, none⟩ (.int .i64 y.nu)).setCell ⟨w.heap.size + 1, 2, none⟩ (.string y.tx)).setCell ⟨w.heap.size + 1, 3, none⟩ (.int .i64 y.ve)).setCell ⟨w.heap.size + 1, 4, none⟩ (.bool y.cl)).setCell ⟨w.heap.size + 1, 5, none⟩ (.slice A'.a A'.n A'.c)).setCell ⟨w.heap.size + 1, 6, none⟩ (.slice A'.a' A'.n' A'.c')) :=
  ⟨(cst_fin hC hR ht).1, hR.ok, ((((((((hL.far (w.heap.size + 1) 0 (by omega) _).far (w.heap.size + 1) 1 (by omega) _).far (w.heap.size + 1) 2 (by omega) _).far (w.heap.size + 1) 3 (by omega) _).far (w.heap.size + 1) 4 (by omega) _).far (w.heap.size + 1) 5 (by omega) _).far (w.heap.size + 1) 6 (by omega) _).mono (by omega)), bl_sC hC.below (w.heap.size + 1) (by omega) _ _ _ _ _ _ _⟩
end
/-- A copy in a variable of its own. -/
structure CSt (B N : Nat) (A : Na) (x : Ct) (w : World) : Prop where
  box : CBox N A x w
  ge : B ≤ N
  rows : Rows2 B w A x.ln x.gs
  ne1 : (Value.slice A.a A.n A.c).ownBlock ≠ some N
  ne2 : (Value.slice A.a' A.n' A.c').ownBlock ≠ some N
theorem cst_new {B : Nat} {A : Na} {x : Ct} {w : World} (h : Rows2 B w A x.ln x.gs) (hB : B ≤ w.heap.size) : CSt B w.heap.size A x (w.alloc (.cells #[.int .i64 x.kd, .int .i64 x.nu, .string x.tx, .int .i64 x.ve, .bool x.cl, .slice A.a A.n A.c, .slice A.a' A.n' A.c'] 58)) :=
  ⟨CBox.new w A x _, hB, h.keep (bl_alloc (Below.refl _ _) _), fun e => Nat.lt_irrefl _ (h.one.lt _ e).2, fun e => Nat.lt_irrefl _ (h.two.lt _ e).2⟩
section
variable {B N : Nat} {A : Na} {x y : Ct} {w u : World}
theorem CSt.keep (h : CSt B N A x w) (hb : Below w.heap.size w u) : CSt B N A x u := ⟨h.box.keep hb, h.ge, h.rows.keep hb, h.ne1, h.ne2⟩
theorem CSt.setc (h : CSt B N A x w) (o : Nat) (v : Value) (hb : CBox N A y (w.setCell ⟨N, o, none⟩ v)) (h1 : y.ln = x.ln) (h2 : y.gs = x.gs) : CSt B N A y (w.setCell ⟨N, o, none⟩ v) :=
  ⟨hb, h.ge, by rw [h1, h2]; exact h.rows.set N o h.ne1 h.ne2 v, h.ne1, h.ne2⟩
theorem CSt.line {a : Option Addr} {n c : Nat} {xs : List Int} (h : CSt B N A x w) (hr : w.ownsRow B 3 1 (.slice a n c) n (intsV xs)) (h1 : (Value.slice a n c).ownBlock ≠ some N) (h2 : ∀ q, (Value.slice a n c).ownBlock = some q → (Value.slice A.a' A.n' A.c').ownBlock ≠ some q) :
    CSt B N { A with a := a, n := n, c := c } { x with ln := xs } (w.setCell ⟨N, 5, none⟩ (.slice a n c)) :=
  ⟨h.box.set5.lists xs x.gs, h.ge, ⟨row_set hr N _ h1 _, row_set h.rows.two N _ h.ne2 _, h2⟩, h1, h.ne2⟩
theorem CSt.told {a : Option Addr} {n c : Nat} {xs : List Int} (h : CSt B N A x w) (hr : w.ownsRow B 3 1 (.slice a n c) n (intsV xs)) (h1 : (Value.slice a n c).ownBlock ≠ some N) (h2 : ∀ q, (Value.slice A.a A.n A.c).ownBlock = some q → (Value.slice a n c).ownBlock ≠ some q) :
    CSt B N { A with a' := a, n' := n, c' := c } { x with gs := xs } (w.setCell ⟨N, 6, none⟩ (.slice a n c)) :=
  ⟨h.box.set6.lists x.ln xs, h.ge, ⟨row_set h.rows.one N _ h.ne1 _, row_set hr N _ h1 _, h2⟩, h.ne1, h1⟩
end
end Go.Proofs.Ytbhdjcggcgddfaa
namespace Go.Proofs.Ytbhdjcggcgddfaa
open Go.RowKit Pl Il

/-- A right cell. -/
def okC (x : Ct) : Bool := okB x.kd x.nu x.tx && cnt x.ve && waitL x.ln x.gs && !(x.cl && decide (0 < x.ln.length))
theorem okC_parts {x : Ct} (h : okC x = true) : okB x.kd x.nu x.tx = true ∧ (0 ≤ x.ve ∧ x.ve ≤ 1000000000) ∧ lineL x.ln = true ∧ lineL x.gs = true ∧ (x.cl = true → x.ln = []) := by
  simp only [okC, Bool.and_eq_true, waitL] at h
  obtain ⟨⟨⟨h1, h2⟩, ⟨h3, h4⟩, _⟩, h5⟩ := h
  refine ⟨h1, cnt_bd'' h2, h3, h4, fun e => ?_⟩
  rw [e] at h5
  simp at h5
  exact h5
def watchM (x : Ct) (who seen : Int) : Ct × Int :=
  if okC x = false ∨ clientL who = false then (x, 1) else if hasL x.ln who = true ∨ hasL x.gs who = true then (x, 5) else if seen < x.ve then (x, 0) else if x.cl = true then (x, 6) else if x.ln.length = 32 then (x, 2) else ({ x with ln := x.ln ++ [who] }, 4)
def unwatchM (x : Ct) (who : Int) : Ct × Int :=
  if okC x = false then (x, 1) else if hasL x.ln who = false ∧ hasL x.gs who = false then (x, 3) else ({ x with ln := lessL x.ln who, gs := lessL x.gs who }, 0)
theorem watch_len (x : Ct) (y z : Int) : (watchM x y z).1.ln.length ≤ x.ln.length + x.gs.length + 1 ∧ (watchM x y z).1.gs.length ≤ x.ln.length + x.gs.length + 1 := by
  unfold watchM
  repeat' split
  all_goals first | (simp; omega) | (simp; done)
theorem unwatch_len (x : Ct) (y : Int) : (unwatchM x y).1.ln.length ≤ x.ln.length + x.gs.length + 1 ∧ (unwatchM x y).1.gs.length ≤ x.ln.length + x.gs.length + 1 := by
  have h1 : (lessL x.gs y).length ≤ x.gs.length := by unfold lessL; exact List.length_erase_le
  have h2 : (lessL x.ln y).length ≤ x.ln.length := by unfold lessL; exact List.length_erase_le
  unfold unwatchM
  repeat' split
  all_goals (constructor <;> dsimp only <;> omega)
end Go.Proofs.Ytbhdjcggcgddfaa
namespace Go.Proofs.Ytbhdjcggcgddfaa
open Go.RowKit Pl

theorem l1Plain_any (s : ByteArray) (w : World) (hs : s.size ≤ maxLen) :
    Calls Try.prog 159 #[.string s] w fun e w' => e = .returned (.bool (plainB s)) ∧ w' = w := by
  unfold maxLen at hs
  go_enter Try.func159, Try.ntmps159
  go_wp2
  · go_ret
    exact ⟨ret_bool (plain_long s (by assumption)).symm, rfl⟩
  go_loop [3] (fun i => ∃ k : Nat, k ≤ s.size ∧ i = .int .i64 k ∧ plainL (s.data.toList.take k) = true) (fun i => s.size - (intOf i).toNat)
  case atStart => exact ⟨0, Nat.zero_le _, rfl, rfl⟩
  case round =>
    obtain ⟨k, hk, rfl, hp⟩ := hrel
    by_cases hlt : k < s.size
    · go_wp2
      all_goals first
        | (go_ret; exact ⟨ret_bool (plain_bad s k hlt (good_no _ (by (try simp only [beq_iff_eq] at *); omega))).symm, rfl⟩)
        | (go_round
           case rel => exact ⟨k + 1, by omega, by go_num, plain_step s k hlt hp (good_yes _ (by omega) (by omega) (by (try simp only [beq_eq_false_iff_ne] at *); omega))⟩
           case measure => simp [intOf]; omega)
    · go_wp2
      go_ret
      exact ⟨ret_bool (plain_all s k (by omega) (by omega) hp).symm, rfl⟩

theorem right_text (s : ByteArray) (w : World) (hs : s.size ≤ maxLen) :
    Calls Try.prog 207 #[.string s] w fun e w' => e = .returned (.bool (plainB s)) ∧ w' = w := by
  unfold maxLen at hs
  go_enter Try.func207, Try.ntmps207
  go_wp2
  · go_ret
    exact ⟨ret_bool (plain_long s (by assumption)).symm, rfl⟩
  go_loop [3] (fun i => ∃ k : Nat, k ≤ s.size ∧ i = .int .i64 k ∧ plainL (s.data.toList.take k) = true) (fun i => s.size - (intOf i).toNat)
  case atStart => exact ⟨0, Nat.zero_le _, rfl, rfl⟩
  case round =>
    obtain ⟨k, hk, rfl, hp⟩ := hrel
    by_cases hlt : k < s.size
    · go_wp2
      all_goals first
        | (go_ret; exact ⟨ret_bool (plain_bad s k hlt (good_no _ (by (try simp only [beq_iff_eq] at *); omega))).symm, rfl⟩)
        | (go_round
           case rel => exact ⟨k + 1, by omega, by go_num, plain_step s k hlt hp (good_yes _ (by omega) (by omega) (by (try simp only [beq_eq_false_iff_ne] at *); omega))⟩
           case measure => simp [intOf]; omega)
    · go_wp2
      go_ret
      exact ⟨ret_bool (plain_all s k (by omega) (by omega) hp).symm, rfl⟩

theorem right_num (n : Int) (w : World) :
    Calls Try.prog 204 #[.int .i64 n] w fun e w' => e = .returned (.bool (okNum n)) ∧ w' = w := by
  go_enter Try.func204, Try.ntmps204
  go_wp2
  all_goals go_ret
  all_goals (refine ⟨ret_bool ?_, rfl⟩; simp [okNum]; try omega)

theorem l1In_any (n a b : Int) (w : World) :
    Calls Try.prog 99 #[.int .i64 n, .int .i64 a, .int .i64 b] w fun e w' => e = .returned (.bool (decide (a ≤ n) && decide (n ≤ b))) ∧ w' = w := by
  go_enter Try.func99, Try.ntmps99
  go_wp2
  all_goals go_ret
  all_goals (refine ⟨ret_bool ?_, rfl⟩; simp; try omega)

theorem msg_num (n : Int) (w : World) :
    Calls Try.prog 203 #[.int .i64 n] w fun e w' => e = .returned (.agg #[.int .i64 1, .int .i64 n, .string ⟨#[]⟩]) ∧ w' = w.alloc (.cells #[.int .i64 1, .int .i64 n, .string ⟨#[]⟩] 55) := by
  go_enter Try.func203, Try.ntmps203
  go_wp2
  refine bodyPost_ret (v := .agg #[.int .i64 1, .int .i64 n, .string ⟨#[]⟩]) (by simp [results, Try.results203, go_sem]) rfl ⟨rfl, ?_⟩
  rfl

theorem msg_text (s : ByteArray) (w : World) :
    Calls Try.prog 206 #[.string s] w fun e w' => e = .returned (.agg #[.int .i64 2, .int .i64 0, .string s]) ∧ w' = w.alloc (.cells #[.int .i64 2, .int .i64 0, .string s] 55) := by
  go_enter Try.func206, Try.ntmps206
  go_wp2
  refine bodyPost_ret (v := .agg #[.int .i64 2, .int .i64 0, .string s]) (by simp [results, Try.results206, go_sem]) rfl ⟨rfl, ?_⟩
  rfl

theorem specMsgOk_any (k n : Int) (s : ByteArray) (w : World) (hs : s.size ≤ maxLen) :
    Calls Try.prog 118 #[.agg #[.int .i64 k, .int .i64 n, .string s]] w fun e w' => e = .returned (.bool (okB k n s)) ∧ Below w.heap.size w w' := by
  go_enter Try.func118, Try.ntmps118
  go_wp2_with (first | (go_at_call 99; refine (l1In_any _ _ _ _).mono ?_; rintro e w' ⟨rfl, rfl⟩) | (go_at_call 159; refine (l1Plain_any _ _ hs).mono ?_; rintro e w' ⟨rfl, rfl⟩))
  · go_ret
    exact ⟨ret_bool (ok_num (by assumption) (by assumption)).symm, bl_alloc (Below.refl _ _) _⟩
  · go_ret
    exact ⟨ret_bool (ok_numNo (by assumption) (by assumption)).symm, bl_alloc (Below.refl _ _) _⟩
  · have hn : n = 0 := by assumption
    subst hn
    go_ret
    exact ⟨ret_bool (ok_text (by assumption) (by assumption)).symm, bl_alloc (Below.refl _ _) _⟩
  · go_ret
    exact ⟨ret_bool (ok_textNo (by assumption) (by assumption) (by assumption)).symm, bl_alloc (Below.refl _ _) _⟩
  · go_ret
    exact ⟨ret_bool (ok_none (by assumption) (by assumption)).symm, bl_alloc (Below.refl _ _) _⟩

end Go.Proofs.Ytbhdjcggcgddfaa
namespace Go.Proofs.Ytbhdjcggcgddfaa
open Go.RowKit Pl

theorem meth_msg_num (n : Int) (w : World) : (method 338 214 (.int .i64 n) "loop.example/g00098/impl.msg").run Try.prog w = .ok (203, .int .i64 n) w := by kernel_rfl
theorem meth_right_num (n : Int) (w : World) : (method 338 214 (.int .i64 n) "loop.example/g00098/impl.right").run Try.prog w = .ok (204, .int .i64 n) w := by kernel_rfl
theorem meth_msg_text (s : ByteArray) (w : World) : (method 338 215 (.string s) "loop.example/g00098/impl.msg").run Try.prog w = .ok (206, .string s) w := by kernel_rfl
theorem meth_right_text (s : ByteArray) (w : World) : (method 338 215 (.string s) "loop.example/g00098/impl.right").run Try.prog w = .ok (207, .string s) w := by kernel_rfl

def yes (t : TypeId) (v : Value) : Ending := .returned (.tuple #[.iface t v, .bool true])
def no : Ending := .returned (.tuple #[.nilIface, .bool false])

theorem body_num_yes (n : Int) (s : ByteArray) (w : World) (hs : s.toList = []) (hn : okNum n = true) :
    Calls Try.prog 155 #[.agg #[.int .i64 1, .int .i64 n, .string s]] w fun e w' => e = yes 214 (.int .i64 n) ∧ Below w.heap.size w w' := by
  have m1 := meth_msg_num n
  have m2 := meth_right_num n
  go_enter Try.func155, Try.ntmps155
  go_wp2_with fail
  first | (go_region_with (first | (go_at_call 203; refine (msg_num _ _).mono ?_; rintro e w' ⟨rfl, rfl⟩) | (go_at_call 204; refine (right_num _ _).mono ?_; rintro e w' ⟨rfl, rfl⟩))) | fail
  all_goals
    go_wp2
    go_ret2
    exact ⟨rfl, by repeat (first | exact Below.refl _ _ | apply Below.drew | apply bl_alloc)⟩

theorem body_num_no (n : Int) (s : ByteArray) (w : World) (hs : s.toList = []) (hn : okNum n = false) :
    Calls Try.prog 155 #[.agg #[.int .i64 1, .int .i64 n, .string s]] w fun e w' => e = no ∧ Below w.heap.size w w' := by
  have m1 := meth_msg_num n
  have m2 := meth_right_num n
  go_enter Try.func155, Try.ntmps155
  go_wp2_with fail
  first | (go_region_with (first | (go_at_call 203; refine (msg_num _ _).mono ?_; rintro e w' ⟨rfl, rfl⟩) | (go_at_call 204; refine (right_num _ _).mono ?_; rintro e w' ⟨rfl, rfl⟩))) | fail
  all_goals
    go_wp2
    go_ret2
    exact ⟨rfl, by repeat (first | exact Below.refl _ _ | apply Below.drew | apply bl_alloc)⟩

theorem body_num_not (n : Int) (s : ByteArray) (w : World) (hs : ¬ s.toList = []) :
    Calls Try.prog 155 #[.agg #[.int .i64 1, .int .i64 n, .string s]] w fun e w' => e = no ∧ Below w.heap.size w w' := by
  have m1 := meth_msg_num n
  have m2 := meth_right_num n
  go_enter Try.func155, Try.ntmps155
  go_wp2_with fail
  first | (go_region_with (first | (go_at_call 203; refine (msg_num _ _).mono ?_; rintro e w' ⟨rfl, rfl⟩) | (go_at_call 204; refine (right_num _ _).mono ?_; rintro e w' ⟨rfl, rfl⟩))) | fail
  all_goals
    go_wp2
    go_ret2
    exact ⟨rfl, by repeat (first | exact Below.refl _ _ | apply Below.drew | apply bl_alloc)⟩
end Go.Proofs.Ytbhdjcggcgddfaa
namespace Go.Proofs.Ytbhdjcggcgddfaa
open Go.RowKit Pl

theorem body_text_yes (s : ByteArray) (w : World) (hm : s.size ≤ maxLen) (hn : plainB s = true) :
    Calls Try.prog 155 #[.agg #[.int .i64 2, .int .i64 0, .string s]] w fun e w' => e = yes 215 (.string s) ∧ Below w.heap.size w w' := by
  have m1 := meth_msg_text s
  have m2 := meth_right_text s
  go_enter Try.func155, Try.ntmps155
  go_wp2_with fail
  first | (go_region_with (first | (go_at_call 206; refine (msg_text _ _).mono ?_; rintro e w' ⟨rfl, rfl⟩) | (go_at_call 207; refine (right_text _ _ hm).mono ?_; rintro e w' ⟨rfl, rfl⟩))) | fail
  all_goals
    go_wp2
    go_ret2
    exact ⟨rfl, by repeat (first | exact Below.refl _ _ | apply Below.drew | apply bl_alloc)⟩

theorem body_text_no (s : ByteArray) (w : World) (hm : s.size ≤ maxLen) (hn : plainB s = false) :
    Calls Try.prog 155 #[.agg #[.int .i64 2, .int .i64 0, .string s]] w fun e w' => e = no ∧ Below w.heap.size w w' := by
  have m1 := meth_msg_text s
  have m2 := meth_right_text s
  go_enter Try.func155, Try.ntmps155
  go_wp2_with fail
  first | (go_region_with (first | (go_at_call 206; refine (msg_text _ _).mono ?_; rintro e w' ⟨rfl, rfl⟩) | (go_at_call 207; refine (right_text _ _ hm).mono ?_; rintro e w' ⟨rfl, rfl⟩))) | fail
  all_goals
    go_wp2
    go_ret2
    exact ⟨rfl, by repeat (first | exact Below.refl _ _ | apply Below.drew | apply bl_alloc)⟩

theorem body_text_not (n : Int) (s : ByteArray) (w : World) (hn : ¬ n = 0) :
    Calls Try.prog 155 #[.agg #[.int .i64 2, .int .i64 n, .string s]] w fun e w' => e = no ∧ Below w.heap.size w w' := by
  have m1 := meth_msg_text s
  have m2 := meth_right_text s
  have hb : ((0 : Int) == n) = false := by simp; omega
  go_enter Try.func155, Try.ntmps155
  go_wp2_with fail
  first | (go_region_with (first | (go_at_call 206; refine (msg_text _ _).mono ?_; rintro e w' ⟨rfl, rfl⟩))) | fail
  all_goals
    go_wp2
    go_ret2
    exact ⟨rfl, by repeat (first | exact Below.refl _ _ | apply Below.drew | apply bl_alloc)⟩

theorem body_none (k n : Int) (s : ByteArray) (w : World) (h1 : (k == 1) = false) (h2 : (k == 2) = false) :
    Calls Try.prog 155 #[.agg #[.int .i64 k, .int .i64 n, .string s]] w fun e w' => e = no ∧ Below w.heap.size w w' := by
  go_enter Try.func155, Try.ntmps155
  go_wp2
  go_ret2
  exact ⟨rfl, bl_alloc (Below.refl _ _) _⟩
end Go.Proofs.Ytbhdjcggcgddfaa
namespace Go.Proofs.Ytbhdjcggcgddfaa
open Go.RowKit Pl

def tyOf (k : Int) : TypeId := if k = 1 then 214 else 215
def valOf (k n : Int) (s : ByteArray) : Value := if k = 1 then .int .i64 n else .string s

theorem body_any (k n : Int) (s : ByteArray) (w : World) (hm : s.size ≤ maxLen) :
    Calls Try.prog 155 #[.agg #[.int .i64 k, .int .i64 n, .string s]] w fun e w' =>
      (okB k n s = true ∧ e = yes (tyOf k) (valOf k n s) ∨ okB k n s = false ∧ e = no) ∧ Below w.heap.size w w' := by
  by_cases h1 : k = 1
  · subst h1
    by_cases hs : s.toList = []
    · cases ho : okNum n
      · exact (body_num_no n s w hs ho).mono fun e w' ⟨he, hb⟩ => ⟨.inr ⟨by simp [okB, hs, ho], he⟩, hb⟩
      · exact (body_num_yes n s w hs ho).mono fun e w' ⟨he, hb⟩ => ⟨.inl ⟨by simp [okB, hs, ho], he⟩, hb⟩
    · exact (body_num_not n s w hs).mono fun e w' ⟨he, hb⟩ => ⟨.inr ⟨by simp [okB, hs], he⟩, hb⟩
  · by_cases h2 : k = 2
    · subst h2
      by_cases hn : n = 0
      · subst hn
        cases ho : plainB s
        · exact (body_text_no s w hm ho).mono fun e w' ⟨he, hb⟩ => ⟨.inr ⟨by simp [okB, ho], he⟩, hb⟩
        · exact (body_text_yes s w hm ho).mono fun e w' ⟨he, hb⟩ => ⟨.inl ⟨by simp [okB, ho], he⟩, hb⟩
      · exact (body_text_not n s w hn).mono fun e w' ⟨he, hb⟩ => ⟨.inr ⟨by simp [okB, hn], he⟩, hb⟩
    · exact (body_none k n s w (by simp [h1]) (by simp [h2])).mono fun e w' ⟨he, hb⟩ => ⟨.inr ⟨by simp [okB, h1, h2], he⟩, hb⟩

theorem implMsgOk_any (k n : Int) (s : ByteArray) (w : World) (hm : s.size ≤ maxLen) :
    Calls Try.prog 154 #[.agg #[.int .i64 k, .int .i64 n, .string s]] w fun e w' => e = .returned (.bool (okB k n s)) ∧ Below w.heap.size w w' := by
  go_enter Try.func154, Try.ntmps154
  go_wp2_with fail
  refine (body_any k n s _ hm).mono ?_
  rintro e w' ⟨⟨ho, rfl⟩ | ⟨ho, rfl⟩, hb⟩
  · unfold yes
    have hb' := bl_trans (bl_alloc (Below.refl _ _) _) hb
    go_wp2
    go_ret
    exact ⟨ret_bool ho.symm, hb'⟩
  · unfold no
    have hb' := bl_trans (bl_alloc (Below.refl _ _) _) hb
    go_wp2
    go_ret
    exact ⟨ret_bool ho.symm, hb'⟩

theorem szMsg_no (k n l : Int) (s : ByteArray) (w : World) (hm : s.size ≤ maxLen) (_h0 : 0 ≤ l) (_h1 : l ≤ 1048576) (hl : l < s.size) :
    Calls Try.prog 128 #[.agg #[.int .i64 k, .int .i64 n, .string s], .int .i64 l] w fun e w' => e = .returned (.int .i64 (-1)) ∧ Below w.heap.size w w' := by
  unfold maxLen at hm
  go_enter Try.func128, Try.ntmps128
  go_wp2
  all_goals go_ret
  exact ⟨rfl, bl_alloc (Below.refl _ _) _⟩
theorem szMsg_yes (k n l : Int) (s : ByteArray) (w : World) (hm : s.size ≤ maxLen) (_h0 : 0 ≤ l) (_h1 : l ≤ 1048576) (hl : (s.size : Int) ≤ l) :
    Calls Try.prog 128 #[.agg #[.int .i64 k, .int .i64 n, .string s], .int .i64 l] w fun e w' => e = .returned (.int .i64 (l - s.size)) ∧ Below w.heap.size w w' := by
  unfold maxLen at hm
  go_enter Try.func128, Try.ntmps128
  go_wp2
  all_goals go_ret
  exact ⟨rfl, bl_alloc (Below.refl _ _) _⟩
theorem szMsg_any (k n l : Int) (s : ByteArray) (w : World) (hm : s.size ≤ maxLen) (h0 : 0 ≤ l) (h1 : l ≤ 1048576) :
    Calls Try.prog 128 #[.agg #[.int .i64 k, .int .i64 n, .string s], .int .i64 l] w fun e w' =>
      ((l < s.size ∧ e = .returned (.int .i64 (-1))) ∨ ((s.size : Int) ≤ l ∧ e = .returned (.int .i64 (l - s.size)))) ∧ Below w.heap.size w w' := by
  by_cases hl : l < s.size
  · exact (szMsg_no k n l s w hm h0 h1 hl).mono fun e w' ⟨he, hb⟩ => ⟨.inl ⟨hl, he⟩, hb⟩
  · exact (szMsg_yes k n l s w hm h0 h1 (by omega)).mono fun e w' ⟨he, hb⟩ => ⟨.inr ⟨by omega, he⟩, hb⟩

theorem toMsg_any (k n : Int) (s : ByteArray) (w : World) :
    Calls Try.prog 132 #[.agg #[.int .i64 k, .int .i64 n, .string s]] w fun e w' => e = .returned (.agg #[.int .i64 k, .int .i64 n, .string s]) ∧ Below w.heap.size w w' := by
  go_enter Try.func132, Try.ntmps132
  go_wp2
  refine bodyPost_ret (v := .agg #[.int .i64 k, .int .i64 n, .string s]) (by simp [results, Try.results132, go_sem]) rfl ⟨rfl, ?_⟩
  repeat (first | exact Below.refl _ _ | apply Below.drew | apply bl_alloc)
end Go.Proofs.Ytbhdjcggcgddfaa
