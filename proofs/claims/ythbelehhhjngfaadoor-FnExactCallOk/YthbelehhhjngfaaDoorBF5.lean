/-
  The program's terms that take nothing: which function value a term is compiled to.
-/
import Derived.Test.YthbelehhhjngfaaDoorBF4
namespace Go.Proofs.YthbelehhhjngfaaDoor
open Go.RowKit Pl Il

theorem ofNumber_any (k : Nat) (caps : Array Value) (u : World) : Calls Tryd.prog 53 #[.func (.func k) #[] caps] u fun e u' => e = .returned (.func (.func 66) #[] #[.pointer (some ⟨u.heap.size, 0, none⟩)]) ∧ u' = u.alloc (.cells #[.func (.func k) #[] caps] 38) := by
  go_enter Tryd.func53, Tryd.ntmps53
  go_wp2
  go_ret
  exact ⟨rfl, rfl⟩
theorem ofText_any (k : Nat) (caps : Array Value) (u : World) : Calls Tryd.prog 55 #[.func (.func k) #[] caps] u fun e u' => e = .returned (.func (.func 67) #[] #[.pointer (some ⟨u.heap.size, 0, none⟩)]) ∧ u' = u.alloc (.cells #[.func (.func k) #[] caps] 41) := by
  go_enter Tryd.func55, Tryd.ntmps55
  go_wp2
  go_ret
  exact ⟨rfl, rfl⟩
def tmO (op n : Int) (s : ByteArray) : Obj := .cells #[.int .i64 op, .int .i64 n, .string s] 56
theorem testOf_1 (n : Int) (s : ByteArray) (u : World) : Calls Tryd.prog 51 #[.agg #[.int .i64 1, .int .i64 n, .string s]] u fun e u' => e = .returned (.func (.func 40) #[] #[]) ∧ u' = u.alloc (tmO 1 n s) := by
  go_enter Tryd.func51, Tryd.ntmps51
  go_wp2
  go_ret
  exact ⟨rfl, rfl⟩
theorem testOf_2 (n : Int) (s : ByteArray) (u : World) : Calls Tryd.prog 51 #[.agg #[.int .i64 2, .int .i64 n, .string s]] u fun e u' => e = .returned (.func (.func 66) #[] #[.pointer (some ⟨u.heap.size + 1, 0, none⟩)]) ∧ u' = (u.alloc (tmO 2 n s)).alloc (.cells #[.func (.func 54) #[] #[]] 38) := by
  go_enter Tryd.func51, Tryd.ntmps51
  go_wp2_with fail
  refine (ofNumber_any _ _ _).mono ?_
  rintro e w1 ⟨rfl, rfl⟩
  go_wp2
  go_ret
  exact ⟨by simp, rfl⟩
theorem testOf_3 (n : Int) (s : ByteArray) (u : World) : Calls Tryd.prog 51 #[.agg #[.int .i64 3, .int .i64 n, .string s]] u fun e u' => e = .returned (.func (.func 67) #[] #[.pointer (some ⟨u.heap.size + 1, 0, none⟩)]) ∧ u' = (u.alloc (tmO 3 n s)).alloc (.cells #[.func (.func 56) #[] #[]] 41) := by
  go_enter Tryd.func51, Tryd.ntmps51
  go_wp2_with fail
  refine (ofText_any _ _ _).mono ?_
  rintro e w1 ⟨rfl, rfl⟩
  go_wp2
  go_ret
  exact ⟨by simp, rfl⟩
theorem testOf_4 (n : Int) (s : ByteArray) (u : World) : Calls Tryd.prog 51 #[.agg #[.int .i64 4, .int .i64 n, .string s]] u fun e u' => e = .returned (.func (.func 66) #[] #[.pointer (some ⟨u.heap.size + 1, 0, none⟩)]) ∧ u' = (u.alloc (tmO 4 n s)).alloc (.cells #[.func (.func 57) #[] #[.pointer (some ⟨u.heap.size, 0, none⟩)]] 38) := by
  go_enter Tryd.func51, Tryd.ntmps51
  go_wp2_with fail
  refine (ofNumber_any _ _ _).mono ?_
  rintro e w1 ⟨rfl, rfl⟩
  go_wp2
  go_ret
  exact ⟨by simp, rfl⟩
theorem testOf_5 (n : Int) (s : ByteArray) (u : World) : Calls Tryd.prog 51 #[.agg #[.int .i64 5, .int .i64 n, .string s]] u fun e u' => e = .returned (.func (.func 66) #[] #[.pointer (some ⟨u.heap.size + 1, 0, none⟩)]) ∧ u' = (u.alloc (tmO 5 n s)).alloc (.cells #[.func (.func 58) #[] #[.pointer (some ⟨u.heap.size, 0, none⟩)]] 38) := by
  go_enter Tryd.func51, Tryd.ntmps51
  go_wp2_with fail
  refine (ofNumber_any _ _ _).mono ?_
  rintro e w1 ⟨rfl, rfl⟩
  go_wp2
  go_ret
  exact ⟨by simp, rfl⟩
theorem testOf_6 (n : Int) (s : ByteArray) (u : World) : Calls Tryd.prog 51 #[.agg #[.int .i64 6, .int .i64 n, .string s]] u fun e u' => e = .returned (.func (.func 67) #[] #[.pointer (some ⟨u.heap.size + 1, 0, none⟩)]) ∧ u' = (u.alloc (tmO 6 n s)).alloc (.cells #[.func (.func 59) #[] #[.pointer (some ⟨u.heap.size, 0, none⟩)]] 41) := by
  go_enter Tryd.func51, Tryd.ntmps51
  go_wp2_with fail
  refine (ofText_any _ _ _).mono ?_
  rintro e w1 ⟨rfl, rfl⟩
  go_wp2
  go_ret
  exact ⟨by simp, rfl⟩
theorem testOf_7 (n : Int) (s : ByteArray) (u : World) : Calls Tryd.prog 51 #[.agg #[.int .i64 7, .int .i64 n, .string s]] u fun e u' => e = .returned (.func (.func 67) #[] #[.pointer (some ⟨u.heap.size + 1, 0, none⟩)]) ∧ u' = (u.alloc (tmO 7 n s)).alloc (.cells #[.func (.func 61) #[] #[.pointer (some ⟨u.heap.size, 0, none⟩)]] 41) := by
  go_enter Tryd.func51, Tryd.ntmps51
  go_wp2_with fail
  refine (ofText_any _ _ _).mono ?_
  rintro e w1 ⟨rfl, rfl⟩
  go_wp2
  go_ret
  exact ⟨by simp, rfl⟩
theorem leaf_ops {t : Tm} (h : okTm t = true) (hc : cntM t.1 = 0) : t.1 = 1 ∨ t.1 = 2 ∨ t.1 = 3 ∨ t.1 = 4 ∨ t.1 = 5 ∨ t.1 = 6 ∨ t.1 = 7 := by
  unfold okTm at h
  unfold cntM at hc
  split at hc
  · cases hc
  · split at hc
    · cases hc
    · split at h
      · omega
      · split at h
        · omega
        · split at h
          · omega
          · split at h
            · omega
            · cases h
/-- The weak relation: a function value, whatever it does. -/
def AnyFn (F : List Nat) (u : World) (v : Value) (_ : Pd) : Prop := IsFn v ∧ ∀ j, j ∈ F → j < u.heap.size
theorem anySys : Sys AnyFn where
  isfn := fun h => h.1
  frame := fun h hs _ => ⟨h.1, fun j hj => Nat.lt_of_lt_of_le (h.2 j hj) hs⟩
  lt := fun h => h.2
  all := fun _ => ⟨⟨_, _, rfl⟩, fun j hj => by cases hj⟩
  leaf := fun t u hok hc _ => by
    obtain ⟨op, n, s⟩ := t
    have h := leaf_ops hok hc
    simp only at h ⊢
    rcases h with rfl | rfl | rfl | rfl | rfl | rfl | rfl
    · exact (testOf_1 n s u).mono fun e u' ⟨he, hu⟩ => ⟨_, [], he, ⟨⟨_, _, rfl⟩, fun j hj => (by cases hj)⟩, fun j hj => (by cases hj), hu ▸ bl_alloc (Below.refl _ _) _⟩
    · exact (testOf_2 n s u).mono fun e u' ⟨he, hu⟩ => ⟨_, [], he, ⟨⟨_, _, rfl⟩, fun j hj => (by cases hj)⟩, fun j hj => (by cases hj), hu ▸ bl_alloc (bl_alloc (Below.refl _ _) _) _⟩
    · exact (testOf_3 n s u).mono fun e u' ⟨he, hu⟩ => ⟨_, [], he, ⟨⟨_, _, rfl⟩, fun j hj => (by cases hj)⟩, fun j hj => (by cases hj), hu ▸ bl_alloc (bl_alloc (Below.refl _ _) _) _⟩
    · exact (testOf_4 n s u).mono fun e u' ⟨he, hu⟩ => ⟨_, [], he, ⟨⟨_, _, rfl⟩, fun j hj => (by cases hj)⟩, fun j hj => (by cases hj), hu ▸ bl_alloc (bl_alloc (Below.refl _ _) _) _⟩
    · exact (testOf_5 n s u).mono fun e u' ⟨he, hu⟩ => ⟨_, [], he, ⟨⟨_, _, rfl⟩, fun j hj => (by cases hj)⟩, fun j hj => (by cases hj), hu ▸ bl_alloc (bl_alloc (Below.refl _ _) _) _⟩
    · exact (testOf_6 n s u).mono fun e u' ⟨he, hu⟩ => ⟨_, [], he, ⟨⟨_, _, rfl⟩, fun j hj => (by cases hj)⟩, fun j hj => (by cases hj), hu ▸ bl_alloc (bl_alloc (Below.refl _ _) _) _⟩
    · exact (testOf_7 n s u).mono fun e u' ⟨he, hu⟩ => ⟨_, [], he, ⟨⟨_, _, rfl⟩, fun j hj => (by cases hj)⟩, fun j hj => (by cases hj), hu ▸ bl_alloc (bl_alloc (Below.refl _ _) _) _⟩
  nott := fun c h hc => ⟨⟨_, _, rfl⟩, fun j hj => by
    rcases List.mem_cons.1 hj with rfl | hj
    · exact (blk_cell hc).2.1
    · exact h.2 j hj⟩
  andd := fun c c' h h' hc hc' => ⟨⟨_, _, rfl⟩, fun j hj => by
    rcases List.mem_cons.1 hj with rfl | hj
    · exact (blk_cell hc).2.1
    · rcases List.mem_cons.1 hj with rfl | hj
      · exact (blk_cell hc').2.1
      · rcases List.mem_append.1 hj with hj | hj
        · exact h.2 j hj
        · exact h'.2 j hj⟩
  orr := fun c c' h h' hc hc' => ⟨⟨_, _, rfl⟩, fun j hj => by
    rcases List.mem_cons.1 hj with rfl | hj
    · exact (blk_cell hc).2.1
    · rcases List.mem_cons.1 hj with rfl | hj
      · exact (blk_cell hc').2.1
      · rcases List.mem_append.1 hj with hj | hj
        · exact h.2 j hj
        · exact h'.2 j hj⟩
theorem implFilterOk_any (a : Option Addr) (n cap : Nat) (ts : List Tm) (w : World) (hI : TmAt w a n ts) (hn : n ≤ 9223372036854775807) :
    Calls Tryd.prog 30 #[.slice a n cap] w fun e w' => e = .returned (.bool (okF ts)) ∧ Below w.heap.size w w' := by
  have HC := hidOf (compile_any anySys a n cap ts w hI hn)
  clear hI
  go_enter Tryd.func30, Tryd.ntmps30
  go_wp2_with fail
  refine (HC.out).mono ?_
  rintro e w1 ⟨x, rfl, _, hb⟩
  have HB := hidOf hb
  clear hb HC
  go_wp2
  go_ret
  exact ⟨rfl, HB.out⟩
end Go.Proofs.YthbelehhhjngfaaDoor
