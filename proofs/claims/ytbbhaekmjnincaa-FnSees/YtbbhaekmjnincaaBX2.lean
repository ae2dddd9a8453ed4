/-
  The program's changes: the four methods.
-/
import Derived.Test.YtbbhaekmjnincaaBX1
import Derived.Test.YtbbhaekmjnincaaCM10
namespace Go.Proofs.Ytbbhaekmjnincaa
open Go.RowKit Go.Maps Pl Il

theorem put_any (v1 v2 : Value) (w : World) :
    Calls Try.prog 44 #[.agg #[v1, v2]] w fun e w' => e = .returned (.tuple #[v2, .bool true]) ∧ Below w.heap.size w w' := by
  have hb : Below w.heap.size w (w.alloc (.cells #[v1, v2] 70)) := bl_alloc (Below.refl _ _) _
  go_enter Try.func44, Try.ntmps44
  go_wp2
  go_ret2
  exact ⟨rfl, hb⟩
theorem add_nn (a b : Int) (w : World) (hw : IntKind.i64.wrap (a + b) = a + b) :
    Calls Try.prog 45 #[.agg #[.iface 86 (.int .i64 a), .iface 86 (.int .i64 b)]] w fun e w' => e = .returned (.tuple #[.iface 86 (.int .i64 (a + b)), .bool true]) ∧ Below w.heap.size w w' := by
  have hb : Below w.heap.size w (w.alloc (.cells #[.iface 86 (.int .i64 a), .iface 86 (.int .i64 b)] 70)) := bl_alloc (Below.refl _ _) _
  have h1 := as_nn a
  have h2 := as_nn b
  go_enter Try.func45, Try.ntmps45
  go_wp2
  go_ret2
  exact ⟨rfl, hb⟩
theorem add_nt (a : Int) (t : ByteArray) (w : World) :
    Calls Try.prog 45 #[.agg #[.iface 86 (.int .i64 a), .iface 87 (.string t)]] w fun e w' => (∃ v, e = .returned (.tuple #[v, .bool false])) ∧ Below w.heap.size w w' := by
  have hb : Below w.heap.size w (w.alloc (.cells #[.iface 86 (.int .i64 a), .iface 87 (.string t)] 70)) := bl_alloc (Below.refl _ _) _
  have h1 := as_nn a
  have h2 := as_nt t
  go_enter Try.func45, Try.ntmps45
  go_wp2
  go_ret2
  exact ⟨⟨_, rfl⟩, hb⟩
theorem add_t (s : ByteArray) (v : Value) (w : World) (hv : ∃ r b, ∀ u, (Instr.typeAssert v 62 86 true).run Try.prog u = .ok (.tuple #[.int .i64 r, .bool b]) u) :
    Calls Try.prog 45 #[.agg #[.iface 87 (.string s), v]] w fun e w' => (∃ v, e = .returned (.tuple #[v, .bool false])) ∧ Below w.heap.size w w' := by
  have hb : Below w.heap.size w (w.alloc (.cells #[.iface 87 (.string s), v] 70)) := bl_alloc (Below.refl _ _) _
  have h1 := as_nt s
  obtain ⟨r, b, h2⟩ := hv
  go_enter Try.func45, Try.ntmps45
  go_wp2
  go_ret2
  exact ⟨⟨_, rfl⟩, hb⟩
theorem join_tt (s t : ByteArray) (w : World) (hs : s.size ≤ 40) (ht : t.size ≤ 40) :
    Calls Try.prog 46 #[.agg #[.iface 87 (.string s), .iface 87 (.string t)]] w fun e w' => e = .returned (.tuple #[.iface 87 (.string (s ++ t)), .bool true]) ∧ Below w.heap.size w w' := by
  have hb : Below w.heap.size w (w.alloc (.cells #[.iface 87 (.string s), .iface 87 (.string t)] 70)) := bl_alloc (Below.refl _ _) _
  have h1 := as_tt s
  have h2 := as_tt t
  go_enter Try.func46, Try.ntmps46
  go_wp2
  go_ret2
  exact ⟨rfl, hb⟩
theorem join_tn (s : ByteArray) (a : Int) (w : World) (hm : s.size ≤ 40) :
    Calls Try.prog 46 #[.agg #[.iface 87 (.string s), .iface 86 (.int .i64 a)]] w fun e w' => (∃ v, e = .returned (.tuple #[v, .bool false])) ∧ Below w.heap.size w w' := by
  have hb : Below w.heap.size w (w.alloc (.cells #[.iface 87 (.string s), .iface 86 (.int .i64 a)] 70)) := bl_alloc (Below.refl _ _) _
  have h1 := as_tt s
  have h2 := as_tn a
  go_enter Try.func46, Try.ntmps46
  go_wp2
  go_ret2
  exact ⟨⟨_, rfl⟩, hb⟩
theorem join_n (a : Int) (v : Value) (t : ByteArray) (b : Bool) (w : World) (ht : t.size ≤ 40) (hv : ∀ u, (Instr.typeAssert v 62 87 true).run Try.prog u = .ok (.tuple #[.string t, .bool b]) u) :
    Calls Try.prog 46 #[.agg #[.iface 86 (.int .i64 a), v]] w fun e w' => (∃ v, e = .returned (.tuple #[v, .bool false])) ∧ Below w.heap.size w w' := by
  have hb : Below w.heap.size w (w.alloc (.cells #[.iface 86 (.int .i64 a), v] 70)) := bl_alloc (Below.refl _ _) _
  have h1 := as_tn a
  go_enter Try.func46, Try.ntmps46
  go_wp2
  go_ret2
  exact ⟨⟨_, rfl⟩, hb⟩
def mostV (b : Bool) (x y : Value) : Value := match b with | true => y | false => x
theorem most_any (k n : Int) (s : ByteArray) (k' n' : Int) (s' : ByteArray) (w : World) (h : okB k n s = true) (h' : okB k' n' s' = true) :
    Calls Try.prog 47 #[.agg #[.iface (tyOf k) (valOf k n s), .iface (tyOf k') (valOf k' n' s')]] w fun e w' => e = .returned (.tuple #[mostV (ltB k n s k' n' s') (.iface (tyOf k) (valOf k n s)) (.iface (tyOf k') (valOf k' n' s')), .bool true]) ∧ Below w.heap.size w w' := by
  have hb : Below w.heap.size w (w.alloc (.cells #[.iface (tyOf k) (valOf k n s), .iface (tyOf k') (valOf k' n' s')] 70)) := bl_alloc (Below.refl _ _) _
  have HL := hidOf (less_any k n s k' n' s' (w.alloc (.cells #[.iface (tyOf k) (valOf k n s), .iface (tyOf k') (valOf k' n' s')] 70)) h h')
  generalize tyOf k = t1 at *
  generalize tyOf k' = t2 at *
  generalize valOf k n s = v1 at *
  generalize valOf k' n' s' = v2 at *
  go_enter Try.func47, Try.ntmps47
  go_wp2_with fail
  refine HL.out.mono ?_
  rintro e w2 ⟨rfl, rfl⟩
  cases hl : ltB k n s k' n' s'
  · go_wp2
    go_ret2
    exact ⟨by rw [hl]; rfl, hb⟩
  · go_wp2
    go_ret2
    exact ⟨by rw [hl]; rfl, hb⟩
end Go.Proofs.Ytbbhaekmjnincaa
