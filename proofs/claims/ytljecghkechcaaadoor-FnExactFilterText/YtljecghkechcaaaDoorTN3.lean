/-
  Slices of texts in memory; the specification's parts of a name.
-/
import Derived.Test.YtljecghkechcaaaDoorTN2
import Derived.Test.YtljecghkechcaaaDoorRows
import Derived.Test.YtljecghkechcaaaDoorInts
import Derived.WalkSpells
import Derived.WalkLawsBesides
import Derived.Laws.MakeOwn
namespace Go.Proofs.YtljecghkechcaaaDoor
open Go.RowKit Pl Il Tn

theorem hidT {p : Prop} (h : p) : Hid p := h
/-- The slice at a, of n elements, reads as xs in w. -/
structure StrsAt (w : World) (a : Option Addr) (n : Nat) (xs : List ByteArray) : Prop where
  len : xs.length = n
  row : n = 0 ∨ ∃ b off, a = some ⟨b, off, none⟩ ∧ b < w.heap.size ∧ ∀ i, i < n → w.cell? ⟨b, off + i, none⟩ = some (.string (xs.getD i ⟨#[]⟩))
theorem StrsAt.keep {w w' : World} {a : Option Addr} {n : Nat} {xs : List ByteArray} (h : StrsAt w a n xs) (hb : Below w.heap.size w w') : StrsAt w' a n xs := by
  refine ⟨h.len, ?_⟩
  rcases h.row with k | ⟨b, off, rfl, hlt, hc⟩
  · exact .inl k
  · exact .inr ⟨b, off, rfl, Nat.lt_of_lt_of_le hlt hb.size, fun i hi => by rw [hb.cell (p := ⟨b, off + i, none⟩) hlt]; exact hc i hi⟩
theorem StrsAt.nil (w : World) (a : Option Addr) : StrsAt w a 0 [] := ⟨rfl, .inl rfl⟩
theorem StrsAt.drop1 {w : World} {b off n : Nat} {x : ByteArray} {xs : List ByteArray} (h : StrsAt w (some ⟨b, off, none⟩) (n + 1) (x :: xs)) : StrsAt w (some ⟨b, off + 1, none⟩) n xs := by
  refine ⟨by have := h.len; simpa using this, ?_⟩
  rcases h.row with k | ⟨b', off', e, hlt, hc⟩
  · omega
  · cases e
    refine .inr ⟨b, off + 1, rfl, hlt, fun j hj => ?_⟩
    rw [show off + 1 + j = off + (j + 1) by omega, hc (j + 1) (by omega)]
    rfl
theorem strs_of {B : Nat} {w : World} {a : Option Addr} {n c : Nat} {ys : List Value} (h : w.ownsRow B 9 1 (.slice a n c) n ys) (xs : List ByteArray) (hx : ys = xs.map Value.string) : StrsAt w a n xs := by
  subst hx
  obtain ⟨hl, ⟨e, h0⟩ | ⟨g, cap, cur, e, hB, hg, hc, hm, hs, ht⟩⟩ := h
  · cases e
    have : xs = [] := List.length_eq_zero_iff.1 (by simpa using hl)
    subst this
    exact ⟨rfl, .inl rfl⟩
  · cases e
    have hlen : xs.length = n := by simpa using hl
    have hlt : g < w.heap.size := by
      rcases Nat.lt_or_ge g w.heap.size with k | k
      · exact k
      · rw [Array.getElem?_eq_none k] at hg; cases hg
    refine ⟨hlen, .inr ⟨g, 0, rfl, hlt, fun i hi => ?_⟩⟩
    rw [Nat.zero_add, cell_of_row w g i cur 9 (0, 0) hg]
    have e : (xs.map Value.string)[i]? = (cur.toList.take (n * 1))[i]? := by rw [ht]
    rw [List.getElem?_take_of_lt (by omega)] at e
    rw [← Array.getElem?_toList, ← e]
    simp [List.getD, List.getElem?_eq_getElem (show i < xs.length by omega)]
theorem strs_new (w : World) (xs : List ByteArray) : StrsAt (w.alloc (.cells (xs.map Value.string).toArray 9)) (some ⟨w.heap.size, 0, none⟩) xs.length xs :=
  ⟨rfl, .inr ⟨w.heap.size, 0, rfl, by simp, fun i hi => by
    rw [cell_of_row _ w.heap.size (0 + i) (xs.map Value.string).toArray 9 (0, 0) (heap_alloc_new w _)]
    simp [List.getD, List.getElem?_eq_getElem hi]⟩⟩

theorem wpList_append_runT {P : Program} {ops : Array Oper} {rest : List Oper} {o : Oper} {a : Act} {Q : Exit → Act → World → Prop} {w w' : World} (hgd : o.guard = none) (s x : Operand) (t : TypeId)
    (ho : o.op = .call { callee := .builtin .append, args := #[s, x], argTypes := #[t, t] }) (v u v' : Value) (hs : a.eval s = v) (hx : a.eval x = u)
    (hr : (Builtin.append_ #[t, t] o.type #[v, u]).run P w = .ok v' w') (h : wpList P ops Q rest (a.put o.dst v') w') : wpList P ops Q (o :: rest) a w :=
  wpList_plain hgd fun _ hK => by
    unfold Oper.wp execOp
    simp only [ho, resolve, invoke, builtin, Sem.run_bind, Sem.run_pure, Result.andThen_ok, List.map_toArray, List.map_cons, List.map_nil, hs, hx, hr]
    exact hK _ _ h
theorem infoStr : (Tryd.prog.info? 9).map (fun i => (i.zero, i.size, i.bytes)) = some (some (.string ⟨#[]⟩), 1, 16) := by kernel_rfl
/-- One text is appended to a row that is owned, or nil. -/
theorem append_str1 (B m : Nat) (v : Value) (ys : List ByteArray) (x : ByteArray) (w : World) (ho : w.ownsRow B 9 1 v m (ys.map Value.string)) (hB : B ≤ w.heap.size) (hs : m + 1 ≤ 4194304) :
    ∃ (g' c' : Nat) (w' : World), (Builtin.append_ #[41, 41] 41 #[v, .slice (some ⟨w.heap.size, 0, none⟩) 1 1]).run Tryd.prog (w.alloc (.cells #[.string x] 9)) = .ok (.slice (some ⟨g', 0, none⟩) (m + 1) c') w' ∧
      w'.ownsRow B 9 1 (.slice (some ⟨g', 0, none⟩) (m + 1) c') (m + 1) ((ys ++ [x]).map Value.string) ∧ w.grownBy w' v.ownBlock := by
  obtain ⟨i, hi, hz0, hz1, hz2⟩ := info_parts infoStr
  obtain ⟨g', c', w', hr, hown, hgrow, hl, _⟩ := run_append_lies (P := Tryd.prog) (w.alloc (.cells #[.string x] 9)) 41 41 B 9 i (.string ⟨#[]⟩) 1 16 Tryd.underlying41 hi hz0 hz1 hz2 rfl (by omega) v m _ (ho.alloc _) ⟨w.heap.size, 0, none⟩ 1 1 [.string x] rfl
    (cell_one_new _ _ _) (fun u hu => by rw [List.mem_singleton] at hu; subst hu; rfl) (by omega) (by unfold maxLen; omega) (by omega) (by simp; omega) _ rfl
  exact ⟨g', c', w', hr, by rw [List.map_append]; exact hown, (World.grownBy_alloc w _ _).trans hgrow⟩

abbrev OwnsStr (B : Nat) (w : World) (a : Option Addr) (n cap : Nat) (xs : List ByteArray) : Prop := w.ownsRow B 9 1 (.slice a n cap) n (xs.map Value.string)
def PartsP (w : World) (s : ByteArray) (e : Ending) (w' : World) : Prop := ∃ (a : Option Addr) (c : Nat), e = .returned (.slice a (partsB s).length c) ∧ StrsAt w' a (partsB s).length (partsB s) ∧ Below w.heap.size w w'
end Go.Proofs.YtljecghkechcaaaDoor
