/-
  Slices of texts in memory; the specification's parts of a name.
-/
import Derived.Test.YthbelehhhjngfaaDoorTN2
import Derived.Test.YthbelehhhjngfaaDoorRows
import Derived.Test.YthbelehhhjngfaaDoorInts
import Derived.WalkSpells
import Derived.WalkLawsBesides
import Derived.Laws.MakeOwn
namespace Go.Proofs.YthbelehhhjngfaaDoor
open Go.RowKit Pl Il Tn

theorem hidT {p : Prop} (h : p) : Hid p := h
/-- The slice at a, of n elements, reads as xs in w. -/
structure StrsAt (w : World) (a : Option Addr) (n : Nat) (xs : List ByteArray) : Prop where
  len : xs.length = n
  row : n = 0 ∨ ∃ b off, a = some ⟨b, off, none⟩ ∧ b < w.heap.size ∧ ∀ i, i < n → w.cell? ⟨b, off + i, none⟩ = some (.string (xs.getD i ⟨#[]⟩))
theorem StrsAt.keep {w w' : World} {a : Option Addr} {n : Nat} {xs : List ByteArray} (h : StrsAt w a n xs) (hb : Below w.heap.size w w') : StrsAt w' a n xs := by
  refine ⟨h.len, ?_⟩
  rcases h.row with k | ⟨b, off, rfl, hlt, hc⟩
  · exact .inl k
  · exact .inr ⟨b, off, rfl, Nat.lt_of_lt_of_le hlt hb.size, fun i hi => by rw [hb.cell (p := ⟨b, off + i, none⟩) hlt]; exact hc i hi⟩
theorem StrsAt.nil (w : World) (a : Option Addr) : StrsAt w a 0 [] := ⟨rfl, .inl rfl⟩
theorem StrsAt.drop1 {w : World} {b off n : Nat} {x : ByteArray} {xs : List ByteArray} (h : StrsAt w (some ⟨b, off, none⟩) (n + 1) (x :: xs)) : StrsAt w (some ⟨b, off + 1, none⟩) n xs := by
  refine ⟨by have := h.len; simpa using this, ?_⟩
  rcases h.row with k | ⟨b', off', e, hlt, hc⟩
  · omega
  · cases e
    refine .inr ⟨b, off + 1, rfl, hlt, fun j hj => ?_⟩
    rw [show off + 1 + j = off + (j + 1) by omega, hc (j + 1) (by omega)]
    rfl
theorem strs_of {B : Nat} {w : World} {a : Option Addr} {n c : Nat} {ys : List Value} (h : w.ownsRow B 9 1 (.slice a n c) n ys) (xs : List ByteArray) (hx : ys = xs.map Value.string) : StrsAt w a n xs := by
  subst hx
  obtain ⟨hl, ⟨e, h0⟩ | ⟨g, cap, cur, e, hB, hg, hc, hm, hs, ht⟩⟩ := h
  · cases e
    have : xs = [] := List.length_eq_zero_iff.1 (by simpa using hl)
    subst this
    exact ⟨rfl, .inl rfl⟩
  · cases e
    have hlen : xs.length = n := by simpa using hl
    have hlt : g < w.heap.size := by
      rcases Nat.lt_or_ge g w.heap.size with k | k
      · exact k
      · rw [Array.getElem?_eq_none k] at hg; cases hg
    refine ⟨hlen, .inr ⟨g, 0, rfl, hlt, fun i hi => ?_⟩⟩
    rw [Nat.zero_add, cell_of_row w g i cur 9 (0, 0) hg]
    have e : (xs.map Value.string)[i]? = (cur.toList.take (n * 1))[i]? := by rw [ht]
    rw [List.getElem?_take_of_lt (by omega)] at e
    rw [← Array.getElem?_toList, ← e]
    simp [List.getD, List.getElem?_eq_getElem (show i < xs.length by omega)]
theorem strs_new (w : World) (xs : List ByteArray) : StrsAt (w.alloc (.cells (xs.map Value.string).toArray 9)) (some ⟨w.heap.size, 0, none⟩) xs.length xs :=
  ⟨rfl, .inr ⟨w.heap.size, 0, rfl, by simp, fun i hi => by
    rw [cell_of_row _ w.heap.size (0 + i) (xs.map Value.string).toArray 9 (0, 0) (heap_alloc_new w _)]
    simp [List.getD, List.getElem?_eq_getElem hi]⟩⟩

theorem wpList_append_runT {P : Program} {ops : Array Oper} {rest : List Oper} {o : Oper} {a : Act} {Q : Exit → Act → World → Prop} {w w' : World} (hgd : o.guard = none) (s x : Operand) (t : TypeId)
    (ho : o.op = .call { callee := .builtin .append, args := #[s, x], argTypes := #[t, t] }) (v u v' : Value) (hs : a.eval s = v) (hx : a.eval x = u)
    (hr : (Builtin.append_ #[t, t] o.type #[v, u]).run P w = .ok v' w') (h : wpList P ops Q rest (a.put o.dst v') w') : wpList P ops Q (o :: rest) a w :=
  wpList_plain hgd fun _ hK => by
    unfold Oper.wp execOp
    simp only [ho, resolve, invoke, builtin, Sem.run_bind, Sem.run_pure, Result.andThen_ok, List.map_toArray, List.map_cons, List.map_nil, hs, hx, hr]
    exact hK _ _ h
theorem infoStr : (Tryd.prog.info? 9).map (fun i => (i.zero, i.size, i.bytes)) = some (some (.string ⟨#[]⟩), 1, 16) := by kernel_rfl
/-- One text is appended to a row that is owned, or nil. -/
theorem append_str1 (B m : Nat) (v : Value) (ys : List ByteArray) (x : ByteArray) (w : World) (ho : w.ownsRow B 9 1 v m (ys.map Value.string)) (hB : B ≤ w.heap.size) (hs : m + 1 ≤ 4194304) :
    ∃ (g' c' : Nat) (w' : World), (Builtin.append_ #[59, 59] 59 #[v, .slice (some ⟨w.heap.size, 0, none⟩) 1 1]).run Tryd.prog (w.alloc (.cells #[.string x] 9)) = .ok (.slice (some ⟨g', 0, none⟩) (m + 1) c') w' ∧
      w'.ownsRow B 9 1 (.slice (some ⟨g', 0, none⟩) (m + 1) c') (m + 1) ((ys ++ [x]).map Value.string) ∧ w.grownBy w' v.ownBlock := by
  obtain ⟨i, hi, hz0, hz1, hz2⟩ := info_parts infoStr
  obtain ⟨g', c', w', hr, hown, hgrow, hl, _⟩ := run_append_lies (P := Tryd.prog) (w.alloc (.cells #[.string x] 9)) 59 59 B 9 i (.string ⟨#[]⟩) 1 16 Tryd.underlying59 hi hz0 hz1 hz2 rfl (by omega) v m _ (ho.alloc _) ⟨w.heap.size, 0, none⟩ 1 1 [.string x] rfl
    (cell_one_new _ _ _) (fun u hu => by rw [List.mem_singleton] at hu; subst hu; rfl) (by omega) (by unfold maxLen; omega) (by omega) (by simp; omega) _ rfl
  exact ⟨g', c', w', hr, by rw [List.map_append]; exact hown, (World.grownBy_alloc w _ _).trans hgrow⟩

abbrev OwnsStr (B : Nat) (w : World) (a : Option Addr) (n cap : Nat) (xs : List ByteArray) : Prop := w.ownsRow B 9 1 (.slice a n cap) n (xs.map Value.string)
def PartsP (w : World) (s : ByteArray) (e : Ending) (w' : World) : Prop := ∃ (a : Option Addr) (c : Nat), e = .returned (.slice a (partsB s).length c) ∧ StrsAt w' a (partsB s).length (partsB s) ∧ Below w.heap.size w w'
set_option maxHeartbeats 1000000 in
theorem specParts_any (s : ByteArray) (w : World) (hs : s.size ≤ 24) : Calls Tryd.prog 32 #[.string s] w (PartsP w s) := by
  have HO := hidT (show OwnsStr w.heap.size (w.alloc (.cells #[] 9)) (some ⟨w.heap.size, 0, none⟩) 0 0 [] from ⟨rfl, .inr ⟨w.heap.size, 0, #[], rfl, Nat.le_refl _, heap_alloc_new w _, Nat.le_refl _, Nat.zero_le _, rfl, rfl⟩⟩)
  go_enter Tryd.func32, Tryd.ntmps32
  go_wp2
  go_loopw [3, 4, 5] (fun v f i wr => (∃ (k b m cp : Nat) (a : Option Addr) (xs : List ByteArray), f = .int .i64 (b : Int) ∧ i = .int .i64 (k : Int) ∧ v = .slice a m cp ∧ CutAt s xs b k ∧ xs.length = m ∧ OwnsStr w.heap.size wr a m cp xs ∧ Below w.heap.size w wr) ∨
      (∃ (m cp : Nat) (a : Option Addr) (b : Int), f = .int .i64 b ∧ i = .int .i64 ((s.size : Int) + 1) ∧ v = .slice a m cp ∧ m = (partsB s).length ∧ OwnsStr w.heap.size wr a m cp (partsB s) ∧ Below w.heap.size w wr)) (fun _ _ i _ => s.size + 1 - (intOf i).toNat)
  case atStart => exact .inl ⟨0, 0, 0, 0, _, [], rfl, rfl, rfl, CutAt.start s, rfl, HO.out, bl_alloc (Below.refl _ _) _⟩
  case round =>
    rename_i wr
    rcases hrel with ⟨k, b, m, cp, a, xs, rfl, rfl, rfl, hcut, hlen, hor, hbr⟩ | ⟨m, cp, a, b, rfl, rfl, rfl, hm, hor, hbr⟩
    · have hk := hcut.lt
      have hbk := hcut.le
      have hfew := hcut.few
      obtain ⟨g', c', w', hr, ho', hg⟩ := append_str1 w.heap.size m _ xs (s.extract b k) wr hor hbr.size (by omega)
      have hb' : Below w.heap.size w w' := hbr.grown hg hbr.size (fun j hj => (World.ownsRow.lt hor j hj).1)
      have Hr := hidT hr
      have Ho' := hidT ho'
      have Hor := hidT hor
      have HC := hidT hcut
      have HL := hidT hlen
      clear hr ho' hor hg hcut hlen
      by_cases hks : k = s.size
      · subst hks
        go_wp2_with (first | (at_builtin; refine wpList_append_runT rfl _ _ 59 rfl _ _ _ rfl rfl Hr.out ?_) | fail)
        go_roundw
        case rel => exact .inr ⟨m + 1, c', _, _, rfl, rfl, rfl, by rw [← HC.out.done rfl, List.length_append, HL.out]; rfl, by rw [← HC.out.done rfl]; exact Ho'.out, hb'⟩
        case measure => simp [intOf]
      · have hlt : k < s.size := by omega
        have hne : ((k : Int) == (s.size : Int)) = false := by simp; omega
        by_cases hd : s[k] = 46
        · have hd1 : ((s[k].toNat : Int) == 46) = true := by rw [hd]; decide
          have HD := hidT hd
          clear hd hks
          go_wp2_with (first | (at_builtin; refine wpList_append_runT rfl _ _ 59 rfl _ _ _ rfl rfl Hr.out ?_) | fail)
          go_roundw
          case rel => exact .inl ⟨k + 1, k + 1, m + 1, c', _, _, by go_num, by go_num, rfl, HC.out.cut hlt HD.out, by rw [List.length_append, HL.out]; rfl, Ho'.out, hb'⟩
          case measure => simp [intOf]; omega
        · have hd1 : ((s[k].toNat : Int) == 46) = false := by
            rw [beq_eq_false_iff_ne]
            intro e
            exact hd (UInt8.toNat_inj.1 (by simpa using (show s[k].toNat = 46 by omega)))
          have HD := hidT hd
          clear hd hks
          go_wp2_with (first | (at_builtin; refine wpList_append_runT rfl _ _ 59 rfl _ _ _ rfl rfl Hr.out ?_) | fail)
          go_roundw
          case rel => exact .inl ⟨k + 1, b, m, cp, _, xs, by go_num, by go_num, rfl, HC.out.go hlt HD.out, HL.out, Hor.out, hbr⟩
          case measure => simp [intOf]; omega
    · have HM := hidT hm
      have Hor := hidT hor
      clear hm hor
      go_wp2
      go_ret
      obtain rfl := HM.out
      exact ⟨a, cp, rfl, strs_of Hor.out _ rfl, hbr⟩
end Go.Proofs.YthbelehhhjngfaaDoor
