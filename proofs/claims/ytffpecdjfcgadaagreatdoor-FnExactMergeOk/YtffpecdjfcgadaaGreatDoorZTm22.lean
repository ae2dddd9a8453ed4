/-
  Names and patterns: the walks of what is a plain part.
  Slices of texts in memory; the specification's parts of a name.
  The numbers under which the library's functions stand in this program, laid in plain words by the shelf's own command: so its contract on strings.Split speaks of this program.
  Names and patterns: the program's parts, and which texts are right.
  Names and patterns: which texts are right: the program's partsOk.
  Names and patterns: which texts are right: the specification's side, and NameOk, PatternOk of both.
  Which lists of topics are right: told as plain mathematics; the specification's TopicsOk, TopicAt.
  A right merge: its mathematics.
-/
import Derived.Test.YtffpecdjfcgadaaGreatDoorZTm21
import Derived.Test.YtffpecdjfcgadaaGreatDoorZTm3
import Derived.Test.YtffpecdjfcgadaaGreatDoorProg
import Derived.Test.YtffpecdjfcgadaaGreatDoorRows
import Derived.WalkSpells
import Derived.WalkLawsBesides
import Derived.Laws.MakeOwn
import Derived.Shelf.Strings.Split
import Derived.Deep.LoopGhost
import Derived.WalkMore
import Derived.Test.YtffpecdjfcgadaaGreatDoorZTm16
import Derived.Test.YtffpecdjfcgadaaGreatDoorZTm20
import Derived.Deep.Cut
import Derived.Test.YtffpecdjfcgadaaGreatDoorZTm7
namespace Go.Proofs.YtffpecdjfcgadaaGreatDoor
open Go.RowKit Pl Tn

theorem rboolT {a b : Bool} (h : a = b) : Ending.returned (.bool a) = .returned (.bool b) := by rw [h]
theorem ba_empty {s : ByteArray} (h : s.size = 0) : s = ⟨#[]⟩ := dat_inj (by rw [show dat ⟨#[]⟩ = [] from rfl]; exact List.length_eq_zero_iff.1 (by rw [dat_len]; exact h))
theorem tl_len (s : ByteArray) : s.toList.length = s.size := by rw [ByteArray.toList_eq]; rfl
theorem tl_ne {s : ByteArray} (h : s.size ≠ 0) : s.toList.isEmpty = false := by
  cases he : s.toList.isEmpty with
  | false => rfl
  | true =>
    exfalso
    have e : s.toList = [] := by simpa using he
    exact h (by have := tl_len s; rw [e] at this; simpa using this.symm)
theorem ranges (c : Int) : (c < 48) ∨ (48 ≤ c ∧ c ≤ 57) ∨ (57 < c ∧ c < 97) ∨ (97 ≤ c ∧ c ≤ 122) ∨ 122 < c := by omega
theorem dle {a b : Int} (h : a ≤ b) : decide (a ≤ b) = true := by simpa using h
theorem dgt {a b : Int} (h : b < a) : decide (a ≤ b) = false := by simp; omega
set_option maxHeartbeats 1000000 in
theorem isPlainPart_any (s : ByteArray) (w : World) (hs : s.size ≤ maxLen) :
    Calls Tryz.prog 78 #[.string s] w fun e w' => e = .returned (.bool (plainP s)) ∧ w' = w := by
  unfold maxLen at hs
  by_cases h0 : s.size = 0
  · obtain rfl := ba_empty h0
    clear h0
    go_enter Tryz.func78, Tryz.ntmps78
    go_wp2
    go_loop [3] (fun i => i = .int .i64 0) (fun _ => 0)
    case atStart => rfl
    case round =>
      subst hrel
      go_wp2
      go_ret
      exact ⟨rfl, rfl⟩
  have hne := tl_ne h0
  go_enter Tryz.func78, Tryz.ntmps78
  go_wp2
  go_loop [3] (fun i => ∃ k : Nat, k ≤ s.size ∧ i = .int .i64 k ∧ ((dat s).take k).all lowB = true) (fun i => s.size - (intOf i).toNat)
  case atStart => exact ⟨0, Nat.zero_le _, rfl, rfl⟩
  case round =>
    obtain ⟨k, hk, rfl, hp⟩ := hrel
    by_cases hlt : k < s.size
    · rcases ranges (s[k].toNat : Int) with hr | ⟨hr, hr'⟩ | ⟨hr, hr'⟩ | ⟨hr, hr'⟩ | hr
      all_goals
        first | have q1 := dle (show (97 : Int) ≤ (s[k].toNat : Int) by omega) | have q1 := dgt (show (s[k].toNat : Int) < 97 by omega)
        first | have q2 := dle (show (s[k].toNat : Int) ≤ 122 by omega) | have q2 := dgt (show (122 : Int) < (s[k].toNat : Int) by omega)
        first | have q3 := dle (show (48 : Int) ≤ (s[k].toNat : Int) by omega) | have q3 := dgt (show (s[k].toNat : Int) < 48 by omega)
        first | have q4 := dle (show (s[k].toNat : Int) ≤ 57 by omega) | have q4 := dgt (show (57 : Int) < (s[k].toNat : Int) by omega)
        go_wp2
        first
        | (go_ret; exact ⟨rboolT (plain_not hlt (low_no _ (by omega))).symm, rfl⟩)
        | (go_round
           case rel => exact ⟨k + 1, by omega, by go_num, plain_upto hlt hp (low_yes _ (by omega))⟩
           case measure => simp [intOf]; omega)
    · obtain rfl : k = s.size := by omega
      have hq := plain_yes hp h0
      go_wp2
      go_ret
      first | exact ⟨rfl, rfl⟩ | exact ⟨rboolT hq.symm, rfl⟩
set_option maxHeartbeats 1000000 in
theorem specPlain_any (s : ByteArray) (w : World) (hs : s.size ≤ maxLen) :
    Calls Tryz.prog 72 #[.string s] w fun e w' => e = .returned (.bool (plainP s)) ∧ w' = w := by
  unfold maxLen at hs
  by_cases h0 : s.size = 0
  · obtain rfl := ba_empty h0
    clear h0
    go_enter Tryz.func72, Tryz.ntmps72
    go_wp2
    go_ret
    exact ⟨rfl, rfl⟩
  have hne := tl_ne h0
  go_enter Tryz.func72, Tryz.ntmps72
  go_wp2
  go_loop [3] (fun i => ∃ k : Nat, k ≤ s.size ∧ i = .int .i64 k ∧ ((dat s).take k).all lowB = true) (fun i => s.size - (intOf i).toNat)
  case atStart => exact ⟨0, Nat.zero_le _, rfl, rfl⟩
  case round =>
    obtain ⟨k, hk, rfl, hp⟩ := hrel
    by_cases hlt : k < s.size
    · rcases ranges (s[k].toNat : Int) with hr | ⟨hr, hr'⟩ | ⟨hr, hr'⟩ | ⟨hr, hr'⟩ | hr
      all_goals
        first | have q1 := dle (show (97 : Int) ≤ (s[k].toNat : Int) by omega) | have q1 := dgt (show (s[k].toNat : Int) < 97 by omega)
        first | have q2 := dle (show (s[k].toNat : Int) ≤ 122 by omega) | have q2 := dgt (show (122 : Int) < (s[k].toNat : Int) by omega)
        first | have q3 := dle (show (48 : Int) ≤ (s[k].toNat : Int) by omega) | have q3 := dgt (show (s[k].toNat : Int) < 48 by omega)
        first | have q4 := dle (show (s[k].toNat : Int) ≤ 57 by omega) | have q4 := dgt (show (57 : Int) < (s[k].toNat : Int) by omega)
        go_wp2
        first
        | (go_ret; exact ⟨rboolT (plain_not hlt (low_no _ (by omega))).symm, rfl⟩)
        | (go_round
           case rel => exact ⟨k + 1, by omega, by go_num, plain_upto hlt hp (low_yes _ (by omega))⟩
           case measure => simp [intOf]; omega)
    · obtain rfl : k = s.size := by omega
      have hq := plain_yes hp h0
      go_wp2
      go_ret
      first | exact ⟨rfl, rfl⟩ | exact ⟨rboolT hq.symm, rfl⟩
end Go.Proofs.YtffpecdjfcgadaaGreatDoor
namespace Go.Proofs.YtffpecdjfcgadaaGreatDoor
open Go.RowKit Pl Il Tn

theorem hidT {p : Prop} (h : p) : Hid p := h
/-- The slice at a, of n elements, reads as xs in w. -/
structure StrsAt (w : World) (a : Option Addr) (n : Nat) (xs : List ByteArray) : Prop where
  len : xs.length = n
  row : n = 0 ∨ ∃ b off, a = some ⟨b, off, none⟩ ∧ b < w.heap.size ∧ ∀ i, i < n → w.cell? ⟨b, off + i, none⟩ = some (.string (xs.getD i ⟨#[]⟩))
theorem StrsAt.keep {w w' : World} {a : Option Addr} {n : Nat} {xs : List ByteArray} (h : StrsAt w a n xs) (hb : Below w.heap.size w w') : StrsAt w' a n xs := by
  refine ⟨h.len, ?_⟩
  rcases h.row with k | ⟨b, off, rfl, hlt, hc⟩
  · exact .inl k
  · exact .inr ⟨b, off, rfl, Nat.lt_of_lt_of_le hlt hb.size, fun i hi => by rw [hb.cell (p := ⟨b, off + i, none⟩) hlt]; exact hc i hi⟩
theorem StrsAt.nil (w : World) (a : Option Addr) : StrsAt w a 0 [] := ⟨rfl, .inl rfl⟩
theorem StrsAt.drop1 {w : World} {b off n : Nat} {x : ByteArray} {xs : List ByteArray} (h : StrsAt w (some ⟨b, off, none⟩) (n + 1) (x :: xs)) : StrsAt w (some ⟨b, off + 1, none⟩) n xs := by
  refine ⟨by have := h.len; simpa using this, ?_⟩
  rcases h.row with k | ⟨b', off', e, hlt, hc⟩
  · omega
  · cases e
    refine .inr ⟨b, off + 1, rfl, hlt, fun j hj => ?_⟩
    rw [show off + 1 + j = off + (j + 1) by omega, hc (j + 1) (by omega)]
    rfl
theorem strs_of {B : Nat} {w : World} {a : Option Addr} {n c : Nat} {ys : List Value} (h : w.ownsRow B 9 1 (.slice a n c) n ys) (xs : List ByteArray) (hx : ys = xs.map Value.string) : StrsAt w a n xs := by
  subst hx
  obtain ⟨hl, ⟨e, h0⟩ | ⟨g, cap, cur, e, hB, hg, hc, hm, hs, ht⟩⟩ := h
  · cases e
    have : xs = [] := List.length_eq_zero_iff.1 (by simpa using hl)
    subst this
    exact ⟨rfl, .inl rfl⟩
  · cases e
    have hlen : xs.length = n := by simpa using hl
    have hlt : g < w.heap.size := by
      rcases Nat.lt_or_ge g w.heap.size with k | k
      · exact k
      · rw [Array.getElem?_eq_none k] at hg; cases hg
    refine ⟨hlen, .inr ⟨g, 0, rfl, hlt, fun i hi => ?_⟩⟩
    rw [Nat.zero_add, cell_of_row w g i cur 9 (0, 0) hg]
    have e : (xs.map Value.string)[i]? = (cur.toList.take (n * 1))[i]? := by rw [ht]
    rw [List.getElem?_take_of_lt (by omega)] at e
    rw [← Array.getElem?_toList, ← e]
    simp [List.getD, List.getElem?_eq_getElem (show i < xs.length by omega)]
theorem strs_new (w : World) (xs : List ByteArray) : StrsAt (w.alloc (.cells (xs.map Value.string).toArray 9)) (some ⟨w.heap.size, 0, none⟩) xs.length xs :=
  ⟨rfl, .inr ⟨w.heap.size, 0, rfl, by simp, fun i hi => by
    rw [cell_of_row _ w.heap.size (0 + i) (xs.map Value.string).toArray 9 (0, 0) (heap_alloc_new w _)]
    simp [List.getD, List.getElem?_eq_getElem hi]⟩⟩

theorem wpList_append_runT {P : Program} {ops : Array Oper} {rest : List Oper} {o : Oper} {a : Act} {Q : Exit → Act → World → Prop} {w w' : World} (hgd : o.guard = none) (s x : Operand) (t : TypeId)
    (ho : o.op = .call { callee := .builtin .append, args := #[s, x], argTypes := #[t, t] }) (v u v' : Value) (hs : a.eval s = v) (hx : a.eval x = u)
    (hr : (Builtin.append_ #[t, t] o.type #[v, u]).run P w = .ok v' w') (h : wpList P ops Q rest (a.put o.dst v') w') : wpList P ops Q (o :: rest) a w :=
  wpList_plain hgd fun _ hK => by
    unfold Oper.wp execOp
    simp only [ho, resolve, invoke, builtin, Sem.run_bind, Sem.run_pure, Result.andThen_ok, List.map_toArray, List.map_cons, List.map_nil, hs, hx, hr]
    exact hK _ _ h
theorem infoStr : (Tryz.prog.info? 9).map (fun i => (i.zero, i.size, i.bytes)) = some (some (.string ⟨#[]⟩), 1, 16) := by kernel_rfl
/-- One text is appended to a row that is owned, or nil. -/
theorem append_str1 (B m : Nat) (v : Value) (ys : List ByteArray) (x : ByteArray) (w : World) (ho : w.ownsRow B 9 1 v m (ys.map Value.string)) (hB : B ≤ w.heap.size) (hs : m + 1 ≤ 4194304) :
    ∃ (g' c' : Nat) (w' : World), (Builtin.append_ #[123, 123] 123 #[v, .slice (some ⟨w.heap.size, 0, none⟩) 1 1]).run Tryz.prog (w.alloc (.cells #[.string x] 9)) = .ok (.slice (some ⟨g', 0, none⟩) (m + 1) c') w' ∧
      w'.ownsRow B 9 1 (.slice (some ⟨g', 0, none⟩) (m + 1) c') (m + 1) ((ys ++ [x]).map Value.string) ∧ w.grownBy w' v.ownBlock := by
  obtain ⟨i, hi, hz0, hz1, hz2⟩ := info_parts infoStr
  obtain ⟨g', c', w', hr, hown, hgrow, hl, _⟩ := run_append_lies (P := Tryz.prog) (w.alloc (.cells #[.string x] 9)) 123 123 B 9 i (.string ⟨#[]⟩) 1 16 Tryz.underlying123 hi hz0 hz1 hz2 rfl (by omega) v m _ (ho.alloc _) ⟨w.heap.size, 0, none⟩ 1 1 [.string x] rfl
    (cell_one_new _ _ _) (fun u hu => by rw [List.mem_singleton] at hu; subst hu; rfl) (by omega) (by unfold maxLen; omega) (by omega) (by simp; omega) _ rfl
  exact ⟨g', c', w', hr, by rw [List.map_append]; exact hown, (World.grownBy_alloc w _ _).trans hgrow⟩

abbrev OwnsStr (B : Nat) (w : World) (a : Option Addr) (n cap : Nat) (xs : List ByteArray) : Prop := w.ownsRow B 9 1 (.slice a n cap) n (xs.map Value.string)
def PartsP (w : World) (s : ByteArray) (e : Ending) (w' : World) : Prop := ∃ (a : Option Addr) (c : Nat), e = .returned (.slice a (partsB s).length c) ∧ StrsAt w' a (partsB s).length (partsB s) ∧ Below w.heap.size w w'
set_option maxHeartbeats 1000000 in
theorem specParts_any (s : ByteArray) (w : World) (hs : s.size ≤ 24) : Calls Tryz.prog 71 #[.string s] w (PartsP w s) := by
  have HO := hidT (show OwnsStr w.heap.size (w.alloc (.cells #[] 9)) (some ⟨w.heap.size, 0, none⟩) 0 0 [] from ⟨rfl, .inr ⟨w.heap.size, 0, #[], rfl, Nat.le_refl _, heap_alloc_new w _, Nat.le_refl _, Nat.zero_le _, rfl, rfl⟩⟩)
  go_enter Tryz.func71, Tryz.ntmps71
  go_wp2
  go_loopw [3, 4, 5] (fun v f i wr => (∃ (k b m cp : Nat) (a : Option Addr) (xs : List ByteArray), f = .int .i64 (b : Int) ∧ i = .int .i64 (k : Int) ∧ v = .slice a m cp ∧ CutAt s xs b k ∧ xs.length = m ∧ OwnsStr w.heap.size wr a m cp xs ∧ Below w.heap.size w wr) ∨
      (∃ (m cp : Nat) (a : Option Addr) (b : Int), f = .int .i64 b ∧ i = .int .i64 ((s.size : Int) + 1) ∧ v = .slice a m cp ∧ m = (partsB s).length ∧ OwnsStr w.heap.size wr a m cp (partsB s) ∧ Below w.heap.size w wr)) (fun _ _ i _ => s.size + 1 - (intOf i).toNat)
  case atStart => exact .inl ⟨0, 0, 0, 0, _, [], rfl, rfl, rfl, CutAt.start s, rfl, HO.out, bl_alloc (Below.refl _ _) _⟩
  case round =>
    rename_i wr
    rcases hrel with ⟨k, b, m, cp, a, xs, rfl, rfl, rfl, hcut, hlen, hor, hbr⟩ | ⟨m, cp, a, b, rfl, rfl, rfl, hm, hor, hbr⟩
    · have hk := hcut.lt
      have hbk := hcut.le
      have hfew := hcut.few
      obtain ⟨g', c', w', hr, ho', hg⟩ := append_str1 w.heap.size m _ xs (s.extract b k) wr hor hbr.size (by omega)
      have hb' : Below w.heap.size w w' := hbr.grown hg hbr.size (fun j hj => (World.ownsRow.lt hor j hj).1)
      have Hr := hidT hr
      have Ho' := hidT ho'
      have Hor := hidT hor
      have HC := hidT hcut
      have HL := hidT hlen
      clear hr ho' hor hg hcut hlen
      by_cases hks : k = s.size
      · subst hks
        go_wp2_with (first | (at_builtin; refine wpList_append_runT rfl _ _ 123 rfl _ _ _ rfl rfl Hr.out ?_) | fail)
        go_roundw
        case rel => exact .inr ⟨m + 1, c', _, _, rfl, rfl, rfl, by rw [← HC.out.done rfl, List.length_append, HL.out]; rfl, by rw [← HC.out.done rfl]; exact Ho'.out, hb'⟩
        case measure => simp [intOf]
      · have hlt : k < s.size := by omega
        have hne : ((k : Int) == (s.size : Int)) = false := by simp; omega
        by_cases hd : s[k] = 46
        · have hd1 : ((s[k].toNat : Int) == 46) = true := by rw [hd]; decide
          have HD := hidT hd
          clear hd hks
          go_wp2_with (first | (at_builtin; refine wpList_append_runT rfl _ _ 123 rfl _ _ _ rfl rfl Hr.out ?_) | fail)
          go_roundw
          case rel => exact .inl ⟨k + 1, k + 1, m + 1, c', _, _, by go_num, by go_num, rfl, HC.out.cut hlt HD.out, by rw [List.length_append, HL.out]; rfl, Ho'.out, hb'⟩
          case measure => simp [intOf]; omega
        · have hd1 : ((s[k].toNat : Int) == 46) = false := by
            rw [beq_eq_false_iff_ne]
            intro e
            exact hd (UInt8.toNat_inj.1 (by simpa using (show s[k].toNat = 46 by omega)))
          have HD := hidT hd
          clear hd hks
          go_wp2_with (first | (at_builtin; refine wpList_append_runT rfl _ _ 123 rfl _ _ _ rfl rfl Hr.out ?_) | fail)
          go_roundw
          case rel => exact .inl ⟨k + 1, b, m, cp, _, xs, by go_num, by go_num, rfl, HC.out.go hlt HD.out, HL.out, Hor.out, hbr⟩
          case measure => simp [intOf]; omega
    · have HM := hidT hm
      have Hor := hidT hor
      clear hm hor
      go_wp2
      go_ret
      obtain rfl := HM.out
      exact ⟨a, cp, rfl, strs_of Hor.out _ rfl, hbr⟩
end Go.Proofs.YtffpecdjfcgadaaGreatDoor
namespace Go.Proofs
open Go.Shelf
def Tryz.lays146_ren : Go.Shelf.Ren := ⟨fun | 146 => 93 | 221 => 103 | 268 => 106 | 138 => 107 | 143 => 108 | 195 => 113 | 197 => 114 | 218 => 115 | 219 => 116 | 260 => 124 | 217 => 125 | 225 => 126 | 224 => 127 | 267 => 128 | 266 => 139 | 314 => 140 | n => n, fun | 9 => 9 | 31 => 123 | 3 => 3 | 4 => 4 | 0 => 0 | 105 => 179 | 21 => 21 | 5 => 5 | 46 => 186 | 119 => 190 | 139 => 193 | 138 => 192 | 146 => 195 | 51 => 194 | n => n, fun | 1 => 0 | 3 => 1 | 4 => 2 | n => n⟩
theorem Tryz.lays146 : Go.Proofs.Lays.n146 Tryz.prog Tryz.lays146_ren := {
  mixed := by kernel_rfl
  f138 := Tryz.func107.trans (congrArg some (by kernel_rfl))
  f143 := Tryz.func108.trans (congrArg some (by kernel_rfl))
  f146 := Tryz.func93.trans (congrArg some (by kernel_rfl))
  f195 := Tryz.func113.trans (congrArg some (by kernel_rfl))
  f197 := Tryz.func114.trans (congrArg some (by kernel_rfl))
  f217 := Tryz.func125.trans (congrArg some (by kernel_rfl))
  f218 := Tryz.func115.trans (congrArg some (by kernel_rfl))
  f219 := Tryz.func116.trans (congrArg some (by kernel_rfl))
  f221 := Tryz.func103.trans (congrArg some (by kernel_rfl))
  f224 := Tryz.func127.trans (congrArg some (by kernel_rfl))
  f225 := Tryz.func126.trans (congrArg some (by kernel_rfl))
  f260 := Tryz.func124.trans (congrArg some (by kernel_rfl))
  f266 := Tryz.func139.trans (congrArg some (by kernel_rfl))
  f267 := Tryz.func128.trans (congrArg some (by kernel_rfl))
  f268 := Tryz.func106.trans (congrArg some (by kernel_rfl))
  f314 := Tryz.func140.trans (congrArg some (by kernel_rfl))
  t0 := Tryz.underlying0
  a0 := Tryz.isAgg0
  z0 := Tryz.sizeOf0
  v0 := Tryz.zeroValue0
  t3 := Tryz.underlying3
  a3 := Tryz.isAgg3
  z3 := Tryz.sizeOf3
  v3 := Tryz.zeroValue3
  t4 := Tryz.underlying4
  a4 := Tryz.isAgg4
  z4 := Tryz.sizeOf4
  v4 := Tryz.zeroValue4
  t5 := Tryz.underlying5
  a5 := Tryz.isAgg5
  z5 := Tryz.sizeOf5
  v5 := Tryz.zeroValue5
  t9 := Tryz.underlying9
  a9 := Tryz.isAgg9
  z9 := Tryz.sizeOf9
  v9 := Tryz.zeroValue9
  t21 := Tryz.underlying21
  a21 := Tryz.isAgg21
  z21 := Tryz.sizeOf21
  v21 := Tryz.zeroValue21
  t31 := Tryz.underlying123
  a31 := Tryz.isAgg123
  z31 := Tryz.sizeOf123
  v31 := Tryz.zeroValue123
  t46 := Tryz.underlying186
  a46 := Tryz.isAgg186
  z46 := Tryz.sizeOf186
  v46 := Tryz.zeroValue186
  t51 := Tryz.underlying194
  a51 := Tryz.isAgg194
  z51 := Tryz.sizeOf194
  v51 := Tryz.zeroValue194
  t105 := Tryz.underlying179
  a105 := Tryz.isAgg179
  z105 := Tryz.sizeOf179
  v105 := Tryz.zeroValue179
  t119 := Tryz.underlying190
  a119 := Tryz.isAgg190
  z119 := Tryz.sizeOf190
  t138 := Tryz.underlying192
  a138 := Tryz.isAgg192
  z138 := Tryz.sizeOf192
  v138 := Tryz.zeroValue192
  t139 := Tryz.underlying193
  a139 := Tryz.isAgg193
  z139 := Tryz.sizeOf193
  v139 := Tryz.zeroValue193
  t146 := Tryz.underlying195
  a146 := Tryz.isAgg195
  z146 := Tryz.sizeOf195
  v146 := Tryz.zeroValue195
  g1 := by kernel_rfl
  g3 := by kernel_rfl
  g4 := by kernel_rfl }
end Go.Proofs
namespace Go.Proofs.YtffpecdjfcgadaaGreatDoor
open Go.RowKit Pl Il Tn Go.Shelf

/-- The library's variable holds some number. -/
def GOkT (w : World) : Prop := ∃ m, w.cell? ⟨0, 0, none⟩ = some (.int .i64 m)
theorem GOkT.lt {w : World} (h : GOkT w) : 0 < w.heap.size := by
  obtain ⟨m, hm⟩ := h
  exact World.block_lt_of_cell? _ _ hm
theorem GOkT.keep {w w' : World} (h : GOkT w) (hb : Below w.heap.size w w') : GOkT w' := by
  have hl := h.lt
  obtain ⟨m, hm⟩ := h
  exact ⟨m, by rw [hb.cell (p := ⟨0, 0, none⟩) hl]; exact hm⟩
theorem split_any (s : ByteArray) (w : World) (hs : s.size ≤ 24) (hg : GOkT w) : Calls Tryz.prog 93 #[.string s, .string ⟨#[46]⟩] w (PartsP w s) := by
  obtain ⟨m, hm⟩ := hg
  refine (Any.strings_Split (P := Tryz.prog) (ρ := Tryz.lays146_ren) Tryz.lays146 infoStr s ⟨#[46]⟩ m w (by omega) hm (by decide)).mono ?_
  rintro e w' ⟨rfl, rfl⟩
  refine ⟨some ⟨w.heap.size, 0, none⟩, Lib.countB s ⟨#[46]⟩ + 1, ?_, ?_, bl_alloc (Below.refl _ _) _⟩
  · rw [parts_len]; rfl
  · exact strs_new w (partsB s)
theorem partsOf_any (s : ByteArray) (w : World) (hs : s.size ≤ 24) (hg : GOkT w) : Calls Tryz.prog 77 #[.string s] w (PartsP w s) := by
  have HS := hidT (split_any s w hs hg)
  go_enter Tryz.func77, Tryz.ntmps77
  go_wp2_with fail
  refine HS.out.mono ?_
  rintro e w' ⟨a, c, rfl, h1, h2⟩
  go_wp2
  go_ret
  exact ⟨a, c, rfl, h1, h2⟩
end Go.Proofs.YtffpecdjfcgadaaGreatDoor
namespace Go.Proofs.YtffpecdjfcgadaaGreatDoor
open Go.RowKit Pl Il Tn Go.Shelf

theorem beq_str {p g : ByteArray} (h : p = g) : (p.toList == g.toList) = true := by subst h; simp
theorem bne_str {p g : ByteArray} (h : ¬ p = g) : (p.toList == g.toList) = false := by
  rw [beq_eq_false_iff_ne, ByteArray.toList_eq, ByteArray.toList_eq]
  exact fun e => h (dat_inj e)
theorem rest_tl : rest.toList = [62] := by rw [ByteArray.toList_eq]; rfl
theorem star_tl : star.toList = [42] := by rw [ByteArray.toList_eq]; rfl
set_option maxHeartbeats 2000000 in
theorem partsOk_any (s : ByteArray) (a : Option Addr) (n c : Nat) (gs : List ByteArray) (w : World) (hs : s.size ≤ maxLen) (hg : GOkT w) (hS : StrsAt w a n gs) (hn : n ≤ 4) :
    Calls Tryz.prog 54 #[.string s, .slice a n c] w fun e w' => e = .returned (.bool (rightF (okG gs) s)) ∧ Below w.heap.size w w' := by
  unfold maxLen at hs
  by_cases hl : s.size ≤ 24
  · have HC := hidT (partsOf_any s w hl hg)
    have HR := hidT (right_parts (f := okG gs) hl)
    have hps := parts_size s
    have hpl := parts_le s
    go_enter Tryz.func54, Tryz.ntmps54
    go_wp2_with fail
    go_step3
    go_wp2_with fail
    refine HC.out.mono ?_
    rintro e w1 ⟨a1, c1, rfl, hP, hB⟩
    have hS1 := hS.keep hB
    clear hS HC hg
    generalize hpsd : partsB s = ps at *
    clear hpsd
    generalize hnd : ps.length = np at *
    have HN := hidT hnd
    clear hnd
    go_wp2_with fail
    go_step3
    go_wp2_with fail
    go_loopg [21] np (fun g i wr => ∃ k : Nat, k + g = np ∧ i = .int .i64 (k : Int) ∧ Hid (partsF (okG gs) np k (ps.drop k) = partsF (okG gs) np 0 ps) ∧ w1 = wr)
    case atStart => exact ⟨0, by omega, rfl, rfl, rfl⟩
    case round =>
      obtain ⟨k, hkg, rfl, HI, rfl⟩ := hrel
      cases gk with
      | zero =>
        have hkz : ¬ ((k : Int) < (np : Int)) := by omega
        have HE := hidT (show partsF (okG gs) np 0 ps = true by rw [← HI.out, show k = ps.length by have := HN.out; omega]; exact parts_end)
        go_wp2_with fail
        go_ret
        exact ⟨rboolT (by rw [HR.out, HE.out]), hB⟩
      | succ g0 =>
        have hkn : ((k : Int) < (np : Int)) := by omega
        have hkl : k < ps.length := by have := HN.out; omega
        have hst := parts_drop (f := okG gs) (n := np) hkl
        rcases hP.row with h0 | ⟨b, off, rfl, hb, hcell⟩
        · omega
        have hc := hcell k (by omega)
        have hpz := hps (ps.getD k ⟨#[]⟩) (by have e : ps.getD k ⟨#[]⟩ = ps[k] := by simp [List.getD, List.getElem?_eq_getElem hkl]
                                              rw [e]; exact List.getElem_mem _)
        generalize ps.getD k ⟨#[]⟩ = p at hc hst hpz
        have HST := hidT hst
        have HB := hidT hB
        have HP := hidT hP
        have HCL := hidT hcell
        have HPS := hidT hps
        clear hst hB hP hcell hps
        go_wp2_with fail
        have HKG := hidT hkg
        have HKL := hidT hkl
        clear hkg hkl
        go_loopg [28] n (fun g j wx => ∃ q : Nat, q + g = n ∧ j = .int .i64 (q : Int) ∧ Hid (signOk (gs.take q) (decide (k + 1 = np)) p = false) ∧ w1 = wx)
        case atStart => exact ⟨0, by omega, rfl, rfl, rfl⟩
        case round =>
          obtain ⟨q, hqg, rfl, HQ, rfl⟩ := hrel
          cases gk with
          | zero =>
            have hqz : ¬ ((q : Int) < (n : Int)) := by omega
            have HA := hidT (sign_all (gs := gs) (l := decide (k + 1 = np)) (p := p) (by rw [show gs.length = q by have := hS1.len; omega]; exact HQ.out))
            have HPl := hidT (isPlainPart_any p w1 (by unfold maxLen; omega))
            have HQG := hidT hqg
            clear hqg
            cases hpl' : plainP p
            · rw [hpl'] at HPl
              have HF := hidT (show partsF (okG gs) np 0 ps = false by rw [← HI.out, HST.out, HA.out, hpl', Bool.false_and])
              go_wp2_with fail
              refine HPl.out.mono ?_
              rintro e w2 ⟨rfl, rfl⟩
              go_wp2_with fail
              try rw [Exit.noGoto_ret]
              go_ret
              exact ⟨rboolT (by rw [HR.out, HF.out]), HB.out⟩
            · rw [hpl'] at HPl
              go_wp2_with fail
              refine HPl.out.mono ?_
              rintro e w2 ⟨rfl, rfl⟩
              go_wp2_with fail
              go_roundg g0
              case rel => exact ⟨k + 1, by have := HKG.out; omega, by go_num, (by rw [← HI.out, HST.out, HA.out, hpl', Bool.true_and] : _ = _), rfl⟩
              case measure => omega
          | succ gj =>
            have hqn : ((q : Int) < (n : Int)) := by omega
            have hql : q < gs.length := by have := hS1.len; omega
            rcases hS1.row with h0 | ⟨b', off', rfl, hb', hcell'⟩
            · omega
            have hc' := hcell' q (by omega)
            have HS1 := hidT hS1
            have HSt := hidT (sign_step (gs := gs) (l := decide (k + 1 = np)) (p := p) hql HQ.out)
            have HHi := hidT (sign_hit (gs := gs) (l := decide (k + 1 = np)) (p := p) hql)
            generalize gs.getD q ⟨#[]⟩ = g at hc' HSt HHi
            have HQG := hidT hqg
            have HQL := hidT hql
            clear hS1 hcell' hqg hql
            by_cases e1 : p = g
            · have f1 := beq_str e1
              by_cases e2 : g = rest
              · have f2 : (g.toList == [62]) = true := by rw [← rest_tl]; exact beq_str e2
                by_cases e3 : k + 1 = np
                · have f3 : ((k : Int) == (np : Int) - 1) = true := by simp; omega
                  have HT := hidT (HHi.out (by simp [e1, e2, e3]))
                  have HE1 := hidT e1
                  have HE2 := hidT e2
                  clear e1 e2
                  have HE3 := hidT e3
                  clear e3
                  go_wp2_with fail
                  go_roundg g0
                  case rel => exact ⟨k + 1, by have := HKG.out; omega, by go_num, (by rw [← HI.out, HST.out, okG, HT.out, Bool.true_or, Bool.true_and] : _ = _), rfl⟩
                  case measure => omega

                · have f3 : ((k : Int) == (np : Int) - 1) = false := by simp; omega
                  have HT := hidT (HSt.out (by simp [e1, e2, e3]))
                  have HE1 := hidT e1
                  have HE2 := hidT e2
                  have HE3 := hidT e3
                  clear e1 e2 e3
                  go_wp2_with fail
                  go_roundg gj
                  case rel => exact ⟨q + 1, by have := HQG.out; omega, by go_num, HT.out, rfl⟩
                  case measure => omega
              · have f2 : (g.toList == [62]) = false := by rw [← rest_tl]; exact bne_str e2
                have HT := hidT (HHi.out (by simp [e1, e2]))
                have HE1 := hidT e1
                have HE2 := hidT e2
                clear e1 e2
                go_wp2_with fail
                go_roundg g0
                case rel => exact ⟨k + 1, by have := HKG.out; omega, by go_num, (by rw [← HI.out, HST.out, okG, HT.out, Bool.true_or, Bool.true_and] : _ = _), rfl⟩
                case measure => omega
            · have f1 := bne_str e1
              go_wp2_with fail
              go_roundg gj
              case rel => exact ⟨q + 1, by have := HQG.out; omega, by go_num, HSt.out (by rw [show decide (p = g) = false by simpa using e1]; rfl), rfl⟩
              case measure => omega
  · have hr := right_long (f := okG gs) (s := s) (by omega)
    rw [hr]
    clear hr
    go_enter Tryz.func54, Tryz.ntmps54
    go_wp2
    go_step3
    go_wp2
    rw [Exit.noGoto_ret]
    go_ret
    exact ⟨rfl, Below.refl _ _⟩
end Go.Proofs.YtffpecdjfcgadaaGreatDoor
namespace Go.Proofs.YtffpecdjfcgadaaGreatDoor
open Go.RowKit Pl Il Tn Go.Shelf

theorem l1In_anyT (x lo hi : Int) (w : World) : Calls Tryz.prog 15 #[.int .i64 x, .int .i64 lo, .int .i64 hi] w fun e w' => e = .returned (.bool (decide (lo ≤ x) && decide (x ≤ hi))) ∧ w' = w := by
  by_cases h1 : lo ≤ x
  · by_cases h2 : x ≤ hi
    · go_enter Tryz.func15, Tryz.ntmps15
      go_wp2
      go_ret
      exact ⟨rboolT (by simp [h1, h2]), rfl⟩
    · have h2' : decide (x ≤ hi) = false := by simpa using h2
      go_enter Tryz.func15, Tryz.ntmps15
      go_wp2
      go_ret
      exact ⟨rboolT (by simp), rfl⟩
  · have h1' : decide (lo ≤ x) = false := by simpa using h1
    go_enter Tryz.func15, Tryz.ntmps15
    go_wp2
    go_ret
    exact ⟨rboolT (by simp), rfl⟩
theorem ok_cases (st l : Bool) (p : ByteArray) : (okPart st l p = true ∧ ((st = true ∧ p = star) ∨ (st = true ∧ ¬ p = star ∧ p = rest ∧ l = true))) ∨
    ((st = false ∨ (st = true ∧ ¬ p = star ∧ ¬ p = rest) ∨ (st = true ∧ ¬ p = star ∧ p = rest ∧ l = false)) ∧ okPart st l p = plainP p) := by
  cases st
  · right; exact ⟨.inl rfl, by simp [okPart]⟩
  · by_cases h1 : p = star
    · left; exact ⟨by simp [okPart, h1], .inl ⟨rfl, h1⟩⟩
    · by_cases h2 : p = rest
      · cases l
        · right; exact ⟨.inr (.inr ⟨rfl, h1, h2, rfl⟩), by simp [okPart, h1]⟩
        · left; exact ⟨by simp [okPart, h2], .inr ⟨rfl, h1, h2, rfl⟩⟩
      · right; exact ⟨.inr (.inl ⟨rfl, h1, h2⟩), by simp [okPart, h1, h2]⟩
set_option maxHeartbeats 8000000 in
theorem specRight_any (s : ByteArray) (st : Bool) (w : World) (hs : s.size ≤ maxLen) :
    Calls Tryz.prog 46 #[.string s, .bool st] w fun e w' => e = .returned (.bool (rightN st s)) ∧ Below w.heap.size w w' := by
  unfold maxLen at hs
  have HIn := hidT (l1In_anyT (s.size : Int) 1 24 w)
  by_cases hin : 1 ≤ s.size ∧ s.size ≤ 24
  · obtain ⟨h1, hl⟩ := hin
    rw [show (decide ((1 : Int) ≤ (s.size : Int)) && decide ((s.size : Int) ≤ 24)) = true by simp; omega] at HIn
    have HC := hidT (specParts_any s w hl)
    have HR := hidT (show rightN st s = partsF (okPart st) (partsB s).length 0 (partsB s) from right_parts hl)
    have hps := parts_size s
    have hpl := parts_le s
    go_enter Tryz.func46, Tryz.ntmps46
    go_wp2_with fail
    refine HIn.out.mono ?_
    rintro e w0 ⟨rfl, rfl⟩
    go_wp2_with fail
    refine HC.out.mono ?_
    rintro e w1 ⟨a1, c1, rfl, hP, hB⟩
    clear HC HIn
    generalize hpsd : partsB s = ps at *
    clear hpsd
    generalize hnd : ps.length = np at *
    have HN := hidT hnd
    clear hnd
    go_wp2_with fail
    go_loopg [6] np (fun g i wr => ∃ k : Nat, k + g = np ∧ i = .int .i64 (k : Int) ∧ Hid (partsF (okPart st) np k (ps.drop k) = partsF (okPart st) np 0 ps) ∧ w1 = wr)
    case atStart => exact ⟨0, by omega, rfl, rfl, rfl⟩
    case round =>
      obtain ⟨k, hkg, rfl, HI, rfl⟩ := hrel
      cases gk with
      | zero =>
        have hkz : ¬ ((k : Int) < (np : Int)) := by omega
        have HE := hidT (show partsF (okPart st) np 0 ps = true by rw [← HI.out, show k = ps.length by have := HN.out; omega]; exact parts_end)
        go_wp2_with fail
        go_ret
        exact ⟨rboolT (by rw [HR.out, HE.out]), hB⟩
      | succ g0 =>
        have hkn : ((k : Int) < (np : Int)) := by omega
        have hkl : k < ps.length := by have := HN.out; omega
        have hst := parts_drop (f := okPart st) (n := np) hkl
        rcases hP.row with h0 | ⟨b, off, rfl, hb, hcell⟩
        · omega
        have hc := hcell k (by omega)
        have hpz := hps (ps.getD k ⟨#[]⟩) (by have e : ps.getD k ⟨#[]⟩ = ps[k] := by simp [List.getD, List.getElem?_eq_getElem hkl]
                                              rw [e]; exact List.getElem_mem _)
        generalize ps.getD k ⟨#[]⟩ = p at hc hst hpz
        have HST := hidT hst
        have HB := hidT hB
        have HP := hidT hP
        have HCL := hidT hcell
        have HPS := hidT hps
        have HKG := hidT hkg
        have HKL := hidT hkl
        have HPl := hidT (specPlain_any p w1 (by unfold maxLen; omega))
        clear hst hB hP hcell hps hkl
        have hlast : decide (k + 1 = np) = ((k : Int) == (np : Int) - 1) := by
          rw [Bool.eq_iff_iff]; simp; omega
        rcases ok_cases st (decide (k + 1 = np)) p with ⟨hok, hw⟩ | ⟨hw, hok⟩
        · have HOK := hidT hok
          clear hok hkg
          rcases hw with ⟨rfl, e1⟩ | ⟨rfl, e1, e2, e3⟩
          · have f1 : (p.toList == [42]) = true := by rw [← star_tl]; exact beq_str e1
            have HE1 := hidT e1
            have HLa := hidT hlast
            clear e1 hlast
            go_wp2_with fail
            go_roundg g0
            case rel => exact ⟨k + 1, by have := HKG.out; omega, by go_num, (by rw [← HI.out, HST.out, HOK.out, Bool.true_and] : _ = _), rfl⟩
            case measure => omega
          · have f1 : (p.toList == [42]) = false := by rw [← star_tl]; exact bne_str e1
            have f2 : (p.toList == [62]) = true := by rw [← rest_tl]; exact beq_str e2
            rw [hlast] at e3
            have HE1 := hidT e1
            have HE2 := hidT e2
            have HLa := hidT hlast
            clear e1 e2 hlast
            go_wp2_with fail
            go_roundg g0
            case rel => exact ⟨k + 1, by have := HKG.out; omega, by go_num, (by rw [← HI.out, HST.out, HOK.out, Bool.true_and] : _ = _), rfl⟩
            case measure => omega
        · have HOK := hidT hok
          clear hok hkg
          cases hq : plainP p
          · rw [hq] at HPl HOK
            have HF := hidT (show partsF (okPart st) np 0 ps = false by rw [← HI.out, HST.out, HOK.out, Bool.false_and])
            clear hq
            rcases hw with rfl | ⟨rfl, e1, e2⟩ | ⟨rfl, e1, e2, e3⟩
            · have HLa := hidT hlast
              clear hlast
              go_wp2_with fail
              refine HPl.out.mono ?_
              rintro e w2 ⟨rfl, rfl⟩
              go_wp2_with fail
              go_ret
              exact ⟨rboolT (by rw [HR.out, HF.out]), HB.out⟩
            · have f1 : (p.toList == [42]) = false := by rw [← star_tl]; exact bne_str e1
              have f2 : (p.toList == [62]) = false := by rw [← rest_tl]; exact bne_str e2
              clear e1 e2 hlast
              go_wp2_with fail
              refine HPl.out.mono ?_
              rintro e w2 ⟨rfl, rfl⟩
              go_wp2_with fail
              go_ret
              exact ⟨rboolT (by rw [HR.out, HF.out]), HB.out⟩
            · have f1 : (p.toList == [42]) = false := by rw [← star_tl]; exact bne_str e1
              have f2 : (p.toList == [62]) = true := by rw [← rest_tl]; exact beq_str e2
              rw [hlast] at e3
              clear e1 e2 hlast
              go_wp2_with fail
              refine HPl.out.mono ?_
              rintro e w2 ⟨rfl, rfl⟩
              go_wp2_with fail
              go_ret
              exact ⟨rboolT (by rw [HR.out, HF.out]), HB.out⟩
          · rw [hq] at HPl HOK
            clear hq
            rcases hw with rfl | ⟨rfl, e1, e2⟩ | ⟨rfl, e1, e2, e3⟩
            · have HLa := hidT hlast
              clear hlast
              go_wp2_with fail
              refine HPl.out.mono ?_
              rintro e w2 ⟨rfl, rfl⟩
              go_wp2_with fail
              go_roundg g0
              case rel => exact ⟨k + 1, by have := HKG.out; omega, by go_num, (by rw [← HI.out, HST.out, HOK.out, Bool.true_and] : _ = _), rfl⟩
              case measure => omega
            · have f1 : (p.toList == [42]) = false := by rw [← star_tl]; exact bne_str e1
              have f2 : (p.toList == [62]) = false := by rw [← rest_tl]; exact bne_str e2
              clear e1 e2 hlast
              go_wp2_with fail
              refine HPl.out.mono ?_
              rintro e w2 ⟨rfl, rfl⟩
              go_wp2_with fail
              go_roundg g0
              case rel => exact ⟨k + 1, by have := HKG.out; omega, by go_num, (by rw [← HI.out, HST.out, HOK.out, Bool.true_and] : _ = _), rfl⟩
              case measure => omega
            · have f1 : (p.toList == [42]) = false := by rw [← star_tl]; exact bne_str e1
              have f2 : (p.toList == [62]) = true := by rw [← rest_tl]; exact beq_str e2
              rw [hlast] at e3
              clear e1 e2 hlast
              go_wp2_with fail
              refine HPl.out.mono ?_
              rintro e w2 ⟨rfl, rfl⟩
              go_wp2_with fail
              go_roundg g0
              case rel => exact ⟨k + 1, by have := HKG.out; omega, by go_num, (by rw [← HI.out, HST.out, HOK.out, Bool.true_and] : _ = _), rfl⟩
              case measure => omega
  · have hr : rightN st s = false := by
      by_cases h0 : s.size = 0
      · exact right_nil st s h0
      · exact right_long (by omega)
    rw [show (decide ((1 : Int) ≤ (s.size : Int)) && decide ((s.size : Int) ≤ 24)) = false by
      rw [Bool.and_eq_false_iff]; simp; omega] at HIn
    rw [hr]
    clear hr
    go_enter Tryz.func46, Tryz.ntmps46
    go_wp2_with fail
    refine HIn.out.mono ?_
    rintro e w0 ⟨rfl, rfl⟩
    go_wp2_with fail
    go_ret
    exact ⟨rfl, Below.refl _ _⟩
theorem specName_any (s : ByteArray) (w : World) (hs : s.size ≤ maxLen) : Calls Tryz.prog 28 #[.string s] w fun e w' => e = .returned (.bool (rightN false s)) ∧ Below w.heap.size w w' := by
  have H := hidT (specRight_any s false w hs)
  go_enter Tryz.func28, Tryz.ntmps28
  go_wp2_with fail
  refine H.out.mono ?_
  rintro e w1 ⟨rfl, hB⟩
  go_wp2_with fail
  go_ret
  exact ⟨rfl, hB⟩
theorem implName_any (s : ByteArray) (w : World) (hs : s.size ≤ maxLen) (hg : GOkT w) : Calls Tryz.prog 34 #[.string s] w fun e w' => e = .returned (.bool (rightN false s)) ∧ Below w.heap.size w w' := by
  have H := hidT (partsOk_any s none 0 0 [] w hs hg (StrsAt.nil _ _) (by omega))
  rw [okG_no] at H
  go_enter Tryz.func34, Tryz.ntmps34
  go_wp2_with fail
  refine H.out.mono ?_
  rintro e w1 ⟨rfl, hB⟩
  go_wp2_with fail
  go_ret
  exact ⟨rfl, hB⟩
end Go.Proofs.YtffpecdjfcgadaaGreatDoor
namespace Go.Proofs.YtffpecdjfcgadaaGreatDoor
open Go.RowKit Pl Il Tn

/-- The first with that name, or -1. -/
def placeT (ns : List ByteArray) (s : ByteArray) : Int := match ns.findIdx? (fun n => decide (n = s)) with | some k => (k : Int) | none => -1
theorem placeT_at {ns : List ByteArray} {s : ByteArray} {k : Nat} (hk : k < ns.length) (h : ∀ j, j < k → ¬ ns.getD j ⟨#[]⟩ = s) (he : ns.getD k ⟨#[]⟩ = s) : placeT ns s = (k : Int) := by
  have hg : ∀ j (hj : j < ns.length), ns.getD j ⟨#[]⟩ = ns[j] := fun j hj => by rw [List.getD, List.getElem?_eq_getElem hj, Option.getD_some]
  have : ns.findIdx? (fun n => decide (n = s)) = some k := by
    rw [List.findIdx?_eq_some_iff_getElem]
    refine ⟨hk, by rw [hg k hk] at he; simpa using he, fun j hj => ?_⟩
    have h2 := h j hj
    rw [hg j (by omega)] at h2
    simpa using h2
  unfold placeT
  rw [this]
theorem placeT_none {ns : List ByteArray} {s : ByteArray} (h : ∀ j, j < ns.length → ¬ ns.getD j ⟨#[]⟩ = s) : placeT ns s = -1 := by
  have : ns.findIdx? (fun n => decide (n = s)) = none := by
    rw [List.findIdx?_eq_none_iff]
    intro x hx
    obtain ⟨j, hj, rfl⟩ := List.getElem_of_mem hx
    have := h j hj
    rw [List.getD, List.getElem?_eq_getElem hj, Option.getD_some] at this
    simpa using this
  unfold placeT
  rw [this]
/-- The names. -/
def nms (xs : List Ta) : List ByteArray := xs.map (·.nm)
theorem nms_get {xs : List Ta} {k : Nat} (hk : k < xs.length) : (nms xs).getD k ⟨#[]⟩ = (tg xs k).nm := by
  rw [List.getD, List.getElem?_eq_getElem (by simpa [nms] using hk), Option.getD_some, tg_eq hk]
  simp [nms]
/-- One of them is right: its name, its ring, and no one ahead has that name. -/
def okTa (xs : List Ta) (i : Nat) : Bool := rightN false (tg xs i).nm && (okR restR (tg xs i).v && decide (∀ j, j < i → ¬ (tg xs j).nm = (tg xs i).nm))
def topTo (xs : List Ta) (k : Nat) : Prop := ∀ i, i < k → okTa xs i = true
def okTs (xs : List Ta) : Bool := decide (xs.length ≤ 12) && decide (∀ i, i < xs.length → okTa xs i = true)
theorem okTs_long {xs : List Ta} (h : ¬ xs.length ≤ 12) : okTs xs = false := by simp [okTs, h]
theorem okTs_bad {xs : List Ta} {i : Nat} (hi : i < xs.length) (h : okTa xs i = false) : okTs xs = false := by
  have : ¬ topTo xs xs.length := fun k => by rw [k i hi] at h; cases h
  have e : decide (∀ i, i < xs.length → okTa xs i = true) = false := decide_eq_false this
  unfold okTs
  rw [e, Bool.and_false]
theorem okTs_all {xs : List Ta} (hl : xs.length ≤ 12) (h : topTo xs xs.length) : okTs xs = true := by
  have e : decide (∀ i, i < xs.length → okTa xs i = true) = true := decide_eq_true h
  unfold okTs
  rw [e, decide_eq_true hl]
  rfl
theorem okTa_parts {xs : List Ta} {i : Nat} (h1 : rightN false (tg xs i).nm = true) (h2 : okR restR (tg xs i).v = true) (h3 : ∀ j, j < i → ¬ (tg xs j).nm = (tg xs i).nm) : okTa xs i = true := by
  unfold okTa
  rw [h1, h2]
  simpa using h3
theorem topTo_step {xs : List Ta} {k : Nat} (h : topTo xs k) (hk : okTa xs k = true) : topTo xs (k + 1) := fun i hi => by
  by_cases e : i = k
  · rw [e]; exact hk
  · exact h i (by omega)
/-- What is asked of a list of topics. -/
structure TWf (xs : List Ta) : Prop where
  le : TLe xs 1048576
  cap : TCap xs
  wf : ∀ x, x ∈ xs → RWf x.v
set_option maxRecDepth 100000 in
set_option maxHeartbeats 8000000 in
theorem specTopics_any (a : Option Addr) (n c : Nat) (xs : List Ta) (w : World) (hI : TopAt w a n xs) (hW : TWf xs) (hn : n ≤ 1048576) :
    Calls Tryz.prog 14 #[.slice a n c] w fun e w' => e = .returned (.bool (okTs xs)) ∧ Below w.heap.size w w' := by
  have HL := hidOf hI.len
  by_cases hlong : 12 < (n : Int)
  · have HE := hidOf (okTs_long (xs := xs) (by have := HL.out; omega))
    clear hI
    go_enter Tryz.func14, Tryz.ntmps14
    go_wp2_with fail
    go_ret
    exact ⟨rbool HE.out.symm, Below.refl _ _⟩
  have HI := hidOf hI
  have HW := hidOf hW
  have HLe := hidOf (show xs.length ≤ 12 by have := HL.out; omega)
  clear hI hW
  go_enter Tryz.func14, Tryz.ntmps14
  go_wp2_with fail
  go_loopw [3, 4] (fun i k0 wr => ∃ k : Nat, k ≤ n ∧ i = .int .i64 k ∧ topTo xs k ∧ Below w.heap.size w wr) (fun i _ _ => n - (intOf i).toNat)
  case atStart => exact ⟨0, Nat.zero_le _, rfl, fun i hi => (by omega), Below.refl _ _⟩
  case round =>
    rename World => wr
    obtain ⟨k, hk, rfl, ht, hB⟩ := hrel
    have HT := hidOf ht
    clear ht
    by_cases hlt : k < n
    · have hki : (k : Int) < (n : Int) := by omega
      have hkl : k < xs.length := by rw [HL.out]; exact hlt
      obtain hr | ⟨b, off, rfl, hb, hcell0⟩ := HI.out.row
      · omega
      have HCell := hidOf hcell0
      have hcell := fun i (hi : i < n) => (hcell0 i hi).below hB hb
      clear hcell0
      have hmem := tg_mem hkl
      obtain ⟨x, hx⟩ : ∃ x, tg xs k = x := ⟨_, rfl⟩
      rw [hx] at hmem
      have hck := hcell k hlt
      rw [hx] at hck
      obtain ⟨q0, q1, q2, q3, q4, q5, q6, q7, q8⟩ := id hck
      have HX := hidOf hx
      have HM := hidOf hmem
      have HB := hidOf hB
      have HKl := hidOf hkl
      have HN := hidOf (specName_any x.nm wr (HI.out.nms x hmem))
      obtain ⟨nq, hnq⟩ : ∃ q, rightN false x.nm = q := ⟨_, rfl⟩
      rw [hnq] at HN
      have HNq := hidOf hnq
      have HRk := hidOf (fun (u : World) (hu : Below w.heap.size w u) => specRingOk_any x.M x.v u ((HI.out.rin x hmem).keep hu) (HW.out.le x hmem) (HW.out.cap x hmem) (HW.out.wf x hmem))
      obtain ⟨rq, hrq⟩ : ∃ q, okR restR x.v = q := ⟨_, rfl⟩
      rw [hrq] at HRk
      have HRq := hidOf hrq
      clear hx hmem hnq hrq hcell hkl hB
      go_wp2_with fail
      refine (HN.out).mono ?_
      rintro e w1 ⟨rfl, b1⟩
      have HB1 := hidOf (bl_trans HB.out b1)
      cases nq
      · have HE := hidOf (okTs_bad HKl.out (show okTa xs k = false by unfold okTa; rw [HX.out, HNq.out]; rfl))
        clear q0 q1 q2 q3 q4 q5 q6 q7 q8 hck
        go_wp2_with fail
        go_ret
        exact ⟨rbool HE.out.symm, HB1.out⟩
      have hck1 := hck.below b1 (Nat.lt_of_lt_of_le hb HB.out.size)
      clear q0 q1 q2 q3 q4 q5 q6 q7 q8 hck b1
      obtain ⟨q0, q1, q2, q3, q4, q5, q6, q7, q8⟩ := id hck1
      go_wp2_with fail
      refine (HRk.out _ HB1.out).mono ?_
      rintro e w2 ⟨rfl, b2⟩
      have HB2 := hidOf (bl_trans HB1.out b2)
      clear q0 q1 q2 q3 q4 q5 q6 q7 q8 hck1 b2
      cases rq
      · have HE := hidOf (okTs_bad HKl.out (show okTa xs k = false by unfold okTa; rw [HX.out, HRq.out, HNq.out]; rfl))
        go_wp2_with fail
        go_ret
        exact ⟨rbool HE.out.symm, HB2.out⟩
      go_wp2_with fail
      go_loopw [4] (fun i wq => ∃ j : Nat, j ≤ k ∧ i = .int .i64 j ∧ (∀ i, i < j → ¬ (tg xs i).nm = x.nm) ∧ Below w.heap.size w wq) (fun i _ => k - (intOf i).toNat)
      case atStart => exact ⟨0, Nat.zero_le _, rfl, fun i hi => (by omega), HB2.out⟩
      case round =>
        rename World => wq
        obtain ⟨j, hj, rfl, hno, hBq⟩ := hrel
        have HNo := hidOf hno
        clear hno
        by_cases hjk : j < k
        · have hjki : (j : Int) < (k : Int) := by omega
          have hjn : (j : Int) < (n : Int) := by omega
          have dj := ((HCell.out j (by omega)).below hBq hb).c0
          have dk := ((HCell.out k hlt).below hBq hb).c0
          rw [HX.out] at dk
          obtain ⟨y, hy⟩ : ∃ y, tg xs j = y := ⟨_, rfl⟩
          rw [hy] at dj
          have HY := hidOf hy
          have HBq := hidOf hBq
          clear hy hBq
          by_cases hq : y.nm = x.nm
          · have HE := hidOf (okTs_bad HKl.out (show okTa xs k = false by
              unfold okTa
              have : ¬ ∀ i, i < k → ¬ (tg xs i).nm = (tg xs k).nm := fun h => h j hjk (by rw [HY.out, HX.out]; exact hq)
              simp [this]))
            have hqe := beq_str hq
            clear hq
            go_wp2_with fail
            go_region
            go_wp2_with fail
            go_ret
            exact ⟨rbool HE.out.symm, HBq.out.drew⟩
          · have hqe := bne_str hq
            have HQ := hidOf hq
            clear hq
            go_wp2_with fail
            go_region
            go_wp2_with fail
            go_roundw
            case rel => exact ⟨j + 1, by omega, by go_num, fun i hi => (by
              by_cases e : i = j
              · rw [e, HY.out]; exact HQ.out
              · exact HNo.out i (by omega)), HBq.out.drew⟩
            case measure => simp [intOf]; omega
        · have hjki : ¬ (j : Int) < (k : Int) := by omega
          have HS := hidOf (topTo_step HT.out (okTa_parts (by rw [HX.out]; exact HNq.out) (by rw [HX.out]; exact HRq.out) (fun i hi => by rw [HX.out]; exact HNo.out i (by omega))))
          go_wp2_with fail
          go_roundw
          case rel => exact ⟨k + 1, by omega, by go_num, HS.out, hBq⟩
          case measure => simp [intOf]; omega
    · have HE := hidOf (okTs_all HLe.out (fun i hi => HT.out i (by have := HL.out; omega)))
      have hki : ¬ (k : Int) < (n : Int) := by omega
      go_wp2_with fail
      go_ret
      exact ⟨rbool HE.out.symm, hB⟩
end Go.Proofs.YtffpecdjfcgadaaGreatDoor
namespace Go.Proofs.YtffpecdjfcgadaaGreatDoor
open Go.RowKit Pl Il

/-- The leg reads from a subscriber that waits at nothing, or is over. -/
def legR (xs : List Ta) (x : Lg) : Bool := x.ov || (decide (0 ≤ atR (tg xs x.tp.toNat).v.sb x.id) && (!hasL (tg xs x.tp.toNat).v.ln x.id && !hasL (tg xs x.tp.toNat).v.gs x.id))
def legN (xs : List Ta) (io : Int) (x : Lg) : Prop := (0 ≤ x.tp ∧ x.tp < xs.length) ∧ ¬ x.tp = io ∧ (0 ≤ x.lo ∧ x.lo ≤ 1000000000)
instance (xs : List Ta) (io : Int) (x : Lg) : Decidable (legN xs io x) := by unfold legN; infer_instance
def legB (xs : List Ta) (ls : List Lg) (io : Int) (i : Nat) : Bool := decide (legN xs io (lgg ls i)) && (decide (∀ k, k < i → ¬ (lgg ls k).tp = (lgg ls i).tp) && legR xs (lgg ls i))
def legsTo (xs : List Ta) (ls : List Lg) (io : Int) (k : Nat) : Prop := ∀ i, i < k → legB xs ls io i = true
def headM (xs : List Ta) (ls : List Lg) (io mv : Int) : Prop := (1 ≤ ls.length ∧ ls.length ≤ 6) ∧ (0 ≤ io ∧ io < xs.length) ∧ (0 ≤ mv ∧ mv ≤ 1000000000)
instance (xs : List Ta) (ls : List Lg) (io mv : Int) : Decidable (headM xs ls io mv) := by unfold headM; infer_instance
/-- A right merge over right topics. -/
def okMg (xs : List Ta) (ls : List Lg) (io mv : Int) : Bool := okTs xs && (decide (headM xs ls io mv) && decide (∀ i, i < ls.length → legB xs ls io i = true))
theorem okMg_top {xs : List Ta} {ls : List Lg} {io mv : Int} (h : okTs xs = false) : okMg xs ls io mv = false := by simp [okMg, h]
theorem okMg_head {xs : List Ta} {ls : List Lg} {io mv : Int} (h : ¬ headM xs ls io mv) : okMg xs ls io mv = false := by simp [okMg, h]
theorem okMg_leg {xs : List Ta} {ls : List Lg} {io mv : Int} {i : Nat} (hi : i < ls.length) (h : legB xs ls io i = false) : okMg xs ls io mv = false := by
  have : ¬ ∀ i, i < ls.length → legB xs ls io i = true := fun k => by rw [k i hi] at h; cases h
  unfold okMg
  rw [decide_eq_false this, Bool.and_false, Bool.and_false]
theorem okMg_all {xs : List Ta} {ls : List Lg} {io mv : Int} (h1 : okTs xs = true) (h2 : headM xs ls io mv) (h3 : legsTo xs ls io ls.length) : okMg xs ls io mv = true := by
  have e3 : decide (∀ i, i < ls.length → legB xs ls io i = true) = true := decide_eq_true h3
  unfold okMg
  rw [h1, decide_eq_true h2, e3]
  rfl
theorem legsTo_step {xs : List Ta} {ls : List Lg} {io : Int} {k : Nat} (h : legsTo xs ls io k) (hk : legB xs ls io k = true) : legsTo xs ls io (k + 1) := fun i hi => by
  by_cases e : i = k
  · rw [e]; exact hk
  · exact h i (by omega)
/-- What the program asks of the numbers, one by one: in range, and none ahead of it the same. -/
def tps (ls : List Lg) (io : Int) : List Int := ls.map (·.tp) ++ [io]
theorem tps_len (ls : List Lg) (io : Int) : (tps ls io).length = ls.length + 1 := by simp [tps]
theorem tps_get {ls : List Lg} {io : Int} {i : Nat} (hi : i < ls.length) : (tps ls io).getD i 0 = (lgg ls i).tp := by
  rw [List.getD, tps, List.getElem?_append_left (by simpa using hi)]
  simp [lgg_eq hi, hi]
theorem tps_last {ls : List Lg} {io : Int} : (tps ls io).getD ls.length 0 = io := by
  rw [List.getD, tps, List.getElem?_append_right (by simp)]
  simp
def numB (n : Nat) (l : List Int) (i : Nat) : Bool := decide (0 ≤ l.getD i 0 ∧ l.getD i 0 < (n : Int)) && decide (∀ k, k < i → ¬ l.getD k 0 = l.getD i 0)
def numsTo (n : Nat) (l : List Int) (k : Nat) : Prop := ∀ i, i < k → numB n l i = true
theorem numsTo_step {n : Nat} {l : List Int} {k : Nat} (h : numsTo n l k) (hk : numB n l k = true) : numsTo n l (k + 1) := fun i hi => by
  by_cases e : i = k
  · rw [e]; exact hk
  · exact h i (by omega)
theorem placeL_lt {l : List Int} {k : Nat} (hk : k < l.length) : placeL l (l.getD k 0) < (k : Int) ↔ ∃ j, j < k ∧ l.getD j 0 = l.getD k 0 := by
  have e0 : l.getD k 0 = l[k] := by simp [List.getD, List.getElem?_eq_getElem hk]
  constructor
  · intro h
    unfold placeL at h
    cases hf : l.findIdx? (· == l.getD k 0) with
    | none =>
      rw [List.findIdx?_eq_none_iff] at hf
      have := hf l[k] (List.getElem_mem hk)
      rw [e0] at this
      simp at this
    | some i =>
      rw [hf] at h
      simp only at h
      rw [List.findIdx?_eq_some_iff_getElem] at hf
      obtain ⟨h1, h2, _⟩ := hf
      exact ⟨i, by omega, by simpa [List.getD, List.getElem?_eq_getElem h1] using h2⟩
  · rintro ⟨j, hj, e⟩
    apply Classical.byContradiction
    intro hge
    unfold placeL at hge
    cases hf : l.findIdx? (· == l.getD k 0) with
    | none =>
      rw [hf] at hge
      simp only at hge
      omega
    | some i =>
      rw [hf] at hge
      simp only at hge
      rw [List.findIdx?_eq_some_iff_getElem] at hf
      obtain ⟨_, _, h3⟩ := hf
      have h4 := h3 j (by omega)
      have hj2 : j < l.length := by omega
      have e1 : l.getD j 0 = l[j] := by simp [List.getD, List.getElem?_eq_getElem hj2]
      rw [← e1, e] at h4
      simp at h4
theorem numB_at {n : Nat} {l : List Int} {i : Nat} (hi : i < l.length) : numB n l i = true ↔ (0 ≤ l.getD i 0 ∧ l.getD i 0 < (n : Int)) ∧ ¬ placeL l (l.getD i 0) < (i : Int) := by
  rw [placeL_lt hi]
  unfold numB
  rw [Bool.and_eq_true, decide_eq_true_eq, decide_eq_true_eq]
  constructor
  · rintro ⟨h1, h2⟩
    exact ⟨h1, fun ⟨j, hj, e⟩ => h2 j hj e⟩
  · rintro ⟨h1, h2⟩
    exact ⟨h1, fun j hj e => h2 ⟨j, hj, e⟩⟩
/-- The numbers that cross. -/
def crossB (n : Nat) (fr : List Int) (io : Int) : Bool := decide (1 ≤ fr.length ∧ fr.length ≤ 6) && decide (∀ i, i < (fr ++ [io]).length → numB n (fr ++ [io]) i = true)
def lostB (x : Lg) : Bool := decide (0 ≤ x.lo ∧ x.lo ≤ 1000000000)
/-- The program's way of asking for a right merge. -/
def okMp (xs : List Ta) (ls : List Lg) (io mv : Int) : Bool := okTs xs && (crossB xs.length (ls.map (·.tp)) io && (decide (0 ≤ mv ∧ mv ≤ 1000000000) && decide (∀ i, i < ls.length → (lostB (lgg ls i) && legR xs (lgg ls i)) = true)))
/-- Both ways are one. -/
theorem okMp_eq (xs : List Ta) (ls : List Lg) (io mv : Int) : okMp xs ls io mv = okMg xs ls io mv := by
  unfold okMp okMg
  cases okTs xs
  · rfl
  · simp only [Bool.true_and]
    rw [Bool.eq_iff_iff]
    simp only [crossB, Bool.and_eq_true, decide_eq_true_eq, legB, lostB]
    unfold headM legN
    have ht : ls.map (·.tp) ++ [io] = tps ls io := rfl
    rw [ht]
    constructor
    · rintro ⟨⟨h1, h2⟩, h3, h4⟩
      rw [List.length_map] at h1
      have hn : ∀ i, i < ls.length + 1 → (0 ≤ (tps ls io).getD i 0 ∧ (tps ls io).getD i 0 < (xs.length : Int)) ∧ ∀ k, k < i → ¬ (tps ls io).getD k 0 = (tps ls io).getD i 0 := fun i hi => by
        have := h2 i (by rw [tps_len]; exact hi)
        unfold numB at this
        rw [Bool.and_eq_true, decide_eq_true_eq, decide_eq_true_eq] at this
        exact this
      have hl := hn ls.length (by omega)
      rw [tps_last] at hl
      refine ⟨⟨h1, hl.1, h3⟩, fun i hi => ?_⟩
      have hi1 := hn i (by omega)
      rw [tps_get hi] at hi1
      have hi2 := h4 i hi
      refine ⟨⟨hi1.1, fun e => hl.2 i hi (by rw [tps_get hi]; exact e), hi2.1⟩, fun k hk => ?_, hi2.2⟩
      have := hi1.2 k hk
      rw [tps_get (by omega)] at this
      exact this
    · rintro ⟨⟨h1, h2, h3⟩, h4⟩
      refine ⟨⟨by rw [List.length_map]; exact h1, fun i hi => ?_⟩, h3, fun i hi => ⟨(h4 i hi).1.2.2, (h4 i hi).2.2⟩⟩
      rw [tps_len] at hi
      unfold numB
      rw [Bool.and_eq_true, decide_eq_true_eq, decide_eq_true_eq]
      by_cases e : i = ls.length
      · subst e
        rw [tps_last]
        exact ⟨h2, fun k hk => by rw [tps_get hk]; exact (h4 k hk).1.2.1⟩
      · have hi2 : i < ls.length := by omega
        rw [tps_get hi2]
        exact ⟨(h4 i hi2).1.1, fun k hk => by rw [tps_get (by omega)]; exact (h4 i hi2).2.1 k hk⟩
end Go.Proofs.YtffpecdjfcgadaaGreatDoor
