/-
  Walks of the specification's lines: a list without one, who joins, who leaves.
  Slices of grants in memory: what they read as, and what leaves that alone.
  Who waits and who was told: what is asked of them; where two lists lie.
  The plain mathematics of notifications (no program in it): which are right, and what the calls make of them.
  Notifications in memory: their variables, their two lists.
  Walks of what copies a list of grants.
  Walks of the specification's lines: who joins, who leaves, who is woken.
  Walks of the specification's lines: who is woken.
  The plain mathematics of a queue whose places stand in a map (no program in it).
  The program's queue in memory, and walks of its small methods.
-/
import Derived.Test.YtbhdjcggcgddfaaMrg1
import Derived.Deep.Upon
import Derived.Deep.RegionHeld3
import Derived.Maps.OwnSet
namespace Go.Proofs.Ytbhdjcggcgddfaa
open Go.RowKit Pl Il

/-- append of one number to a row that is owned, or nil. -/
theorem append_own1 (B m : Nat) (v : Value) (ys : List Int) (x : Int) (w : World) (ho : w.ownsRow B 3 1 v m (ys.map (Value.int .i64))) (hB : B ≤ w.heap.size) (hs : m + 1 ≤ 4194304) :
    ∃ (g' c' : Nat) (w' : World), (Builtin.append_ #[24, 24] 24 #[v, .slice (some ⟨w.heap.size, 0, none⟩) 1 1]).run Try.prog (w.alloc (.cells #[.int .i64 x] 3)) = .ok (.slice (some ⟨g', 0, none⟩) (m + 1) c') w' ∧
      w'.ownsRow B 3 1 (.slice (some ⟨g', 0, none⟩) (m + 1) c') (m + 1) ((ys ++ [x]).map (Value.int .i64)) ∧ w.grownBy w' v.ownBlock ∧ (v.ownBlock = some g' ∨ w.heap.size ≤ g') := by
  obtain ⟨i, hi, hz0, hz1, hz2⟩ := info_parts info3
  obtain ⟨g', c', w', hr, hown, hgrow, hl, _⟩ := run_append_lies (P := Try.prog) (w.alloc (.cells #[.int .i64 x] 3)) 24 24 B 3 i (.int .i64 0) 1 8 Try.underlying24 hi hz0 hz1 hz2 rfl (by omega) v m _ (ho.alloc _) ⟨w.heap.size, 0, none⟩ 1 1 [.int .i64 x] rfl
    (cell_one_new _ _ _) (fun u hu => by rw [List.mem_singleton] at hu; subst hu; rfl) (by omega) (by unfold maxLen; omega) (by omega) (by simp; omega) _ rfl
  refine ⟨g', c', w', hr, by rw [List.map_append]; exact hown, (World.grownBy_alloc w _ _).trans hgrow, ?_⟩
  rcases hl with h | h
  · exact .inl h
  · right; subst h; simp

theorem append_one (B g m c : Nat) (ys : List Int) (x : Int) (w w0 : World) (hB : B = w0.heap.size) (ho : Owns B w g m c ys) (hb : Below B w0 w) (hs : m + 1 ≤ 4194304) :
    ∃ (g' c' : Nat) (w' : World), (Builtin.append_ #[24, 24] 24 #[.slice (some ⟨g, 0, none⟩) m c, .slice (some ⟨w.heap.size, 0, none⟩) 1 1]).run Try.prog (w.alloc (.cells #[.int .i64 x] 3)) = .ok (.slice (some ⟨g', 0, none⟩) (m + 1) c') w' ∧
      Owns B w' g' (m + 1) c' (ys ++ [x]) ∧ Below B w0 w' := by
  subst hB
  have hb0 : Below w.heap.size w (w.alloc (.cells #[.int .i64 x] 3)) := bl_alloc (Below.refl _ _) _
  have hle := hb.size
  obtain ⟨_, hgB, _⟩ := owns_parts ho
  obtain ⟨g', c', w', hr, ho', hg⟩ := append_ints w0.heap.size g m c ys (some ⟨w.heap.size, 0, none⟩) 1 1 [x] (w.alloc (.cells #[.int .i64 x] 3)) (owns_keep ho hb0) (by simp; omega)
    ⟨rfl, .inr ⟨w.heap.size, 0, rfl, by simp, fun i hi => by obtain rfl : i = 0 := by omega
                                                             simp [World.cell?_alloc_new]⟩⟩ (by omega)
  exact ⟨g', c', w', hr, ho', (bl_alloc hb _).grown hg (by simp; omega) (fun k hk => by simp at hk; omega)⟩

/-- A list without the first that is x. -/
def lessL (xs : List Int) (x : Int) : List Int := xs.erase x
theorem less_nil (x : Int) : lessL [] x = [] := rfl
theorem less_skip {xs : List Int} {k : Nat} {x y : Int} (hk : k < xs.length) (hy : xs.getD k 0 = y) (h : hasL (xs.take k) x = false) (he : (y == x) = true) : lessL (xs.take (k + 1)) x = lessL (xs.take k) x := by
  rw [List.take_succ_eq_append_getElem hk]
  have e : xs.getD k 0 = xs[k] := by simp [List.getD, List.getElem?_eq_getElem hk]
  rw [e] at hy
  have hm : x ∉ xs.take k := by simpa [hasL] using h
  have hyx : y = x := by simpa using he
  unfold lessL
  rw [List.erase_append_right _ hm, hy, hyx, List.erase_of_not_mem hm]
  simp
theorem less_keep {xs : List Int} {k : Nat} {x y : Int} (hk : k < xs.length) (hy : xs.getD k 0 = y) (h : hasL (xs.take k) x = true ∨ (y == x) = false) : lessL (xs.take (k + 1)) x = lessL (xs.take k) x ++ [y] := by
  rw [List.take_succ_eq_append_getElem hk]
  have e : xs.getD k 0 = xs[k] := by simp [List.getD, List.getElem?_eq_getElem hk]
  rw [e] at hy
  unfold lessL
  rw [List.erase_append, hy]
  split
  · rfl
  · rename_i hn
    rcases h with h | h
    · exact absurd (by simpa [hasL] using h) hn
    · rw [List.erase_of_not_mem hn, List.erase_of_not_mem]
      simp only [List.mem_singleton]
      rintro rfl
      simp at h
theorem has_more {xs : List Int} {k : Nat} {x y : Int} (hk : k < xs.length) (hy : xs.getD k 0 = y) : hasL (xs.take (k + 1)) x = (hasL (xs.take k) x || (y == x)) := by
  rw [List.take_succ_eq_append_getElem hk]
  have e : xs.getD k 0 = xs[k] := by simp [List.getD, List.getElem?_eq_getElem hk]
  rw [e] at hy
  rw [Bool.eq_iff_iff]
  simp only [hasL, hy, List.contains_eq_mem, List.mem_append, List.mem_singleton, Bool.or_eq_true, decide_eq_true_eq, beq_iff_eq]
  exact ⟨fun h => h.imp id Eq.symm, fun h => h.imp id Eq.symm⟩
theorem less_len (xs : List Int) (x : Int) : (lessL xs x).length ≤ xs.length := List.length_erase_le

theorem l2Less_any (a : Option Addr) (n cap : Nat) (xs : List Int) (x : Int) (w : World) (hI : IntsAt w a n xs) (hn : n ≤ 2097152) :
    Calls Try.prog 95 #[.slice a n cap, .int .i64 x] w fun e w' => ∃ g m c, e = .returned (.slice (some ⟨g, 0, none⟩) m c) ∧ Owns w.heap.size w' g m c (lessL xs x) ∧ Below w.heap.size w w' := by
  obtain ⟨hlen, rfl | ⟨b, off, rfl, hb, hcell⟩⟩ := hI
  · have : xs = [] := List.length_eq_zero_iff.1 hlen
    subst this
    go_enter Try.func95, Try.ntmps95
    go_wp2
    go_loopw [5, 6, 7] (fun o d i wr => i = .int .i64 0 ∧ d = .bool false ∧ o = .slice (some ⟨w.heap.size, 0, none⟩) 0 0 ∧ Owns w.heap.size wr w.heap.size 0 0 [] ∧ Below w.heap.size w wr) (fun _ _ _ _ => 0)
    case atStart => exact ⟨rfl, rfl, rfl, owns_empty w, bl_alloc (Below.refl _ _) _⟩
    case round =>
      obtain ⟨rfl, rfl, rfl, ho, hbr⟩ := hrel
      go_wp2
      go_ret
      exact ⟨_, _, _, rfl, ho, hbr⟩
  · go_enter Try.func95, Try.ntmps95
    go_wp2
    go_loopw [5, 6, 7] (fun o d i wr => ∃ k m g c : Nat, k ≤ n ∧ i = .int .i64 k ∧ d = .bool (hasL (xs.take k) x) ∧ o = .slice (some ⟨g, 0, none⟩) m c ∧ Owns w.heap.size wr g m c (lessL (xs.take k) x) ∧ Below w.heap.size w wr) (fun _ _ i _ => n - (intOf i).toNat)
    case atStart => exact ⟨0, 0, w.heap.size, 0, Nat.zero_le _, rfl, rfl, rfl, owns_empty w, bl_alloc (Below.refl _ _) _⟩
    case round =>
      rename_i wr
      obtain ⟨k, m, g, c, hk, rfl, rfl, rfl, ho, hbr⟩ := hrel
      by_cases hlt : k < n
      · have hc : wr.cell? ⟨b, off + k, none⟩ = some (.int .i64 (xs.getD k 0)) := by rw [hbr.cell (p := ⟨b, off + k, none⟩) hb]; exact hcell k hlt
        generalize hy : xs.getD k 0 = y at hc
        have hm : m ≤ n := by
          have h1 := (owns_parts ho).1
          have h2 := less_len (xs.take k) x
          rw [List.length_take] at h2
          omega
        obtain ⟨g', c', w', hr, ho', hb'⟩ := append_one w.heap.size g m c _ y wr w rfl ho hbr (by omega)
        have HY : Hid _ := hy
        have Hr : Hid _ := hr
        have Ho : Hid _ := ho
        have Ho' : Hid _ := ho'
        have Hbr : Hid _ := hbr
        have Hb' : Hid _ := hb'
        have hkx : k < xs.length := by omega
        clear hy hcell hr ho ho' hbr hb'
        cases hh : hasL (xs.take k) x
        · cases he : (y == x)
          · have hne : y ≠ x := by simpa using he
            go_wp2_with (at_builtin; refine wpList_append_run rfl _ _ 24 rfl _ _ _ rfl rfl Hr.out ?_)
            go_roundw
            case rel => exact ⟨k + 1, m + 1, g', c', by omega, by go_num, by rw [has_more hkx HY.out, hh, he]; rfl, rfl, by rw [less_keep hkx HY.out (.inr he)]; exact Ho'.out, Hb'.out⟩
            case measure => simp [intOf]; omega
          · have hne : y = x := by simpa using he
            go_wp2
            go_roundw
            case rel => exact ⟨k + 1, m, g, c, by omega, by go_num, by rw [has_more hkx HY.out, hh, he]; rfl, rfl, by rw [less_skip hkx HY.out hh he]; exact Ho.out, Hbr.out⟩
            case measure => simp [intOf]; omega
        · cases he : (y == x)
          · have hne : y ≠ x := by simpa using he
            go_wp2_with (at_builtin; refine wpList_append_run rfl _ _ 24 rfl _ _ _ rfl rfl Hr.out ?_)
            go_roundw
            case rel => exact ⟨k + 1, m + 1, g', c', by omega, by go_num, by rw [has_more hkx HY.out, hh]; rfl, rfl, by rw [less_keep hkx HY.out (.inl hh)]; exact Ho'.out, Hb'.out⟩
            case measure => simp [intOf]; omega
          · obtain rfl : y = x := by simpa using he
            go_wp2_with (at_builtin; refine wpList_append_run rfl _ _ 24 rfl _ _ _ rfl rfl Hr.out ?_)
            go_roundw
            case rel => exact ⟨k + 1, m + 1, g', c', by omega, by go_num, by rw [has_more hkx HY.out, hh]; rfl, rfl, by rw [less_keep hkx HY.out (.inl hh)]; exact Ho'.out, Hb'.out⟩
            case measure => simp [intOf]; omega
      · obtain rfl : k = n := by omega
        clear hcell
        rw [List.take_of_length_le (by omega)] at ho
        go_wp2
        go_ret
        exact ⟨_, _, _, rfl, ho, hbr⟩
end Go.Proofs.Ytbhdjcggcgddfaa
namespace Go.Proofs.Ytbhdjcggcgddfaa
open Go.RowKit Pl Il

def gC (p : Int × Bool) : List Value := [.int .i64 p.1, .bool p.2]
def gflat (ts : List (Int × Bool)) : List Value := ts.flatMap gC
def gg (ts : List (Int × Bool)) (i : Nat) : Int × Bool := ts.getD i (0, false)
theorem length_gflat (l : List (Int × Bool)) : (gflat l).length = l.length * 2 := by
  induction l with
  | nil => rfl
  | cons x l ih => simp [gflat, gC] at ih ⊢; omega
theorem gflat_at : ∀ (l : List (Int × Bool)) (i r : Nat), i < l.length → r < 2 → (gflat l)[i * 2 + r]? = (gC (gg l i))[r]?
  | [], i, r, hi, _ => by simp at hi
  | x :: l, 0, r, _, hr => by
    have e : gflat (x :: l) = gC x ++ gflat l := by simp [gflat]
    rw [e, List.getElem?_append_left (by simp [gC]; omega)]
    simp [gg]
  | x :: l, i + 1, r, hi, hr => by
    have e : gflat (x :: l) = gC x ++ gflat l := by simp [gflat]
    have hc : (gC x).length = 2 := rfl
    rw [e, List.getElem?_append_right (by rw [hc]; omega), hc, show (i + 1) * 2 + r - 2 = i * 2 + r by omega, gflat_at l i r (by simpa using hi) hr]
    simp [gg]
theorem gflat_snoc (l : List (Int × Bool)) (x : Int × Bool) : gflat (l ++ [x]) = gflat l ++ gC x := by simp [gflat]
theorem gflat_append (l m : List (Int × Bool)) : gflat (l ++ m) = gflat l ++ gflat m := by simp [gflat]
theorem gg_eq {l : List (Int × Bool)} {i : Nat} (h : i < l.length) : gg l i = l[i] := by unfold gg; rw [List.getD_eq_getElem?_getD, List.getElem?_eq_getElem h]; rfl
theorem gg_take {l : List (Int × Bool)} {i n : Nat} (h : i < n) : gg (l.take n) i = gg l i := by unfold gg; rw [List.getD_eq_getElem?_getD, List.getD_eq_getElem?_getD, List.getElem?_take_of_lt h]
theorem take_gg {l : List (Int × Bool)} {k : Nat} (h : k < l.length) : l.take (k + 1) = l.take k ++ [gg l k] := by rw [List.take_succ_eq_append_getElem h, gg_eq h]
theorem drop_gg {l : List (Int × Bool)} {k : Nat} (h : k < l.length) : l.drop k = gg l k :: l.drop (k + 1) := by rw [List.drop_eq_getElem_cons h, gg_eq h]

/-- The slice at a, of n grants, reads as ts in w. -/
structure GrAt (w : World) (a : Option Addr) (n : Nat) (ts : List (Int × Bool)) : Prop where
  len : ts.length = n
  row : n = 0 ∨ ∃ b off, a = some ⟨b, off, none⟩ ∧ b < w.heap.size ∧ ∀ i, i < n → w.cell? ⟨b, off + i * 2, none⟩ = some (.int .i64 (gg ts i).1) ∧ w.cell? ⟨b, off + i * 2 + 1, none⟩ = some (.bool (gg ts i).2)
theorem GrAt.keep {w w' : World} {a : Option Addr} {n : Nat} {ts : List (Int × Bool)} (h : GrAt w a n ts) (hb : Below w.heap.size w w') : GrAt w' a n ts := by
  refine ⟨h.len, ?_⟩
  rcases h.row with k | ⟨b, off, rfl, hlt, hc⟩
  · exact .inl k
  · exact .inr ⟨b, off, rfl, Nat.lt_of_lt_of_le hlt hb.size, fun i hi => by rw [hb.cell (p := ⟨b, off + i * 2, none⟩) hlt, hb.cell (p := ⟨b, off + i * 2 + 1, none⟩) hlt]; exact hc i hi⟩
theorem GrAt.below {w w' : World} {B : Nat} {a : Option Addr} {n : Nat} {ts : List (Int × Bool)} (h : GrAt w a n ts) (hb : Below B w w') (hB : n = 0 ∨ ∀ b off, a = some ⟨b, off, none⟩ → b < B) : GrAt w' a n ts := by
  refine ⟨h.len, ?_⟩
  rcases h.row with k | ⟨b, off, rfl, hlt, hc⟩
  · exact .inl k
  · rcases hB with k | hB
    · exact .inl k
    · have hbB := hB b off rfl
      exact .inr ⟨b, off, rfl, Nat.lt_of_lt_of_le hlt hb.size, fun i hi => by rw [hb.cell (p := ⟨b, off + i * 2, none⟩) hbB, hb.cell (p := ⟨b, off + i * 2 + 1, none⟩) hbB]; exact hc i hi⟩
theorem GrAt.nil (w : World) (a : Option Addr) : GrAt w a 0 [] := ⟨rfl, .inl rfl⟩
theorem GrAt.lt {w : World} {a : Option Addr} {n : Nat} {ts : List (Int × Bool)} (h : GrAt w a n ts) : n = 0 ∨ ∀ b off, a = some ⟨b, off, none⟩ → b < w.heap.size := by
  rcases h.row with k | ⟨b, off, rfl, hlt, hc⟩
  · exact .inl k
  · exact .inr fun b' o' e => by cases e; exact hlt

/-- Its cells lie in blocks from B on, and may be written. -/
structure OwnG (B : Nat) (w : World) (a : Option Addr) (n : Nat) (ts : List (Int × Bool)) : Prop where
  gr : GrAt w a n ts
  own : n = 0 ∨ ∃ b off, a = some ⟨b, off, none⟩ ∧ B ≤ b ∧ ∀ o, w.frozen? ⟨b, o, none⟩ = false
theorem OwnG.keep {B : Nat} {w w' : World} {a : Option Addr} {n : Nat} {ts : List (Int × Bool)} (h : OwnG B w a n ts) (hb : Below w.heap.size w w') : OwnG B w' a n ts := by
  refine ⟨h.gr.keep hb, ?_⟩
  rcases h.own with k | ⟨b, off, rfl, hB, hf⟩
  · exact .inl k
  · rcases h.gr.row with k | ⟨b', off', e, hlt, _⟩
    · exact .inl k
    · cases e
      exact .inr ⟨b, off, rfl, hB, fun o => by rw [hb.frozen (p := ⟨b, o, none⟩) hlt]; exact hf o⟩
theorem OwnG.mono {B B' : Nat} {w : World} {a : Option Addr} {n : Nat} {ts : List (Int × Bool)} (h : OwnG B w a n ts) (hB : B' ≤ B) : OwnG B' w a n ts := by
  refine ⟨h.gr, ?_⟩
  rcases h.own with k | ⟨b, off, rfl, hb, hf⟩
  · exact .inl k
  · exact .inr ⟨b, off, rfl, Nat.le_trans hB hb, hf⟩
theorem OwnG.other {B : Nat} {w w' : World} {a : Option Addr} {n b : Nat} {ts : List (Int × Bool)} (h : OwnG B w a n ts) (hg : w.grownBy w' (some b)) (hne : n = 0 ∨ ∀ b' off', a = some ⟨b', off', none⟩ → b ≠ b') : OwnG B w' a n ts := by
  obtain ⟨⟨hl, hr⟩, ho⟩ := h
  rcases hne with h0 | hne
  · exact ⟨⟨hl, .inl h0⟩, .inl h0⟩
  · rcases hr with h0 | ⟨b1, off, rfl, hlt, hc⟩
    · exact ⟨⟨hl, .inl h0⟩, .inl h0⟩
    · have key : w'.heap[b1]? = w.heap[b1]? := hg.block b1 hlt (by intro e; cases e; exact hne _ _ rfl rfl)
      rcases ho with h0 | ⟨b', off', e, hB, hf⟩
      · exact ⟨⟨hl, .inl h0⟩, .inl h0⟩
      · cases e
        refine ⟨⟨hl, .inr ⟨b1, off, rfl, Nat.lt_of_lt_of_le hlt hg.size, fun i hi => ?_⟩⟩, .inr ⟨b1, off, rfl, hB, fun o => ?_⟩⟩
        · rw [World.cell?_of_block (w := w) (a := ⟨b1, off + i * 2, none⟩) key, World.cell?_of_block (w := w) (a := ⟨b1, off + i * 2 + 1, none⟩) key]; exact hc i hi
        · rw [← hf o]; exact World.frozen?_of_block key
/-- A store into an elder block. -/
theorem OwnG.far {B : Nat} {w : World} {a : Option Addr} {n : Nat} {ts : List (Int × Bool)} (h : OwnG B w a n ts) (b o : Nat) (hb : b < B) (x : Value) : OwnG B (w.setCell ⟨b, o, none⟩ x) a n ts := by
  refine h.other (b := b) ⟨rfl, rfl, rfl, by simp, fun k _ hk => Below.heap_setCell _ _ _ _ (by rintro rfl; exact hk rfl)⟩ ?_
  rcases h.own with h0 | ⟨b', off', rfl, hB, _⟩
  · exact .inl h0
  · exact .inr fun b1 o1 e => by cases e; omega
/-- What append's laws own is such a slice. -/
theorem ownG_of {B : Nat} {w : World} {t : TypeId} {v : Value} {n : Nat} {ys : List Value} (h : w.ownsRow B t 2 v n ys) (ts : List (Int × Bool)) (hx : ys = gflat ts) : ∃ a cap, v = .slice a n cap ∧ n ≤ cap ∧ OwnG B w a n ts := by
  subst hx
  have hlen : ts.length = n := by have := h.1; rw [length_gflat] at this; omega
  obtain ⟨hl, ⟨rfl, rfl⟩ | ⟨g, cap, cur, rfl, hB, hg, hc, hm, hs, ht⟩⟩ := id h
  · exact ⟨_, _, rfl, Nat.le_refl _, ⟨⟨hlen, .inl rfl⟩, .inl rfl⟩⟩
  · have hlt : g < w.heap.size := by
      rcases Nat.lt_or_ge g w.heap.size with k | k
      · exact k
      · rw [Array.getElem?_eq_none k] at hg; cases hg
    refine ⟨_, _, rfl, hc, ⟨⟨hlen, .inr ⟨g, 0, rfl, hlt, fun i hi => ?_⟩⟩, .inr ⟨g, 0, rfl, hB, fun o => by simp [World.frozen?, hg]⟩⟩⟩
    have key : ∀ r, r < 2 → w.cell? ⟨g, i * 2 + r, none⟩ = (gC (gg ts i))[r]? := fun r hr => by
      rw [h.cellAt (i * 2 + r) (by omega), gflat_at ts i r (by omega) hr]
    rw [Nat.zero_add]
    exact ⟨key 0 (by omega), key 1 (by omega)⟩
end Go.Proofs.Ytbhdjcggcgddfaa
namespace Go.Proofs.Ytbhdjcggcgddfaa
open Go.RowKit Pl Il

def cnt (x : Int) : Bool := decide (0 ≤ x) && decide (x ≤ 1000000000)
/-- Nobody of told stands in the line. -/
def apartL (ln told : List Int) : Bool := told.all fun x => !hasL ln x
theorem apart_step {ln told : List Int} {k : Nat} {y : Int} (hk : k < told.length) (hy : told.getD k 0 = y) (h : apartL ln (told.take k) = true) (hh : hasL ln y = false) : apartL ln (told.take (k + 1)) = true := by
  have e : told.getD k 0 = told[k] := by simp [List.getD, List.getElem?_eq_getElem hk]
  rw [List.take_succ_eq_append_getElem hk, ← e, hy]
  simp only [apartL, List.all_append, List.all_cons, List.all_nil, Bool.and_true, Bool.and_eq_true] at h ⊢
  exact ⟨h, by rw [hh]; rfl⟩
theorem apart_bad {ln told : List Int} {k : Nat} {y : Int} (hk : k < told.length) (hy : told.getD k 0 = y) (hh : hasL ln y = true) : apartL ln told = false := by
  have e : told.getD k 0 = told[k] := by simp [List.getD, List.getElem?_eq_getElem hk]
  unfold apartL
  rw [List.all_eq_false]
  exact ⟨told[k], List.getElem_mem _, by rw [← e, hy, hh]; simp⟩
theorem apart_end {ln told : List Int} {k : Nat} (hk : told.length ≤ k) (h : apartL ln (told.take k) = true) : apartL ln told = true := by rwa [List.take_of_length_le hk] at h
/-- Who waits and who was told are right. -/
def waitL (ln told : List Int) : Bool := lineL ln && lineL told && apartL ln told
/-- Where two lists lie. -/
structure Na where
  a : Option Addr
  n : Nat
  c : Nat
  a' : Option Addr
  n' : Nat
  c' : Nat
def Na.zero : Na := ⟨none, 0, 0, none, 0, 0⟩
/-- Each list lies within its room. -/
def Na.ok (A : Na) : Prop := A.n ≤ A.c ∧ A.n' ≤ A.c'
theorem cnt_bd'' {x : Int} (h : cnt x = true) : 0 ≤ x ∧ x ≤ 1000000000 := by simpa [cnt] using h
end Go.Proofs.Ytbhdjcggcgddfaa
namespace Go.Proofs.Ytbhdjcggcgddfaa
open Go.RowKit Pl Il

/-- A notification: its permit, line, grants, and three counts. -/
structure Nt where
  pm : Bool
  ln : List Int
  gs : List (Int × Bool)
  on : Int
  sp : Int
  tk : Int
def whosL (gs : List (Int × Bool)) : List Int := gs.map (·.1)
theorem whos_len (gs : List (Int × Bool)) : (whosL gs).length = gs.length := by simp [whosL]
theorem whos_snoc (gs : List (Int × Bool)) (g : Int × Bool) : whosL (gs ++ [g]) = whosL gs ++ [g.1] := by simp [whosL]
theorem whos_take (gs : List (Int × Bool)) (k : Nat) : whosL (gs.take k) = (whosL gs).take k := by simp [whosL]
theorem whos_at (gs : List (Int × Bool)) (k : Nat) : (whosL gs).getD k 0 = (gg gs k).1 := by
  unfold whosL gg
  rw [List.getD_eq_getElem?_getD, List.getD_eq_getElem?_getD, List.getElem?_map]
  cases gs[k]? <;> rfl
/-- How many grants are by a telling of one. -/
def onesL : List (Int × Bool) → Int
  | [] => 0
  | g :: gs => (if g.2 then 1 else 0) + onesL gs
theorem ones_snoc : ∀ (gs : List (Int × Bool)) (g : Int × Bool), onesL (gs ++ [g]) = onesL gs + (if g.2 then 1 else 0)
  | [], g => by simp [onesL]
  | x :: gs, g => by
    have := ones_snoc gs g
    simp only [List.cons_append, onesL, this]
    omega
theorem ones_bd : ∀ (gs : List (Int × Bool)), 0 ≤ onesL gs ∧ onesL gs ≤ gs.length
  | [] => by simp [onesL]
  | x :: gs => by
    have := ones_bd gs
    simp only [onesL, List.length_cons]
    split <;> omega
def permI (b : Bool) : Int := if b then 1 else 0
/-- What is taken, spilt, granted or stored. -/
def heldN (x : Nt) : Int := x.tk + x.sp + onesL x.gs + permI x.pm
/-- A right notification. -/
def okN (x : Nt) : Bool := waitL x.ln (whosL x.gs) && !(x.pm && decide (0 < x.ln.length)) && (cnt x.on && cnt x.sp && cnt x.tk) && decide (x.on = heldN x)

/-- A telling of one is placed. -/
def oneM (x : Nt) : Nt × Int :=
  match x.ln with
  | who :: r => ({ x with ln := r, gs := x.gs ++ [(who, true)] }, who)
  | [] => if x.pm then ({ x with sp := x.sp + 1 }, -1) else ({ x with pm := true }, -1)
def fullOne (x : Nt) : Bool := decide (1000000000 ≤ x.on) || decide (0 < x.ln.length) && decide (32 ≤ x.gs.length)
def tellOneM (x : Nt) : Nt × Int × Int :=
  if okN x = false then (x, -1, 1) else if fullOne x = true then (x, -1, 2) else ((oneM { x with on := x.on + 1 }).1, (oneM { x with on := x.on + 1 }).2, 0)
def allM (x : Nt) : Nt := { x with ln := [], gs := x.gs ++ x.ln.map fun y => (y, false) }
def tellAllM (x : Nt) : Nt × List Int × Int :=
  if okN x = false then (x, [], 1) else if 32 < x.ln.length + x.gs.length then (x, [], 2) else (allM x, x.ln, 0)
/-- Is who among those who were told? -/
def toldL (x : Nt) (who : Int) : Bool := hasL (whosL x.gs) who
def awaitM (x : Nt) (who : Int) : Nt × Int :=
  if okN x = false ∨ clientL who = false then (x, 1)
  else if hasL x.ln who = true ∨ toldL x who = true then (x, 5)
  else if 1000000000 ≤ x.tk ∨ x.pm = false ∧ 32 ≤ x.ln.length then (x, 2)
  else if x.pm = true then ({ x with pm := false, tk := x.tk + 1 }, 0) else ({ x with ln := x.ln ++ [who] }, 4)
/-- The grants without who's. -/
def lessG (gs : List (Int × Bool)) (who : Int) : List (Int × Bool) := gs.filter fun g => !(g.1 == who)
/-- By a telling of one? -/
def oneOf (gs : List (Int × Bool)) (who : Int) : Bool := hasG gs (who, true)
where hasG (gs : List (Int × Bool)) (g : Int × Bool) : Bool := gs.contains g
def resumeM (x : Nt) (who : Int) : Nt × Int :=
  if okN x = false then (x, 1)
  else if hasL x.ln who = true then (x, 4)
  else if toldL x who = false then (x, 3)
  else if oneOf x.gs who = true ∧ 1000000000 ≤ x.tk then (x, 2)
  else ({ x with gs := lessG x.gs who, tk := x.tk + permI (oneOf x.gs who) }, 0)
def withdrawM (x : Nt) (who : Int) : Nt × Int × Int :=
  if okN x = false then (x, -1, 1)
  else if hasL x.ln who = true then ({ x with ln := lessL x.ln who }, -1, 0)
  else if toldL x who = false then (x, -1, 3)
  else if oneOf x.gs who = false then ({ x with gs := lessG x.gs who }, -1, 0)
  else if x.ln.length = 0 ∧ x.pm = true ∧ 1000000000 ≤ x.sp then (x, -1, 2)
  else ((oneM { x with gs := lessG x.gs who }).1, (oneM { x with gs := lessG x.gs who }).2, 0)
end Go.Proofs.Ytbhdjcggcgddfaa
namespace Go.Proofs.Ytbhdjcggcgddfaa
open Go.RowKit Pl Il

def Nt.zero : Nt := ⟨false, [], [], 0, 0, 0⟩
/-- A variable of a notification in block N. -/
structure NBox (N : Nat) (A : Na) (x : Nt) (w : World) : Prop where
  lt : N < w.heap.size
  c0 : w.cell? ⟨N, 0, none⟩ = some (.bool x.pm)
  c1 : w.cell? ⟨N, 1, none⟩ = some (.slice A.a A.n A.c)
  c2 : w.cell? ⟨N, 2, none⟩ = some (.slice A.a' A.n' A.c')
  c3 : w.cell? ⟨N, 3, none⟩ = some (.int .i64 x.on)
  c4 : w.cell? ⟨N, 4, none⟩ = some (.int .i64 x.sp)
  c5 : w.cell? ⟨N, 5, none⟩ = some (.int .i64 x.tk)
  fr : ∀ o, w.frozen? ⟨N, o, none⟩ = false
theorem NBox.new (w : World) (A : Na) (x : Nt) (t : TypeId) : NBox w.heap.size A x (w.alloc (.cells #[.bool x.pm, .slice A.a A.n A.c, .slice A.a' A.n' A.c', .int .i64 x.on, .int .i64 x.sp, .int .i64 x.tk] t)) :=
  ⟨by simp, by simp, by simp, by simp, by simp, by simp, by simp, fun o => by simp [go_sem]⟩
theorem NBox.newZ (w : World) (t : TypeId) : NBox w.heap.size Na.zero Nt.zero (w.alloc (.cells #[.bool false, .slice none 0 0, .slice none 0 0, .int .i64 0, .int .i64 0, .int .i64 0] t)) := NBox.new w Na.zero Nt.zero t
section
variable {N : Nat} {A : Na} {x : Nt} {w u : World}
theorem NBox.of_block (h : NBox N A x w) (key : u.heap[N]? = w.heap[N]?) (hs : N < u.heap.size) : NBox N A x u :=
  ⟨hs, by rw [← h.c0]; exact World.cell?_of_block key, by rw [← h.c1]; exact World.cell?_of_block key, by rw [← h.c2]; exact World.cell?_of_block key, by rw [← h.c3]; exact World.cell?_of_block key, by rw [← h.c4]; exact World.cell?_of_block key, by rw [← h.c5]; exact World.cell?_of_block key, fun k => by rw [← h.fr k]; exact World.frozen?_of_block key⟩
theorem NBox.below {B : Nat} (h : NBox N A x w) (hb : Below B w u) (hN : N < B) : NBox N A x u := h.of_block (hb.block N hN) (Nat.lt_of_lt_of_le h.lt hb.size)
theorem NBox.keep (h : NBox N A x w) (hb : Below w.heap.size w u) : NBox N A x u := h.below hb h.lt
theorem NBox.alloc (h : NBox N A x w) (o : Obj) : NBox N A x (w.alloc o) := h.keep (bl_alloc (Below.refl _ _) o)
theorem NBox.far (h : NBox N A x w) (M o : Nat) (hM : N ≠ M) (y : Value) : NBox N A x (w.setCell ⟨M, o, none⟩ y) := h.of_block (Below.heap_setCell w ⟨M, o, none⟩ y N hM) (by simpa using h.lt)
theorem NBox.grown {g : Nat} (h : NBox N A x w) (hg : w.grownBy u (some g)) (hN : N ≠ g) : NBox N A x u := h.of_block (hg.block N h.lt (by intro e; cases e; exact hN rfl)) (Nat.lt_of_lt_of_le h.lt hg.size)
theorem NBox.grownO {g : Option Nat} (h : NBox N A x w) (hg : w.grownBy u g) (hN : g ≠ some N) : NBox N A x u := h.of_block (hg.block N h.lt (fun e => hN e.symm)) (Nat.lt_of_lt_of_le h.lt hg.size)
theorem NBox.set0 {b : Bool} (h : NBox N A x w) : NBox N A { x with pm := b } (w.setCell ⟨N, 0, none⟩ (.bool b)) :=
  ⟨by simpa using h.lt, World.cell?_setCell_same _ _ _ h.c0, by rw [World.cell?_setCell_other _ _ _ _ (by simp)]; exact h.c1, by rw [World.cell?_setCell_other _ _ _ _ (by simp)]; exact h.c2, by rw [World.cell?_setCell_other _ _ _ _ (by simp)]; exact h.c3, by rw [World.cell?_setCell_other _ _ _ _ (by simp)]; exact h.c4, by rw [World.cell?_setCell_other _ _ _ _ (by simp)]; exact h.c5, fun k => by simpa using h.fr k⟩
theorem NBox.set1 {a : Option Addr} {n c : Nat} (h : NBox N A x w) : NBox N { A with a := a, n := n, c := c } x (w.setCell ⟨N, 1, none⟩ (.slice a n c)) :=
  ⟨by simpa using h.lt, by rw [World.cell?_setCell_other _ _ _ _ (by simp)]; exact h.c0, World.cell?_setCell_same _ _ _ h.c1, by rw [World.cell?_setCell_other _ _ _ _ (by simp)]; exact h.c2, by rw [World.cell?_setCell_other _ _ _ _ (by simp)]; exact h.c3, by rw [World.cell?_setCell_other _ _ _ _ (by simp)]; exact h.c4, by rw [World.cell?_setCell_other _ _ _ _ (by simp)]; exact h.c5, fun k => by simpa using h.fr k⟩
theorem NBox.set2 {a : Option Addr} {n c : Nat} (h : NBox N A x w) : NBox N { A with a' := a, n' := n, c' := c } x (w.setCell ⟨N, 2, none⟩ (.slice a n c)) :=
  ⟨by simpa using h.lt, by rw [World.cell?_setCell_other _ _ _ _ (by simp)]; exact h.c0, by rw [World.cell?_setCell_other _ _ _ _ (by simp)]; exact h.c1, World.cell?_setCell_same _ _ _ h.c2, by rw [World.cell?_setCell_other _ _ _ _ (by simp)]; exact h.c3, by rw [World.cell?_setCell_other _ _ _ _ (by simp)]; exact h.c4, by rw [World.cell?_setCell_other _ _ _ _ (by simp)]; exact h.c5, fun k => by simpa using h.fr k⟩
theorem NBox.set3 {v : Int} (h : NBox N A x w) : NBox N A { x with on := v } (w.setCell ⟨N, 3, none⟩ (.int .i64 v)) :=
  ⟨by simpa using h.lt, by rw [World.cell?_setCell_other _ _ _ _ (by simp)]; exact h.c0, by rw [World.cell?_setCell_other _ _ _ _ (by simp)]; exact h.c1, by rw [World.cell?_setCell_other _ _ _ _ (by simp)]; exact h.c2, World.cell?_setCell_same _ _ _ h.c3, by rw [World.cell?_setCell_other _ _ _ _ (by simp)]; exact h.c4, by rw [World.cell?_setCell_other _ _ _ _ (by simp)]; exact h.c5, fun k => by simpa using h.fr k⟩
theorem NBox.set4 {v : Int} (h : NBox N A x w) : NBox N A { x with sp := v } (w.setCell ⟨N, 4, none⟩ (.int .i64 v)) :=
  ⟨by simpa using h.lt, by rw [World.cell?_setCell_other _ _ _ _ (by simp)]; exact h.c0, by rw [World.cell?_setCell_other _ _ _ _ (by simp)]; exact h.c1, by rw [World.cell?_setCell_other _ _ _ _ (by simp)]; exact h.c2, by rw [World.cell?_setCell_other _ _ _ _ (by simp)]; exact h.c3, World.cell?_setCell_same _ _ _ h.c4, by rw [World.cell?_setCell_other _ _ _ _ (by simp)]; exact h.c5, fun k => by simpa using h.fr k⟩
theorem NBox.set5 {v : Int} (h : NBox N A x w) : NBox N A { x with tk := v } (w.setCell ⟨N, 5, none⟩ (.int .i64 v)) :=
  ⟨by simpa using h.lt, by rw [World.cell?_setCell_other _ _ _ _ (by simp)]; exact h.c0, by rw [World.cell?_setCell_other _ _ _ _ (by simp)]; exact h.c1, by rw [World.cell?_setCell_other _ _ _ _ (by simp)]; exact h.c2, by rw [World.cell?_setCell_other _ _ _ _ (by simp)]; exact h.c3, by rw [World.cell?_setCell_other _ _ _ _ (by simp)]; exact h.c4, World.cell?_setCell_same _ _ _ h.c5, fun k => by simpa using h.fr k⟩
end

/-- A notification whose lists may be read. -/
structure NIn (w : World) (A : Na) (x : Nt) : Prop where
  ints : IntsAt w A.a A.n x.ln
  grs : GrAt w A.a' A.n' x.gs
theorem NIn.keep {w w' : World} {A : Na} {x : Nt} (h : NIn w A x) (hb : Below w.heap.size w w') : NIn w' A x := ⟨h.ints.keep hb, h.grs.keep hb⟩
/-- Its two lists lie in new memory, apart from one another. -/
structure NOwn (B : Nat) (w : World) (A : Na) (x : Nt) : Prop where
  one : Il.OwnAt B w A.a A.n x.ln
  two : OwnG B w A.a' A.n' x.gs
  apart : A.n = 0 ∨ A.n' = 0 ∨ ∀ b off b' off', A.a = some ⟨b, off, none⟩ → A.a' = some ⟨b', off', none⟩ → b ≠ b'
theorem NOwn.nin {B : Nat} {w : World} {A : Na} {x : Nt} (h : NOwn B w A x) : NIn w A x := ⟨h.one.ints, h.two.gr⟩
theorem NOwn.keep {B : Nat} {w w' : World} {A : Na} {x : Nt} (h : NOwn B w A x) (hb : Below w.heap.size w w') : NOwn B w' A x := ⟨h.one.keep hb, h.two.keep hb, h.apart⟩
theorem NOwn.mono {B B' : Nat} {w : World} {A : Na} {x : Nt} (h : NOwn B w A x) (hB : B' ≤ B) : NOwn B' w A x := ⟨h.one.mono hB, h.two.mono hB, h.apart⟩
theorem NOwn.far {B : Nat} {w : World} {A : Na} {x : Nt} (h : NOwn B w A x) (b o : Nat) (hb : b < B) (y : Value) : NOwn B (w.setCell ⟨b, o, none⟩ y) A x := ⟨h.one.far b o hb y, h.two.far b o hb y, h.apart⟩
/-- Its numbers fit. -/
structure NWf (x : Nt) : Prop where
  ln : wfL x.ln
  gs : wfL (whosL x.gs)
end Go.Proofs.Ytbhdjcggcgddfaa
namespace Go.Proofs.Ytbhdjcggcgddfaa
open Go.RowKit Pl Il

theorem infoGc : (Try.prog.info? 44).map (fun i => (i.zero, i.size, i.bytes)) = some (some (.agg #[.int .i64 0, .bool false]), 2, 16) := by kernel_rfl
/-- Timers are appended to an own row. -/
theorem append_grs (B : Nat) (v : Value) (m : Nat) (ys : List (Int × Bool)) (a : Option Addr) (n cap : Nat) (ts : List (Int × Bool)) (w : World) (ho : w.ownsRow B 44 2 v m (gflat ys)) (hB : B ≤ w.heap.size) (hI : GrAt w a n ts) (hn : m + n ≤ 4194304) : ∃ (v' : Value) (w' : World),
    (Builtin.append_ #[25, 25] 25 #[v, .slice a n cap]).run Try.prog w = .ok v' w' ∧ w'.ownsRow B 44 2 v' (m + n) (gflat (ys ++ ts)) ∧ w.grownBy w' v.ownBlock := by
  obtain ⟨i, hi, hz0, hz1, hz2⟩ := info_parts infoGc
  obtain ⟨hlen, h0⟩ := hI
  rcases Nat.eq_zero_or_pos n with rfl | hpos
  · have hx : ts = [] := List.length_eq_zero_iff.1 hlen
    subst hx
    have hg : w.grownBy w v.ownBlock := ⟨rfl, rfl, rfl, Nat.le_refl _, fun _ _ _ => rfl⟩
    have hform : ∃ q c, v = .slice q m c ∧ m ≤ c := by
      obtain ⟨_, ⟨rfl, rfl⟩ | ⟨g, cp, cur, rfl, _, _, hc, _⟩⟩ := id ho
      · exact ⟨_, _, rfl, Nat.le_refl _⟩
      · exact ⟨_, _, rfl, hc⟩
    obtain ⟨q, c, rfl, hmc⟩ := hform
    refine ⟨_, _, run_append_nothing w 25 25 25 44 i Try.underlying25 hi q m c hmc _ ?_, by rw [Nat.add_zero, List.append_nil]; exact ho, hg⟩
    rcases a with _ | ad
    · exact Src.ofNil _ Try.underlying25 cap
    · exact Src.ofSlice _ Try.underlying25 ad 0 cap [] (by simp) (fun j u h => by simp at h) (fun u h => by cases h)
  · rcases h0 with h0 | ⟨b, off, rfl, hb, hcell⟩
    · omega
    · obtain ⟨g', c', w', hr, hown, hgrow, _, _⟩ := run_append_lies (P := Try.prog) w 25 25 B 44 i _ 2 16 Try.underlying25 hi hz0 hz1 hz2 rfl (by omega) v m _ ho ⟨b, off, none⟩ n cap (gflat ts) (by rw [length_gflat, hlen])
        (fun j u h => by
          rw [Addr.add_lit]
          have hj : j < n * 2 := by
            have := (List.getElem?_eq_some_iff.1 h).1
            rw [length_gflat, hlen] at this
            exact this
          obtain ⟨q1, q2⟩ := hcell (j / 2) (by omega)
          have e := gflat_at ts (j / 2) (j % 2) (by omega) (by omega)
          have ej : j / 2 * 2 + j % 2 = j := by omega
          rw [ej, h] at e
          rcases Nat.mod_two_eq_zero_or_one j with hm | hm
          · rw [hm] at e
            rw [show off + j = off + j / 2 * 2 by omega, q1]
            simpa [gC] using e.symm
          · rw [hm] at e
            rw [show off + j = off + j / 2 * 2 + 1 by omega, q2]
            simpa [gC] using e.symm)
        (fun u hu => by
          simp only [gflat, List.mem_flatMap, gC, List.mem_cons, List.not_mem_nil, or_false] at hu
          obtain ⟨p, _, rfl | rfl⟩ := hu <;> rfl) hpos (by unfold maxLen; omega) (by omega) hB _ rfl
      exact ⟨_, w', hr, by rw [gflat_append]; exact hown, hgrow⟩

theorem copiedG_any (a : Option Addr) (n cap : Nat) (ts : List (Int × Bool)) (w : World) (hI : GrAt w a n ts) (hn : n ≤ 2097152) :
    Calls Try.prog 135 #[.slice a n cap] w fun e w' => ∃ a' c', e = .returned (.slice a' n c') ∧ w'.ownsRow w.heap.size 44 2 (.slice a' n c') n (gflat ts) ∧ Below w.heap.size w w' := by
  obtain ⟨v, w', hr, ho, hg⟩ := append_grs w.heap.size (.slice none 0 0) 0 [] a n cap ts w (World.ownsRow_nil _ _ _ _) (Nat.le_refl _) hI (by omega)
  rw [Nat.zero_add, List.nil_append] at ho
  have hb : Below w.heap.size w w' := (Below.refl _ _).grown hg (Nat.le_refl _) (fun k hk => by cases hk)
  obtain ⟨a', c', rfl, _, _⟩ := ownG_of ho ts rfl
  have Hr := hidOf hr
  have HO := hidOf ho
  clear hr ho hI hg
  go_enter Try.func135, Try.ntmps135
  go_wp2_with (at_builtin; refine wpList_append_run rfl _ _ 25 rfl _ _ _ rfl rfl Hr.out ?_)
  go_ret
  exact ⟨_, _, rfl, HO.out, hb⟩

theorem own_farG {B : Nat} {w : World} {v : Value} {n : Nat} {t : TypeId} {xs : List Value} (h : w.ownsRow B t 2 v n xs) (b o : Nat) (hb : b < B) (x : Value) : (w.setCell ⟨b, o, none⟩ x).ownsRow B t 2 v n xs := by
  refine h.kept (row := some b) ⟨rfl, rfl, rfl, by simp, fun k _ hk => Below.heap_setCell _ _ _ _ (by rintro rfl; exact hk rfl)⟩ ?_
  cases e : v.ownBlock with
  | none => exact .inl rfl
  | some q => exact .inr (fun e' => by cases e'; have := (h.lt _ e).1; omega)
theorem ownsRow_mono {B B' : Nat} {w : World} {v : Value} {n : Nat} {t : TypeId} {xs : List Value} (h : w.ownsRow B t 2 v n xs) (hb : B' ≤ B) : w.ownsRow B' t 2 v n xs := by
  obtain ⟨hl, hn | ⟨g, cap, cur, rfl, hB, hr⟩⟩ := h
  · exact ⟨hl, .inl hn⟩
  · exact ⟨hl, .inr ⟨g, cap, cur, rfl, Nat.le_trans hb hB, hr⟩⟩
end Go.Proofs.Ytbhdjcggcgddfaa
namespace Go.Proofs.Ytbhdjcggcgddfaa
open Go.RowKit Pl Il

/-- What Join answers: the line, and the code. -/
def joinL (xs : List Int) (x : Int) : List Int × Int :=
  if !lineL xs || !clientL x then (xs, 1) else if hasL xs x then (xs, 5) else if 32 ≤ xs.length then (xs, 2) else (xs ++ [x], 0)
/-- What Leave answers: the line, and the code. -/
def leaveL (xs : List Int) (x : Int) : List Int × Int :=
  if !lineL xs then (xs, 1) else if !hasL xs x then (xs, 3) else (lessL xs x, 0)
theorem join_bad {xs : List Int} {x : Int} (h : lineL xs = false ∨ clientL x = false) : joinL xs x = (xs, 1) := by rcases h with h | h <;> simp [joinL, h]
theorem join_there {xs : List Int} {x : Int} (h1 : lineL xs = true) (h2 : clientL x = true) (h3 : hasL xs x = true) : joinL xs x = (xs, 5) := by simp [joinL, h1, h2, h3]
theorem join_full {xs : List Int} {x : Int} (h1 : lineL xs = true) (h2 : clientL x = true) (h3 : hasL xs x = false) (h4 : 32 ≤ xs.length) : joinL xs x = (xs, 2) := by simp [joinL, h1, h2, h3, h4]
theorem join_done {xs : List Int} {x : Int} (h1 : lineL xs = true) (h2 : clientL x = true) (h3 : hasL xs x = false) (h4 : ¬ 32 ≤ xs.length) : joinL xs x = (xs ++ [x], 0) := by simp only [joinL, h1, h2, h3, h4, Bool.not_true, Bool.or_self, if_false, Bool.false_eq_true]
theorem leave_bad {xs : List Int} {x : Int} (h : lineL xs = false) : leaveL xs x = (xs, 1) := by simp [leaveL, h]
theorem leave_none {xs : List Int} {x : Int} (h : lineL xs = true) (h2 : hasL xs x = false) : leaveL xs x = (xs, 3) := by simp [leaveL, h, h2]
theorem leave_done {xs : List Int} {x : Int} (h : lineL xs = true) (h2 : hasL xs x = true) : leaveL xs x = (lessL xs x, 0) := by simp [leaveL, h, h2]


end Go.Proofs.Ytbhdjcggcgddfaa
namespace Go.Proofs.Ytbhdjcggcgddfaa
open Go.RowKit Pl Il

/-- How many Wake wakes. -/
def wakeN (xs : List Int) (n : Int) : Nat := if n > (xs.length : Int) then xs.length else n.toNat
theorem wakeN_le (xs : List Int) (n : Int) (h : 0 ≤ n) : wakeN xs n ≤ xs.length := by
  unfold wakeN
  split <;> omega
theorem wakeN_over {xs : List Int} {n : Int} (h : n > (xs.length : Int)) : wakeN xs n = xs.length := by simp [wakeN, h]
theorem wakeN_in {xs : List Int} {n : Int} (h : ¬ n > (xs.length : Int)) : wakeN xs n = n.toNat := by simp only [wakeN, h, if_false]


theorem line_len {xs : List Int} (h : lineL xs = true) : xs.length ≤ 32 := by
  unfold lineL at h
  simp at h
  exact h.1

/-- Two lists that the call has made, apart from one another. -/
structure Both (w : World) (g1 m1 c1 : Nat) (xs : List Int) (g2 m2 c2 : Nat) (ys : List Int) (w' : World) : Prop where
  one : Owns w.heap.size w' g1 m1 c1 xs
  two : Owns w.heap.size w' g2 m2 c2 ys
  apart : g1 ≠ g2
  below : Below w.heap.size w w'
theorem both_of {w w1 w2 w3 : World} {g1 m1 c1 : Nat} {xs : List Int} {g2 m2 c2 : Nat} {ys : List Int} (h1 : Below w.heap.size w w1) (o1 : Owns w1.heap.size w2 g1 m1 c1 xs) (h2 : Below w1.heap.size w1 w2) (o2 : Owns w2.heap.size w3 g2 m2 c2 ys) (h3 : Below w2.heap.size w2 w3) :
    Both w g1 m1 c1 xs g2 m2 c2 ys w3 where
  one := owns_keep (owns_mono o1 h1.size) h3
  two := owns_mono o2 (Nat.le_trans h1.size h2.size)
  apart := by
    have a := (owns_parts o1).2.2.1
    have b := (owns_parts o2).2.1
    omega
  below := bl_trans (bl_trans h1 h2) h3




end Go.Proofs.Ytbhdjcggcgddfaa
namespace Go.Proofs.Ytbhdjcggcgddfaa
open Go.RowKit Pl Il

/-- The first place of x in xs, unless it has gone. -/
def placeG (xs gone : List Int) (x : Int) : Option Nat := if gone.contains x then none else xs.findIdx? (· == x)
/-- How many different ones stand in xs. -/
def dist (xs : List Int) : Nat := ((List.range xs.length).filter fun i => !hasL (xs.take i) (xs.getD i 0)).length
/-- Who stands still, of the first k. -/
def standTo (xs gone : List Int) (k : Nat) : List Int := ((List.range k).filter fun i => placeG xs gone (xs.getD i 0) == some i).map fun i => xs.getD i 0
theorem place_isSome (xs : List Int) (x : Int) : (placeG xs [] x).isSome = hasL xs x := by
  simp only [placeG, List.contains_nil, Bool.false_eq_true, if_false, hasL]
  rw [List.findIdx?_isSome]
  rw [Bool.eq_iff_iff]
  simp only [List.any_eq_true, beq_iff_eq, List.contains_eq_mem, decide_eq_true_eq]
  exact ⟨fun ⟨y, hy, e⟩ => e ▸ hy, fun h => ⟨x, h, rfl⟩⟩
theorem place_placeL (xs : List Int) (x : Int) : placeL xs x = match placeG xs [] x with | some i => (i : Int) | none => -1 := by
  simp only [placeL, placeG, List.contains_nil, Bool.false_eq_true, if_false]
  cases xs.findIdx? (· == x) <;> rfl

/-- What the map of places reads as. -/
structure Reads (D : DataW Unit) (xs gone : List Int) : Prop where
  has : ∀ x, Maps.has D (.int .i64 x) = (placeG xs gone x).isSome
  val : ∀ x i, placeG xs gone x = some i → D.atKey (.int .i64 x) (.lit (.int .i64 0)) = .lit (.int .i64 (i : Int))
  size : gone = [] → Maps.size D = dist xs
theorem Reads.empty : Reads (.map []) [] [] := ⟨fun x => by simp [Maps.has, placeG], fun x i h => by simp [placeG] at h, fun _ => rfl⟩

theorem lit_ne {x y : Int} (h : ¬ x = y) : Lit.int .i64 x ≠ Lit.int .i64 y := fun e => h (by injection e)

theorem dist_snoc (xs : List Int) (x : Int) : dist (xs ++ [x]) = dist xs + if hasL xs x then 0 else 1 := by
  unfold dist
  rw [List.length_append, List.length_singleton, List.range_succ, List.filter_append, List.length_append]
  congr 1
  · refine congrArg List.length (List.filter_congr fun i hi => ?_)
    have hi := List.mem_range.1 hi
    rw [List.take_append_of_le_length (Nat.le_of_lt hi)]
    simp [List.getD, List.getElem?_append_left hi]
  · have e : (xs ++ [x]).getD xs.length 0 = x := by simp [List.getD]
    have e2 : (xs ++ [x]).take xs.length = xs := by simp
    rw [List.filter_cons, List.filter_nil, e, e2]
    cases hasL xs x <;> simp
theorem dist_le (xs : List Int) : dist xs ≤ xs.length := by
  unfold dist
  exact Nat.le_trans (List.length_filter_le _ _) (by simp)

theorem Reads.join_new {D : DataW Unit} {xs : List Int} {x : Int} (h : Reads D xs []) (ht : Maps.Tidy D) (hx : hasL xs x = false) : Reads (D.put (.int .i64 x) (.lit (.int .i64 (xs.length : Int)))) (xs ++ [x]) [] := by
  have key : ∀ y, ¬ y = x → placeG (xs ++ [x]) [] y = placeG xs [] y := fun y hy => by
    simp only [placeG, List.contains_nil, Bool.false_eq_true, if_false]
    rw [List.findIdx?_append]
    have : [x].findIdx? (· == y) = none := by
      rw [List.findIdx?_eq_none_iff]
      intro z hz
      rw [List.mem_singleton] at hz
      subst hz
      simp only [beq_eq_false_iff_ne, ne_eq]
      exact fun e => hy e.symm
    simp [this]
  have self : placeG (xs ++ [x]) [] x = some xs.length := by
    have h0 : placeG xs [] x = none := by
      have := place_isSome xs x
      rw [hx] at this
      simpa using this
    simp only [placeG, List.contains_nil, Bool.false_eq_true, if_false] at h0 ⊢
    rw [List.findIdx?_append, h0]
    simp [List.findIdx?_cons]
  refine ⟨fun y => ?_, fun y i hi => ?_, fun _ => ?_⟩
  · by_cases e : y = x
    · subst e
      rw [Maps.has_put_same (k := .int .i64 y) ht.isMap trivial, self]; rfl
    · rw [Maps.has_put_other (lit_ne e), key y e]; exact h.has y
  · by_cases e : y = x
    · subst e
      rw [self] at hi
      injection hi with hi
      subst hi
      rw [Maps.atKey_put_same (k := .int .i64 y) ht.isMap trivial]
    · rw [Maps.atKey_put_other (lit_ne e)]
      rw [key y e] at hi
      exact h.val y i hi
  · rw [Maps.size_put ht, h.has x, place_isSome, hx, dist_snoc, hx, h.size rfl]
    simp
theorem Reads.join_old {D : DataW Unit} {xs : List Int} {x : Int} (h : Reads D xs []) (hx : hasL xs x = true) : Reads D (xs ++ [x]) [] := by
  have key : ∀ y, placeG (xs ++ [x]) [] y = placeG xs [] y := fun y => by
    by_cases e : y = x
    · subst e
      have := place_isSome xs y
      rw [hx] at this
      obtain ⟨i, hi⟩ := Option.isSome_iff_exists.1 this
      rw [hi]
      simp only [placeG, List.contains_nil, Bool.false_eq_true, if_false] at hi ⊢
      rw [List.findIdx?_append, hi]; rfl
    · simp only [placeG, List.contains_nil, Bool.false_eq_true, if_false]
      rw [List.findIdx?_append]
      have : [x].findIdx? (· == y) = none := by
        rw [List.findIdx?_eq_none_iff]
        intro z hz
        rw [List.mem_singleton] at hz
        subst hz
        simp only [beq_eq_false_iff_ne, ne_eq]
        exact fun e' => e e'.symm
      simp [this]
  refine ⟨fun y => ?_, fun y i hi => ?_, fun _ => ?_⟩
  · rw [key]; exact h.has y
  · rw [key] at hi; exact h.val y i hi
  · rw [dist_snoc, hx, h.size rfl]; simp
theorem place_gone (xs gone : List Int) (x y : Int) : placeG xs (gone ++ [x]) y = if y = x then none else placeG xs gone y := by
  unfold placeG
  by_cases e : y = x
  · subst e; simp
  · simp [e]
theorem Reads.leave {D : DataW Unit} {xs gone : List Int} {x : Int} (h : Reads D xs gone) : Reads (D.del (.int .i64 x)) xs (gone ++ [x]) := by
  refine ⟨fun y => ?_, fun y i hi => ?_, fun e => by simp at e⟩
  · rw [place_gone]
    by_cases e : y = x
    · subst e
      rw [Maps.has_del_same]; simp
    · rw [Maps.has_del_other (lit_ne e), h.has]; simp [e]
  · rw [place_gone] at hi
    by_cases e : y = x
    · subst e; simp at hi
    · rw [Maps.atKey_del_other (lit_ne e)]
      simp [e] at hi
      exact h.val y i hi

theorem stand_yes {xs gone : List Int} {k : Nat} {y : Int} (hy : xs.getD k 0 = y) (h : placeG xs gone y = some k) : standTo xs gone (k + 1) = standTo xs gone k ++ [y] := by
  unfold standTo
  rw [List.range_succ, List.filter_append, List.map_append]
  congr 1
  rw [List.filter_cons, hy, h]
  simp [List.getD] at hy
  simp [List.getD, hy]
theorem stand_no {xs gone : List Int} {k : Nat} {y : Int} (hy : xs.getD k 0 = y) (h : ¬ placeG xs gone y = some k) : standTo xs gone (k + 1) = standTo xs gone k := by
  unfold standTo
  rw [List.range_succ, List.filter_append, List.map_append]
  have : (placeG xs gone (xs.getD k 0) == some k) = false := by
    rw [hy, beq_eq_false_iff_ne]; exact h
  rw [List.filter_cons, this]
  simp
theorem stand_len (xs gone : List Int) (k : Nat) : (standTo xs gone k).length ≤ k := by
  unfold standTo
  rw [List.length_map]
  exact Nat.le_trans (List.length_filter_le _ _) (by simp)

theorem nodup_line {xs : List Int} (h : lineL xs = true) : xs.Nodup := by
  simp only [lineL, lineTo, Bool.and_eq_true, List.all_eq_true, List.mem_range] at h
  rw [List.nodup_iff_pairwise_ne, List.pairwise_iff_getElem]
  intro i j hi hj hij e
  have := (h.2 j hj).2
  have e2 : xs.getD j 0 = xs[j] := by simp [List.getD, List.getElem?_eq_getElem hj]
  rw [e2] at this
  have hm : xs[j] ∈ xs.take j := by
    rw [List.mem_take_iff_getElem]
    exact ⟨i, by omega, e⟩
  simp [hasL, hm] at this
theorem find_nodup {xs : List Int} (h : xs.Nodup) {i : Nat} (hi : i < xs.length) : xs.findIdx? (· == xs[i]) = some i := by
  rw [List.findIdx?_eq_some_iff_getElem]
  refine ⟨hi, by simp, fun j hj => ?_⟩
  intro e
  have e : xs[j]'(by omega) = xs[i] := by simpa using e
  rw [List.nodup_iff_pairwise_ne, List.pairwise_iff_getElem] at h
  exact h j i (by omega) hi hj e
theorem map_range (xs : List Int) : (List.range xs.length).map (fun i => xs.getD i 0) = xs := by
  apply List.ext_getElem
  · simp
  · intro i h1 h2
    simp [List.getD, List.getElem?_eq_getElem h2]
theorem stand_all {xs : List Int} (h : xs.Nodup) (gone : List Int) : standTo xs gone xs.length = xs.filter fun y => !gone.contains y := by
  have e : (List.range xs.length).filter (fun i => placeG xs gone (xs.getD i 0) == some i) = (List.range xs.length).filter ((fun y => !gone.contains y) ∘ fun i => xs.getD i 0) := by
    refine List.filter_congr fun i hi => ?_
    have hi := List.mem_range.1 hi
    have e : xs.getD i 0 = xs[i] := by simp [List.getD, List.getElem?_eq_getElem hi]
    simp only [Function.comp, e, placeG, find_nodup h hi]
    cases gone.contains xs[i] <;> simp
  unfold standTo
  rw [e, ← List.filter_map, map_range]
theorem stand_full {xs : List Int} (h : xs.Nodup) : standTo xs [] xs.length = xs := by
  rw [stand_all h]; simp
theorem stand_less {xs : List Int} (h : xs.Nodup) (x : Int) : standTo xs [x] xs.length = lessL xs x := by
  rw [stand_all h, lessL, h.erase_eq_filter]
  refine List.filter_congr fun y _ => ?_
  by_cases e : y = x <;> simp [e]
theorem stand_rest {xs : List Int} (h : xs.Nodup) (k : Nat) : standTo xs (xs.take k) xs.length = xs.drop k := by
  rw [stand_all h]
  have e : xs.filter (fun y => !(xs.take k).contains y) = (xs.take k ++ xs.drop k).filter (fun y => !(xs.take k).contains y) := by rw [List.take_append_drop]
  rw [e, List.filter_append, List.filter_eq_nil_iff.2 (fun y hy => by simp [hy]), List.nil_append, List.filter_eq_self.2 (fun y hy => ?_)]
  have h2 : (xs.take k ++ xs.drop k).Nodup := by rw [List.take_append_drop]; exact h
  have := (List.nodup_append.1 h2).2.2
  simp only [List.contains_eq_mem, Bool.not_eq_true', decide_eq_false_iff_not]
  exact fun hm => this y hm y hy rfl
theorem nodup_snoc {xs : List Int} (h : xs.Nodup) {x : Int} (hx : hasL xs x = false) : (xs ++ [x]).Nodup := by
  rw [List.nodup_append]
  refine ⟨h, by simp, fun a ha b hb e => ?_⟩
  rw [List.mem_singleton] at hb
  subst hb
  subst e
  simp [hasL, ha] at hx

theorem filter_len_eq {α : Type} {p : α → Bool} : ∀ {l : List α}, (l.filter p).length = l.length → ∀ x ∈ l, p x = true
  | [], _, x, hx => by cases hx
  | y :: r, h, x, hx => by
    cases hy : p y
    · rw [List.filter_cons, hy] at h
      have := List.length_filter_le p r
      simp at h
      omega
    · rw [List.filter_cons, hy] at h
      rcases List.mem_cons.1 hx with rfl | hx
      · exact hy
      · exact filter_len_eq (l := r) (by simpa using h) x hx
/-- All are clients: the line is right just if all are different. -/
theorem line_dist {xs : List Int} (h32 : xs.length ≤ 32) (hc : ∀ i, i < xs.length → clientL (xs.getD i 0) = true) : lineL xs = decide (dist xs = xs.length) := by
  rw [Bool.eq_iff_iff]
  simp only [lineL, h32, decide_true, Bool.true_and, decide_eq_true_eq]
  constructor
  · intro h
    simp only [lineTo, List.all_eq_true, List.mem_range, Bool.and_eq_true] at h
    unfold dist
    rw [List.filter_eq_self.2 (fun i hi => (h i (List.mem_range.1 hi)).2)]
    simp
  · intro h
    unfold dist at h
    have := filter_len_eq (l := List.range xs.length) (by rw [h]; simp)
    simp only [lineTo, List.all_eq_true, List.mem_range, Bool.and_eq_true]
    exact fun i hi => ⟨hc i hi, this i (List.mem_range.2 hi)⟩
end Go.Proofs.Ytbhdjcggcgddfaa
namespace Go.Proofs.Ytbhdjcggcgddfaa
open Go.RowKit Go.Maps Pl Il

theorem law3 : Keyed Try.prog 3 := int_keyed Try.underlying3
theorem zero3 (w : World) : (zeroValue 3).run Try.prog w = .ok (.int .i64 0) w := by kernel_rfl

/-- The parts of a queue in memory: its own block qb, the row of those who came (cv), the map of places (block mb, at most n entries, reading as D). -/
structure QMem (B : Nat) (w : World) (qb mb : Nat) (cv : Value) (D : DataW Unit) (n : Nat) (xs : List Int) : Prop where
  blk : w.heap[qb]? = some (.cells #[cv, .map (some mb)] 212 (0, 0))
  row : w.ownsRow B 3 1 cv xs.length (xs.map (Value.int .i64))
  map : w.ownsMap Try.prog 3 (plainElem Try.prog 3) mb n D
  ge : B ≤ qb
  ge' : B ≤ mb
structure QParts (B : Nat) (w : World) (qb mb : Nat) (cv : Value) (D : DataW Unit) (xs gone : List Int) : Prop where
  mem : QMem B w qb mb cv D xs.length xs
  rd : Reads D xs gone
/-- A queue at block qb: xs came, gone have left. -/
def QAt (B : Nat) (w : World) (qb : Nat) (xs gone : List Int) : Prop := ∃ mb cv D, QParts B w qb mb cv D xs gone

section
variable {B : Nat} {w : World} {qb mb n : Nat} {cv : Value} {D : DataW Unit} {xs gone : List Int}
theorem QMem.lt (h : QMem B w qb mb cv D n xs) : qb < w.heap.size := by
  rcases Nat.lt_or_ge qb w.heap.size with k | k
  · exact k
  · have := h.blk
    rw [Array.getElem?_eq_none k] at this; cases this
theorem QMem.size (h : QMem B w qb mb cv D n xs) : B ≤ w.heap.size := Nat.le_trans h.ge (Nat.le_of_lt h.lt)
theorem QMem.c0 (h : QMem B w qb mb cv D n xs) : w.cell? ⟨qb, 0, none⟩ = some cv := by simp [World.cell?, h.blk]
theorem QMem.c1 (h : QMem B w qb mb cv D n xs) : w.cell? ⟨qb, 1, none⟩ = some (.map (some mb)) := by simp [World.cell?, h.blk]
theorem QMem.f0 (h : QMem B w qb mb cv D n xs) : w.frozen? ⟨qb, 0, none⟩ = false := by simp [World.frozen?, h.blk]
theorem QMem.ne (h : QMem B w qb mb cv D n xs) : mb ≠ qb := by
  obtain ⟨es, clock, hb, _⟩ := h.map
  rintro rfl
  rw [h.blk] at hb; cases hb
theorem QMem.rowQ (h : QMem B w qb mb cv D n xs) : cv.ownBlock ≠ some qb := by
  intro e
  obtain ⟨_, ⟨rfl, _⟩ | ⟨g, cap, cur, rfl, _, hg, _⟩⟩ := h.row
  · cases e
  · simp [Value.ownBlock] at e
    subst e
    rw [h.blk] at hg
    simp at hg
theorem QMem.rowM (h : QMem B w qb mb cv D n xs) : cv.ownBlock ≠ some mb := by
  intro e
  obtain ⟨es, clock, hb, _⟩ := h.map
  obtain ⟨_, ⟨rfl, _⟩ | ⟨g, cap, cur, rfl, _, hg, _⟩⟩ := h.row
  · cases e
  · simp [Value.ownBlock] at e
    subst e
    rw [hb] at hg
    cases hg
theorem QMem.form (h : QMem B w qb mb cv D n xs) : ∃ a c, cv = .slice a xs.length c ∧ IntsAt w a xs.length xs := by
  obtain ⟨a, c, e, ho⟩ := own_of h.row xs rfl
  exact ⟨a, c, e, ho.ints⟩
theorem QMem.keep {w' : World} (h : QMem B w qb mb cv D n xs) (hb : Below w.heap.size w w') : QMem B w' qb mb cv D n xs := by
  have hg : w.grownBy w' none := ⟨hb.os, hb.tape, hb.output, hb.size, fun k hk _ => hb.block k hk⟩
  exact ⟨by rw [hb.block qb h.lt]; exact h.blk, h.row.kept hg (by cases cv.ownBlock <;> simp), h.map.kept hg (by simp), h.ge, h.ge'⟩
theorem QAt.keep {w' : World} (h : QAt B w qb xs gone) (hb : Below w.heap.size w w') : QAt B w' qb xs gone := by
  obtain ⟨mb, cv, D, h⟩ := h
  exact ⟨mb, cv, D, h.mem.keep hb, h.rd⟩
theorem QMem.mapped {w' : World} {D' : DataW Unit} {n' : Nat} (h : QMem B w qb mb cv D n xs) (hm : w'.ownsMap Try.prog 3 (plainElem Try.prog 3) mb n' D') (hg : w.grownBy w' (some mb)) : QMem B w' qb mb cv D' n' xs :=
  ⟨by rw [hg.block qb h.lt (by intro e; cases e; exact h.ne rfl)]; exact h.blk, h.row.kept hg (.inr h.rowM), hm, h.ge, h.ge'⟩
theorem QParts.has (h : QParts B w qb mb cv D xs gone) (x : Int) : Maps.has D (.int .i64 x) = (placeG xs gone x).isSome := h.rd.has x
theorem QParts.at (h : QParts B w qb mb cv D xs gone) {x c : Int} (hat : D.atKey (.int .i64 x) (.lit (.int .i64 0)) = .lit (.int .i64 c)) : c = ((placeG xs gone x).getD 0 : Nat) := by
  cases hp : placeG xs gone x with
  | none =>
    have := h.rd.has x
    rw [hp] at this
    rw [atKey_of_not_has this] at hat
    injection hat with hat
    injection hat with _ hat
    simp [← hat]
  | some i =>
    rw [h.rd.val x i hp] at hat
    injection hat with hat
    injection hat with _ hat
    simp [← hat]
end

theorem isClient_any (x : Int) (w : World) :
    Calls Try.prog 97 #[.int .i64 x] w fun e w' => e = .returned (.bool (clientL x)) ∧ w' = w := by
  go_enter Try.func97, Try.ntmps97
  go_wp2
  all_goals go_ret
  all_goals (refine ⟨rbool ?_, rfl⟩; rw [Bool.eq_iff_iff]; simp [clientL]; try omega)

theorem placeOf_any (B qb : Nat) (xs gone : List Int) (x : Int) (w : World) (hQ : QAt B w qb xs gone) (hx : (Lit.int .i64 x).wf = true) :
    Calls Try.prog 142 #[.pointer (some ⟨qb, 0, none⟩), .int .i64 x] w fun e w' => e = .returned (.tuple #[.int .i64 ((placeG xs gone x).getD 0 : Nat), .bool (placeG xs gone x).isSome]) ∧ w' = w := by
  obtain ⟨mb, cv, D, hq⟩ := hQ
  have hkey := keyOf_int_mk Try.underlying3 hx
  have c1 := hq.mem.c1
  have hown := hq.mem.map
  have hh := hq.has x
  have hv := fun c => hq.at (x := x) (c := c)
  have HV := hidOf hv
  have HH := hidOf hh
  clear hq hv hh
  go_enter Try.func142, Try.ntmps142
  go_wp2_with (first
    | (at_lookup; refine wpList_lookup_own_ok_int _ rfl _ _ 210 rfl 3 3 .i64 law3 Try.underlying210 Try.underlying3 (zero3 _) mb _ D rfl hown _ _ rfl hkey ?_; intro c hat hwc)
    | go_in)
  go_ret2
  rw [HV.out c hat, HH.out]
  exact ⟨rfl, rfl⟩

theorem leave_parts (B qb mb : Nat) (cv : Value) (D : DataW Unit) (xs gone : List Int) (x : Int) (w : World) (hq : QParts B w qb mb cv D xs gone) (hx : (Lit.int .i64 x).wf = true) :
    Calls Try.prog 144 #[.pointer (some ⟨qb, 0, none⟩), .int .i64 x] w fun e w' => e = .returned (.tuple #[]) ∧ QParts B w' qb mb cv (D.del (.int .i64 x)) xs (gone ++ [x]) ∧ w.grownBy w' (some mb) := by
  have hkey := keyOf_int_mk Try.underlying3 hx
  have c1 := hq.mem.c1
  have hown := hq.mem.map
  have HQ := hidOf hq
  clear hq
  go_enter Try.func144, Try.ntmps144
  go_wp2_with (first
    | (at_delete; refine wpList_delete_own _ rfl _ _ 210 3 rfl 3 law3 Try.underlying210 _ mb _ D rfl hown _ _ rfl hkey ?_; intro w1 hown1 hturn1)
    | go_in)
  go_end0
  exact ⟨rfl, ⟨HQ.out.mem.mapped hown1 hturn1.grown, HQ.out.rd.leave⟩, hturn1.grown⟩
theorem leave_any (B qb : Nat) (xs gone : List Int) (x : Int) (w : World) (hQ : QAt B w qb xs gone) (hx : (Lit.int .i64 x).wf = true) :
    Calls Try.prog 144 #[.pointer (some ⟨qb, 0, none⟩), .int .i64 x] w fun e w' => e = .returned (.tuple #[]) ∧ QAt B w' qb xs (gone ++ [x]) ∧ Below B w w' := by
  obtain ⟨mb, cv, D, hq⟩ := hQ
  refine (leave_parts B qb mb cv D xs gone x w hq hx).mono ?_
  rintro e w1 ⟨rfl, h1, hg⟩
  exact ⟨rfl, ⟨mb, cv, _, h1⟩, (Below.refl _ _).grown hg hq.mem.size (fun k hk => by cases hk; exact hq.mem.ge')⟩
end Go.Proofs.Ytbhdjcggcgddfaa
