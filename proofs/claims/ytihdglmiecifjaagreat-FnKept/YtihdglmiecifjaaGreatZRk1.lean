/-
  Rings in memory: owned; the laws' own helper that makes one anew
  Walks of the laws' own helpers on lists of numbers: too long, the same
  Walks of the specification's lines: who is woken
  The plain mathematics of a queue whose places stand in a map (no progr
-/
import Derived.Test.YtihdglmiecifjaaGreatZRk0
import Derived.ChangeOld
import Derived.Deep.SlicePairs
import Derived.Laws.BytesArg
import Derived.Lib.SmallJoins
import Derived.Maps.OwnSet
import Derived.OpenShut
import Derived.ProofKit
namespace Go.Proofs.YtihdglmiecifjaaGreat
open Go.RowKit Pl Il
/-- A block that holds none of it turns. -/
theorem OwnS.other {B b : Nat} {w w' : World} {a : Option Addr} {n : Nat} {xs : List Sa} (h : OwnS B w a n xs) (hg : w.grownBy w' (some b)) (hne : n = 0 ∨ ∀ b' off', a = some ⟨b', off', none⟩ → b ≠ b') (hfe : ∀ x, x ∈ xs → x.n = 0 ∨ ∀ b' off', x.a = some ⟨b', off', none⟩ → b ≠ b') : OwnS B w' a n xs := by
  refine ⟨⟨h.sub.len, fun x hx => ((h.fow x hx).other hg (hfe x hx)).tm, ?_⟩, ?_, fun x hx => (h.fow x hx).other hg (hfe x hx), h.apt, h.apa⟩
  · rcases h.sub.row with k | ⟨b1, off1, rfl, hlt, hc⟩
    · exact .inl k
    · rcases hne with k | hne
      · exact .inl k
      · have hb := hne b1 off1 rfl
        have key := hg.block b1 hlt (fun e => hb (by injection e with e; exact e.symm))
        exact .inr ⟨b1, off1, rfl, Nat.lt_of_lt_of_le hlt hg.size, fun i hi => (hc i hi).same fun j _ => World.cell?_of_block key⟩
  · rcases h.own with k | ⟨b1, off1, rfl, hB, hf⟩
    · exact .inl k
    · rcases hne with k | hne
      · exact .inl k
      · rcases h.sub.row with k | ⟨b2, off2, e, hlt, _⟩
        · exact .inl k
        · cases e
          have hb := hne b1 off1 rfl
          have key := hg.block b1 hlt (fun e => hb (by injection e with e; exact e.symm))
          exact .inr ⟨b1, off1, rfl, hB, fun o => by rw [← hf o]; exact World.frozen?_of_block key⟩
theorem OwnS.far {B : Nat} {w : World} {a : Option Addr} {n : Nat} {xs : List Sa} (h : OwnS B w a n xs) (b o : Nat) (hb : b < B) (v : Value) : OwnS B (w.setCell ⟨b, o, none⟩ v) a n xs := by
  refine h.other (b := b) ⟨rfl, rfl, rfl, by simp, fun j _ hj => Below.heap_setCell _ _ _ _ (by rintro rfl; exact hj rfl)⟩ ?_ (fun x hx => ?_)
  · rcases h.own with k | ⟨b', off', e, hB, _⟩
    · exact .inl k
    · exact .inr fun b1 o1 e1 => by rw [e] at e1; cases e1; omega
  · rcases (h.fow x hx).own with k | ⟨b', off', e, hB, _⟩
    · exact .inl k
    · exact .inr fun b1 o1 e1 => by rw [e] at e1; cases e1; omega
/-- A slice's block lies below K; from K on. -/
def Und (a : Option Addr) (n K : Nat) : Prop := n = 0 ∨ ∀ b off, a = some ⟨b, off, none⟩ → b < K
def Abv (a : Option Addr) (n K : Nat) : Prop := n = 0 ∨ ∀ b off, a = some ⟨b, off, none⟩ → K ≤ b
theorem Und.mono {a : Option Addr} {n K K' : Nat} (h : Und a n K) (hk : K ≤ K') : Und a n K' := h.imp id fun h b off e => Nat.lt_of_lt_of_le (h b off e) hk
theorem Abv.mono {a : Option Addr} {n K K' : Nat} (h : Abv a n K) (hk : K' ≤ K) : Abv a n K' := h.imp id fun h b off e => Nat.le_trans hk (h b off e)
theorem Far.mk {a a' : Option Addr} {n n' K : Nat} (h : Und a n K) (h' : Abv a' n' K) : Far a n a' n' := by
  rcases h with h | h
  · exact .inl h
  · rcases h' with h' | h'
    · exact .inr (.inl h')
    · exact .inr (.inr fun b off b' off' e e' => by have := h b off e; have := h' b' off' e'; omega)
theorem und_ints {w : World} {a : Option Addr} {n : Nat} {xs : List Int} (h : IntsAt w a n xs) : Und a n w.heap.size := by
  rcases h.row with k | ⟨b', off', e, hlt, _⟩
  · exact .inl k
  · exact .inr fun b1 o1 e1 => by rw [e] at e1; cases e1; exact hlt
/-- All its lists. -/
def allR (M : Rm) : List (Option Addr × Nat) := (M.ia, M.i) :: (M.sa, M.s) :: (M.la, M.l) :: (M.ga, M.g) :: M.xs.map fun x => (x.a, x.n)
/-- A ring's lists have room enough for what they hold. -/
def RCap (M : Rm) : Prop := M.i ≤ M.ic ∧ M.s ≤ M.sc ∧ M.l ≤ M.lc ∧ M.g ≤ M.gc ∧ ∀ x, x ∈ M.xs → x.n ≤ x.c
/-- Its lists lie in blocks from B on, and may be written; no two share a block. -/
structure ROwn (B : Nat) (w : World) (M : Rm) (v : Rv) : Prop where
  it : OwnF B w M.ia M.i v.it
  sb : OwnS B w M.sa M.s M.xs
  sv : svs M.xs = v.sb
  ln : Il.OwnAt B w M.la M.l v.ln
  gs : Il.OwnAt B w M.ga M.g v.gs
  apt : (allR M).Pairwise fun p q => Far p.1 p.2 q.1 q.2
  cap : RCap M
theorem ROwn.rin {B : Nat} {w : World} {M : Rm} {v : Rv} (h : ROwn B w M v) : RIn w M v := ⟨h.it.tm, h.sb.sub, h.sv, h.ln.ints, h.gs.ints⟩
theorem ROwn.keep {B : Nat} {w w' : World} {M : Rm} {v : Rv} (h : ROwn B w M v) (hb : Below w.heap.size w w') : ROwn B w' M v := ⟨h.it.keep hb, h.sb.keep hb, h.sv, h.ln.keep hb, h.gs.keep hb, h.apt, h.cap⟩
theorem ROwn.mono {B B' : Nat} {w : World} {M : Rm} {v : Rv} (h : ROwn B w M v) (hB : B' ≤ B) : ROwn B' w M v := ⟨h.it.mono hB, h.sb.mono hB, h.sv, h.ln.mono hB, h.gs.mono hB, h.apt, h.cap⟩
theorem ROwn.far {B : Nat} {w : World} {M : Rm} {v : Rv} (h : ROwn B w M v) (b o : Nat) (hb : b < B) (x : Value) : ROwn B (w.setCell ⟨b, o, none⟩ x) M v := ⟨h.it.far b o hb x, h.sb.far b o hb x, h.sv, h.ln.far b o hb x, h.gs.far b o hb x, h.apt, h.cap⟩
end Go.Proofs.YtihdglmiecifjaaGreat
namespace Go.Proofs.YtihdglmiecifjaaGreat
open Go.RowKit Pl Il
theorem big_any (a : Option Addr) (n cap : Nat) (w : World) :
    Calls Tryz.prog 18 #[.slice a n cap] w fun e w' => e = .returned (.bool (decide (1048576 < n))) ∧ w' = w := by
  go_enter Tryz.func18, Tryz.ntmps18
  go_wp2
  go_ret
  refine ⟨rbool ?_, rfl⟩
  rw [Bool.eq_iff_iff]; simp; try omega
theorem l15Ints_any (a a' : Option Addr) (n n' cap cap' : Nat) (xs ys : List Int) (w : World) (hI : IntsAt w a n xs) (hJ : IntsAt w a' n' ys) (hn : n ≤ 2097152) (hn' : n' ≤ 2097152) :
  Calls Tryz.prog 149 #[.slice a n cap, .slice a' n' cap'] w fun e w' => e = .returned (.bool (eqL xs ys)) ∧ Below w.heap.size w w' := by
 by_cases hl : n = n'
 ·subst hl
  obtain ⟨hlen, rfl | ⟨b, off, rfl, hb, hcell⟩⟩ := hI
  ·have : xs = [] := List.length_eq_zero_iff.1 hlen
   have e2 : ys = [] := List.length_eq_zero_iff.1 hJ.len
   subst this e2
   go_enter Tryz.func149, Tryz.ntmps149
   go_wp2
   go_loop [5] (fun i => i = .int .i64 0) (fun _ => 0)
   case atStart => rfl
   case round =>
    subst hrel
    go_wp2
    go_ret
    exact ⟨rfl, Below.refl _ _⟩
  ·obtain ⟨hlen', rfl | ⟨b', off', rfl, hb', hcell'⟩⟩ := hJ
   ·have : xs = [] := List.length_eq_zero_iff.1 hlen
    have e2 : ys = [] := List.length_eq_zero_iff.1 hlen'
    subst this e2
    go_enter Tryz.func149, Tryz.ntmps149
    go_wp2
    go_loop [5] (fun i => i = .int .i64 0) (fun _ => 0)
    case atStart => rfl
    case round =>
     subst hrel
     go_wp2
     go_ret
     exact ⟨rfl, Below.refl _ _⟩
   ·go_enter Tryz.func149, Tryz.ntmps149
    go_wp2
    go_loopw [5] (fun i wr => ∃ k : Nat, k ≤ n ∧ i = .int .i64 k ∧ xs.take k = ys.take k ∧ ∃ q, wr = w.drewN q) (fun i _ => n - (intOf i).toNat)
    case atStart => exact ⟨0, Nat.zero_le _, rfl, rfl, 0, rfl⟩
    case round =>
     obtain ⟨k, hk, rfl, hno, q, rfl⟩ := hrel
     have Hno : Hid _ := hno
     clear hno
     by_cases hlt : k < n
     ·have hc := hcell k hlt
      have hc' := hcell' k hlt
      generalize hy : xs.getD k 0 = y at hc
      generalize hz : ys.getD k 0 = z at hc'
      have HY : Hid _ := hy
      have HZ : Hid _ := hz
      clear hy hz hcell hcell'
      have hki : (k : Int) < (n : Int) := by omega
      cases hyz : (y != z)
      ·go_wp2
       go_quiet (fail)
       go_wp2
       go_roundw
       case rel => exact ⟨k + 1, by omega, by go_num, eq_step (by omega) (by omega) Hno.out (by rw [HY.out, HZ.out]; exact hyz), _, rfl⟩
       case measure => simp [intOf]; omega
      ·go_wp2
       go_quiet (fail)
       go_wp2
       go_ret
       exact ⟨rbool (eq_no (k := k) (by rw [HY.out, HZ.out]; exact hyz)).symm, bl_drewN (bl_drewN (Below.refl _ _) _) _⟩
     ·clear hcell hcell'
      go_wp2
      go_ret
      exact ⟨rbool (eq_end (by omega) (by omega) Hno.out).symm, bl_drewN (Below.refl _ _) _⟩
 ·have hne : ((n : Int) != (n' : Int)) = true := by simp; omega
  have hq := eq_len (xs := xs) (ys := ys) (by rw [hI.len, hJ.len]; exact hl)
  clear hI hJ
  go_enter Tryz.func149, Tryz.ntmps149
  go_wp2
  go_ret
  exact ⟨rbool hq.symm, Below.refl _ _⟩
end Go.Proofs.YtihdglmiecifjaaGreat
namespace Go.Proofs.YtihdglmiecifjaaGreat
open Go.RowKit Pl Il
/-- Two lists that the call has made, apart from one another. -/
structure Both (w : World) (g1 m1 c1 : Nat) (xs : List Int) (g2 m2 c2 : Nat) (ys : List Int) (w' : World) : Prop where
  one : Owns w.heap.size w' g1 m1 c1 xs
  two : Owns w.heap.size w' g2 m2 c2 ys
  apart : g1 ≠ g2
  below : Below w.heap.size w w'
end Go.Proofs.YtihdglmiecifjaaGreat
namespace Go.Proofs.YtihdglmiecifjaaGreat
open Go.RowKit Pl Il
/-- The first place of x in xs, unless it has gone. -/
def placeG (xs gone : List Int) (x : Int) : Option Nat := if gone.contains x then none else xs.findIdx? (· == x)
/-- How many different ones stand in xs. -/
def dist (xs : List Int) : Nat := ((List.range xs.length).filter fun i => !hasL (xs.take i) (xs.getD i 0)).length
/-- Who stands still, of the first k. -/
def standTo (xs gone : List Int) (k : Nat) : List Int := ((List.range k).filter fun i => placeG xs gone (xs.getD i 0) == some i).map fun i => xs.getD i 0
theorem place_isSome (xs : List Int) (x : Int) : (placeG xs [] x).isSome = hasL xs x := by
  simp only [placeG, List.contains_nil, Bool.false_eq_true, if_false, hasL]
  rw [List.findIdx?_isSome]
  rw [Bool.eq_iff_iff]
  simp only [List.any_eq_true, beq_iff_eq, List.contains_eq_mem, decide_eq_true_eq]
  exact ⟨fun ⟨y, hy, e⟩ => e ▸ hy, fun h => ⟨x, h, rfl⟩⟩
/-- What the map of places reads as. -/
structure Reads (D : DataW Unit) (xs gone : List Int) : Prop where
  has : ∀ x, Maps.has D (.int .i64 x) = (placeG xs gone x).isSome
  val : ∀ x i, placeG xs gone x = some i → D.atKey (.int .i64 x) (.lit (.int .i64 0)) = .lit (.int .i64 (i : Int))
  size : gone = [] → Maps.size D = dist xs
theorem Reads.empty : Reads (.map []) [] [] := ⟨fun x => by simp [Maps.has, placeG], fun x i h => by simp [placeG] at h, fun _ => rfl⟩
theorem lit_ne {x y : Int} (h : ¬ x = y) : Lit.int .i64 x ≠ Lit.int .i64 y := fun e => h (by injection e)
theorem dist_snoc (xs : List Int) (x : Int) : dist (xs ++ [x]) = dist xs + if hasL xs x then 0 else 1 := by
  unfold dist
  rw [List.length_append, List.length_singleton, List.range_succ, List.filter_append, List.length_append]
  congr 1
  · refine congrArg List.length (List.filter_congr fun i hi => ?_)
    have hi := List.mem_range.1 hi
    rw [List.take_append_of_le_length (Nat.le_of_lt hi)]
    simp [List.getD, List.getElem?_append_left hi]
  · have e : (xs ++ [x]).getD xs.length 0 = x := by simp [List.getD]
    have e2 : (xs ++ [x]).take xs.length = xs := by simp
    rw [List.filter_cons, List.filter_nil, e, e2]
    cases hasL xs x <;> simp
theorem Reads.join_new {D : DataW Unit} {xs : List Int} {x : Int} (h : Reads D xs []) (ht : Maps.Tidy D) (hx : hasL xs x = false) : Reads (D.put (.int .i64 x) (.lit (.int .i64 (xs.length : Int)))) (xs ++ [x]) [] := by
  have key : ∀ y, ¬ y = x → placeG (xs ++ [x]) [] y = placeG xs [] y := fun y hy => by
    simp only [placeG, List.contains_nil, Bool.false_eq_true, if_false]
    rw [List.findIdx?_append]
    have : [x].findIdx? (· == y) = none := by
      rw [List.findIdx?_eq_none_iff]
      intro z hz
      rw [List.mem_singleton] at hz
      subst hz
      simp only [beq_eq_false_iff_ne, ne_eq]
      exact fun e => hy e.symm
    simp [this]
  have self : placeG (xs ++ [x]) [] x = some xs.length := by
    have h0 : placeG xs [] x = none := by
      have := place_isSome xs x
      rw [hx] at this
      simpa using this
    simp only [placeG, List.contains_nil, Bool.false_eq_true, if_false] at h0 ⊢
    rw [List.findIdx?_append, h0]
    simp [List.findIdx?_cons]
  refine ⟨fun y => ?_, fun y i hi => ?_, fun _ => ?_⟩
  · by_cases e : y = x
    · subst e
      rw [Maps.has_put_same (k := .int .i64 y) ht.isMap trivial, self]; rfl
    · rw [Maps.has_put_other (lit_ne e), key y e]; exact h.has y
  · by_cases e : y = x
    · subst e
      rw [self] at hi
      injection hi with hi
      subst hi
      rw [Maps.atKey_put_same (k := .int .i64 y) ht.isMap trivial]
    · rw [Maps.atKey_put_other (lit_ne e)]
      rw [key y e] at hi
      exact h.val y i hi
  · rw [Maps.size_put ht, h.has x, place_isSome, hx, dist_snoc, hx, h.size rfl]
    simp
theorem Reads.join_old {D : DataW Unit} {xs : List Int} {x : Int} (h : Reads D xs []) (hx : hasL xs x = true) : Reads D (xs ++ [x]) [] := by
  have key : ∀ y, placeG (xs ++ [x]) [] y = placeG xs [] y := fun y => by
    by_cases e : y = x
    · subst e
      have := place_isSome xs y
      rw [hx] at this
      obtain ⟨i, hi⟩ := Option.isSome_iff_exists.1 this
      rw [hi]
      simp only [placeG, List.contains_nil, Bool.false_eq_true, if_false] at hi ⊢
      rw [List.findIdx?_append, hi]; rfl
    · simp only [placeG, List.contains_nil, Bool.false_eq_true, if_false]
      rw [List.findIdx?_append]
      have : [x].findIdx? (· == y) = none := by
        rw [List.findIdx?_eq_none_iff]
        intro z hz
        rw [List.mem_singleton] at hz
        subst hz
        simp only [beq_eq_false_iff_ne, ne_eq]
        exact fun e' => e e'.symm
      simp [this]
  refine ⟨fun y => ?_, fun y i hi => ?_, fun _ => ?_⟩
  · rw [key]; exact h.has y
  · rw [key] at hi; exact h.val y i hi
  · rw [dist_snoc, hx, h.size rfl]; simp
theorem place_gone (xs gone : List Int) (x y : Int) : placeG xs (gone ++ [x]) y = if y = x then none else placeG xs gone y := by
  unfold placeG
  by_cases e : y = x
  · subst e; simp
  · simp [e]
theorem Reads.leave {D : DataW Unit} {xs gone : List Int} {x : Int} (h : Reads D xs gone) : Reads (D.del (.int .i64 x)) xs (gone ++ [x]) := by
  refine ⟨fun y => ?_, fun y i hi => ?_, fun e => by simp at e⟩
  · rw [place_gone]
    by_cases e : y = x
    · subst e
      rw [Maps.has_del_same]; simp
    · rw [Maps.has_del_other (lit_ne e), h.has]; simp [e]
  · rw [place_gone] at hi
    by_cases e : y = x
    · subst e; simp at hi
    · rw [Maps.atKey_del_other (lit_ne e)]
      simp [e] at hi
      exact h.val y i hi
theorem stand_yes {xs gone : List Int} {k : Nat} {y : Int} (hy : xs.getD k 0 = y) (h : placeG xs gone y = some k) : standTo xs gone (k + 1) = standTo xs gone k ++ [y] := by
  unfold standTo
  rw [List.range_succ, List.filter_append, List.map_append]
  congr 1
  rw [List.filter_cons, hy, h]
  simp [List.getD] at hy
  simp [List.getD, hy]
theorem stand_no {xs gone : List Int} {k : Nat} {y : Int} (hy : xs.getD k 0 = y) (h : ¬ placeG xs gone y = some k) : standTo xs gone (k + 1) = standTo xs gone k := by
  unfold standTo
  rw [List.range_succ, List.filter_append, List.map_append]
  have : (placeG xs gone (xs.getD k 0) == some k) = false := by
    rw [hy, beq_eq_false_iff_ne]; exact h
  rw [List.filter_cons, this]
  simp
theorem stand_len (xs gone : List Int) (k : Nat) : (standTo xs gone k).length ≤ k := by
  unfold standTo
  rw [List.length_map]
  exact Nat.le_trans (List.length_filter_le _ _) (by simp)
theorem find_nodup {xs : List Int} (h : xs.Nodup) {i : Nat} (hi : i < xs.length) : xs.findIdx? (· == xs[i]) = some i := by
  rw [List.findIdx?_eq_some_iff_getElem]
  refine ⟨hi, by simp, fun j hj => ?_⟩
  intro e
  have e : xs[j]'(by omega) = xs[i] := by simpa using e
  rw [List.nodup_iff_pairwise_ne, List.pairwise_iff_getElem] at h
  exact h j i (by omega) hi hj e
theorem map_range (xs : List Int) : (List.range xs.length).map (fun i => xs.getD i 0) = xs := by
  apply List.ext_getElem
  · simp
  · intro i h1 h2
    simp [List.getD, List.getElem?_eq_getElem h2]
theorem stand_all {xs : List Int} (h : xs.Nodup) (gone : List Int) : standTo xs gone xs.length = xs.filter fun y => !gone.contains y := by
  have e : (List.range xs.length).filter (fun i => placeG xs gone (xs.getD i 0) == some i) = (List.range xs.length).filter ((fun y => !gone.contains y) ∘ fun i => xs.getD i 0) := by
    refine List.filter_congr fun i hi => ?_
    have hi := List.mem_range.1 hi
    have e : xs.getD i 0 = xs[i] := by simp [List.getD, List.getElem?_eq_getElem hi]
    simp only [Function.comp, e, placeG, find_nodup h hi]
    cases gone.contains xs[i] <;> simp
  unfold standTo
  rw [e, ← List.filter_map, map_range]
theorem stand_less {xs : List Int} (h : xs.Nodup) (x : Int) : standTo xs [x] xs.length = lessL xs x := by
  rw [stand_all h, lessL, h.erase_eq_filter]
  refine List.filter_congr fun y _ => ?_
  by_cases e : y = x <;> simp [e]
theorem filter_len_eq {α : Type} {p : α → Bool} : ∀ {l : List α}, (l.filter p).length = l.length → ∀ x ∈ l, p x = true
  | [], _, x, hx => by cases hx
  | y :: r, h, x, hx => by
    cases hy : p y
    · rw [List.filter_cons, hy] at h
      have := List.length_filter_le p r
      simp at h
      omega
    · rw [List.filter_cons, hy] at h
      rcases List.mem_cons.1 hx with rfl | hx
      · exact hy
      · exact filter_len_eq (l := r) (by simpa using h) x hx
end Go.Proofs.YtihdglmiecifjaaGreat
namespace Go.Proofs.YtihdglmiecifjaaGreat
open Go.RowKit Go.Maps Pl Il
theorem law3 : Keyed Tryz.prog 3 := int_keyed Tryz.underlying3
theorem zero3 (w : World) : (zeroValue 3).run Tryz.prog w = .ok (.int .i64 0) w := by kernel_rfl
/-- The parts of a queue in memory: its own block qb, the row of those who came (cv), the map of places (block mb, at most n entries, reading as D). -/
structure QMem (B : Nat) (w : World) (qb mb : Nat) (cv : Value) (D : DataW Unit) (n : Nat) (xs : List Int) : Prop where
  blk : w.heap[qb]? = some (.cells #[cv, .map (some mb)] 169 (0, 0))
  row : w.ownsRow B 3 1 cv xs.length (xs.map (Value.int .i64))
  map : w.ownsMap Tryz.prog 3 (plainElem Tryz.prog 3) mb n D
  ge : B ≤ qb
  ge' : B ≤ mb
structure QParts (B : Nat) (w : World) (qb mb : Nat) (cv : Value) (D : DataW Unit) (xs gone : List Int) : Prop where
  mem : QMem B w qb mb cv D xs.length xs
  rd : Reads D xs gone
/-- A queue at block qb: xs came, gone have left. -/
def QAt (B : Nat) (w : World) (qb : Nat) (xs gone : List Int) : Prop := ∃ mb cv D, QParts B w qb mb cv D xs gone
section
variable {B : Nat} {w : World} {qb mb n : Nat} {cv : Value} {D : DataW Unit} {xs gone : List Int}
theorem QMem.lt (h : QMem B w qb mb cv D n xs) : qb < w.heap.size := by
  rcases Nat.lt_or_ge qb w.heap.size with k | k
  · exact k
  · have := h.blk
    rw [Array.getElem?_eq_none k] at this; cases this
theorem QMem.size (h : QMem B w qb mb cv D n xs) : B ≤ w.heap.size := Nat.le_trans h.ge (Nat.le_of_lt h.lt)
theorem QMem.c0 (h : QMem B w qb mb cv D n xs) : w.cell? ⟨qb, 0, none⟩ = some cv := by simp [World.cell?, h.blk]
theorem QMem.c1 (h : QMem B w qb mb cv D n xs) : w.cell? ⟨qb, 1, none⟩ = some (.map (some mb)) := by simp [World.cell?, h.blk]
theorem QMem.f0 (h : QMem B w qb mb cv D n xs) : w.frozen? ⟨qb, 0, none⟩ = false := by simp [World.frozen?, h.blk]
theorem QMem.ne (h : QMem B w qb mb cv D n xs) : mb ≠ qb := by
  obtain ⟨es, clock, hb, _⟩ := h.map
  rintro rfl
  rw [h.blk] at hb; cases hb
theorem QMem.rowQ (h : QMem B w qb mb cv D n xs) : cv.ownBlock ≠ some qb := by
  intro e
  obtain ⟨_, ⟨rfl, _⟩ | ⟨g, cap, cur, rfl, _, hg, _⟩⟩ := h.row
  · cases e
  · simp [Value.ownBlock] at e
    subst e
    rw [h.blk] at hg
    simp at hg
theorem QMem.rowM (h : QMem B w qb mb cv D n xs) : cv.ownBlock ≠ some mb := by
  intro e
  obtain ⟨es, clock, hb, _⟩ := h.map
  obtain ⟨_, ⟨rfl, _⟩ | ⟨g, cap, cur, rfl, _, hg, _⟩⟩ := h.row
  · cases e
  · simp [Value.ownBlock] at e
    subst e
    rw [hb] at hg
    cases hg
theorem QMem.form (h : QMem B w qb mb cv D n xs) : ∃ a c, cv = .slice a xs.length c ∧ IntsAt w a xs.length xs := by
  obtain ⟨a, c, e, ho⟩ := own_of h.row xs rfl
  exact ⟨a, c, e, ho.ints⟩
theorem QMem.keep {w' : World} (h : QMem B w qb mb cv D n xs) (hb : Below w.heap.size w w') : QMem B w' qb mb cv D n xs := by
  have hg : w.grownBy w' none := ⟨hb.os, hb.tape, hb.output, hb.size, fun k hk _ => hb.block k hk⟩
  exact ⟨by rw [hb.block qb h.lt]; exact h.blk, h.row.kept hg (by cases cv.ownBlock <;> simp), h.map.kept hg (by simp), h.ge, h.ge'⟩
theorem QAt.keep {w' : World} (h : QAt B w qb xs gone) (hb : Below w.heap.size w w') : QAt B w' qb xs gone := by
  obtain ⟨mb, cv, D, h⟩ := h
  exact ⟨mb, cv, D, h.mem.keep hb, h.rd⟩
theorem QMem.mapped {w' : World} {D' : DataW Unit} {n' : Nat} (h : QMem B w qb mb cv D n xs) (hm : w'.ownsMap Tryz.prog 3 (plainElem Tryz.prog 3) mb n' D') (hg : w.grownBy w' (some mb)) : QMem B w' qb mb cv D' n' xs :=
  ⟨by rw [hg.block qb h.lt (by intro e; cases e; exact h.ne rfl)]; exact h.blk, h.row.kept hg (.inr h.rowM), hm, h.ge, h.ge'⟩
theorem QParts.has (h : QParts B w qb mb cv D xs gone) (x : Int) : Maps.has D (.int .i64 x) = (placeG xs gone x).isSome := h.rd.has x
theorem QParts.at (h : QParts B w qb mb cv D xs gone) {x c : Int} (hat : D.atKey (.int .i64 x) (.lit (.int .i64 0)) = .lit (.int .i64 c)) : c = ((placeG xs gone x).getD 0 : Nat) := by
  cases hp : placeG xs gone x with
  | none =>
    have := h.rd.has x
    rw [hp] at this
    rw [atKey_of_not_has this] at hat
    injection hat with hat
    injection hat with _ hat
    simp [← hat]
  | some i =>
    rw [h.rd.val x i hp] at hat
    injection hat with hat
    injection hat with _ hat
    simp [← hat]
end
theorem leave_parts (B qb mb : Nat) (cv : Value) (D : DataW Unit) (xs gone : List Int) (x : Int) (w : World) (hq : QParts B w qb mb cv D xs gone) (hx : (Lit.int .i64 x).wf = true) :
    Calls Tryz.prog 187 #[.pointer (some ⟨qb, 0, none⟩), .int .i64 x] w fun e w' => e = .returned (.tuple #[]) ∧ QParts B w' qb mb cv (D.del (.int .i64 x)) xs (gone ++ [x]) ∧ w.grownBy w' (some mb) := by
  have hkey := keyOf_int_mk Tryz.underlying3 hx
  have c1 := hq.mem.c1
  have hown := hq.mem.map
  have HQ := hidOf hq
  clear hq
  go_enter Tryz.func187, Tryz.ntmps187
  go_wp2_with (first
    | (at_delete; refine wpList_delete_own _ rfl _ _ 167 3 rfl 3 law3 Tryz.underlying167 _ mb _ D rfl hown _ _ rfl hkey ?_; intro w1 hown1 hturn1)
    | go_in)
  go_end0
  exact ⟨rfl, ⟨HQ.out.mem.mapped hown1 hturn1.grown, HQ.out.rd.leave⟩, hturn1.grown⟩
theorem leave_any (B qb : Nat) (xs gone : List Int) (x : Int) (w : World) (hQ : QAt B w qb xs gone) (hx : (Lit.int .i64 x).wf = true) :
    Calls Tryz.prog 187 #[.pointer (some ⟨qb, 0, none⟩), .int .i64 x] w fun e w' => e = .returned (.tuple #[]) ∧ QAt B w' qb xs (gone ++ [x]) ∧ Below B w w' := by
  obtain ⟨mb, cv, D, hq⟩ := hQ
  refine (leave_parts B qb mb cv D xs gone x w hq hx).mono ?_
  rintro e w1 ⟨rfl, h1, hg⟩
  exact ⟨rfl, ⟨mb, cv, _, h1⟩, (Below.refl _ _).grown hg hq.mem.size (fun k hk => by cases hk; exact hq.mem.ge')⟩
end Go.Proofs.YtihdglmiecifjaaGreat
namespace Go.Proofs.YtihdglmiecifjaaGreat
open Go.RowKit Go.Maps Pl Il
theorem QMem.appended {B : Nat} {w w' : World} {qb mb g c n : Nat} {cv : Value} {D : DataW Unit} {xs : List Int} {x : Int} (h : QMem B w qb mb cv D n xs) (hr : w'.ownsRow B 3 1 (.slice (some ⟨g, 0, none⟩) (xs.length + 1) c) (xs.length + 1) ((xs ++ [x]).map (Value.int .i64)))
    (hg : w.grownBy w' cv.ownBlock) (hl : cv.ownBlock = some g ∨ w.heap.size ≤ g) :
    QMem B (w'.setCell ⟨qb, 0, none⟩ (.slice (some ⟨g, 0, none⟩) (xs.length + 1) c)) qb mb (.slice (some ⟨g, 0, none⟩) (xs.length + 1) c) D n (xs ++ [x]) := by
  have hq : w'.heap[qb]? = some (.cells #[cv, .map (some mb)] 169 (0, 0)) := by
    rw [hg.block qb h.lt (fun e => h.rowQ e.symm)]; exact h.blk
  have hgq : g ≠ qb := by
    rcases hl with hl | hl
    · intro e; subst e; exact h.rowQ hl
    · have := h.lt; omega
  have hm := (h.map.kept hg (fun e => h.rowM e.symm)).setCell (a := ⟨qb, 0, none⟩) h.ne (.slice (some ⟨g, 0, none⟩) (xs.length + 1) c)
  have hs : w'.grownBy (w'.setCell ⟨qb, 0, none⟩ (.slice (some ⟨g, 0, none⟩) (xs.length + 1) c)) (some qb) := ⟨rfl, rfl, rfl, by simp, fun k _ hk => Below.heap_setCell _ _ _ _ (by rintro rfl; exact hk rfl)⟩
  refine ⟨?_, ?_, hm, h.ge, h.ge'⟩
  · have hlt : qb < w'.heap.size := by
      rcases Nat.lt_or_ge qb w'.heap.size with k | k
      · exact k
      · rw [Array.getElem?_eq_none k] at hq; cases hq
    have hq' : w'.heap[qb] = .cells #[cv, .map (some mb)] 169 (0, 0) := by
      rw [Array.getElem?_eq_getElem hlt] at hq
      exact Option.some.inj hq
    simp [World.setCell, Array.getElem_modify, hlt, hq']
  · have := hr.kept hs (.inr (by simp [Value.ownBlock]; exact hgq))
    simpa using this
theorem QMem.mono {B : Nat} {w : World} {qb mb n n' : Nat} {cv : Value} {D : DataW Unit} {xs : List Int} (h : QMem B w qb mb cv D n xs) (hn : n ≤ n') : QMem B w qb mb cv D n' xs := ⟨h.blk, h.row, h.map.mono hn, h.ge, h.ge'⟩
/-- What is needed of the world at the walk's last store. -/
theorem QMem.ready {B : Nat} {w : World} {qb mb n : Nat} {cv : Value} {D : DataW Unit} {xs : List Int} (x : Int) (h : QMem B w qb mb cv D n xs) (hn : xs.length ≤ 2097152) : ∃ (g c : Nat) (w' : World),
    (Builtin.append_ #[26, 26] 26 #[cv, .slice (some ⟨w.heap.size, 0, none⟩) 1 1]).run Tryz.prog (w.alloc (.cells #[.int .i64 x] 3)) = .ok (.slice (some ⟨g, 0, none⟩) (xs.length + 1) c) w' ∧
    QMem B (w'.setCell ⟨qb, 0, none⟩ (.slice (some ⟨g, 0, none⟩) (xs.length + 1) c)) qb mb (.slice (some ⟨g, 0, none⟩) (xs.length + 1) c) D n (xs ++ [x]) ∧
    Below B w (w'.setCell ⟨qb, 0, none⟩ (.slice (some ⟨g, 0, none⟩) (xs.length + 1) c)) ∧ w'.cell? ⟨qb, 0, none⟩ = some cv ∧ w'.frozen? ⟨qb, 0, none⟩ = false := by
  obtain ⟨g, c, w', hr, ho, hg, hl⟩ := append_own1 B xs.length cv xs x w h.row h.size (by omega)
  refine ⟨g, c, w', hr, h.appended ho hg hl, ((Below.refl _ _).grown hg h.size (fun k hk => (h.row.lt k hk).1)).setCell (p := ⟨qb, 0, none⟩) h.ge _, ?_, ?_⟩
  · rw [← h.c0]; exact World.cell?_of_block (hg.block qb h.lt (fun e => h.rowQ e.symm))
  · rw [← h.f0]; exact World.frozen?_of_block (hg.block qb h.lt (fun e => h.rowQ e.symm))
theorem join_any (B qb : Nat) (xs : List Int) (x : Int) (w : World) (hQ : QAt B w qb xs []) (hx : (Lit.int .i64 x).wf = true) (hn : xs.length ≤ 2097152) :
    Calls Tryz.prog 178 #[.pointer (some ⟨qb, 0, none⟩), .int .i64 x] w fun e w' => e = .returned (.tuple #[]) ∧ QAt B w' qb (xs ++ [x]) [] ∧ Below B w w' := by
  obtain ⟨mb, cv, D, hq⟩ := hQ
  have hkey := keyOf_int_mk Tryz.underlying3 hx
  have c0 := hq.mem.c0
  have c1 := hq.mem.c1
  have hown := hq.mem.map
  have hh := hq.has x
  rw [place_isSome] at hh
  cases hhas : hasL xs x
  · rw [hhas] at hh
    obtain ⟨a, ca, rfl, _⟩ := hq.mem.form
    have hwl : (Lit.int .i64 (xs.length : Int)).wf = true := WalkArith.wf_i64 (by omega)
    obtain ⟨w1, hrun, hown1, hturn1⟩ := World.ownsMap.store (t := 167) (e := 3) hown.drew law3 Tryz.underlying167 (by unfold maxLen; omega) hkey (plainElem_int Tryz.underlying3 hwl)
    have hM1 := (hq.mem.keep (Below.refl _ w).drew).mapped hown1 hturn1.grown
    have hb1 : Below B w w1 := (Below.refl _ w).drew.grown hturn1.grown hq.mem.size (fun k hk => by cases hk; exact hq.mem.ge')
    have hrd := hq.rd.join_new (hown.tidy law3) hhas
    obtain ⟨g, c, w', hr, hP, hb, c0', f0'⟩ := hM1.ready x hn
    have d0 := hM1.c0
    have d1 := hM1.c1
    have Hr := hidOf hr
    have HP := hidOf hP
    have hb2 := hb1.trans hb
    clear hr hP hq hown1 hturn1 hM1 hb1 hb
    go_enter Tryz.func178, Tryz.ntmps178
    go_wp2_with (first
      | (at_lookup; refine wpList_lookup_own_ok_int _ rfl _ _ 167 rfl 3 3 .i64 law3 Tryz.underlying167 Tryz.underlying3 (zero3 _) mb _ D rfl hown _ _ rfl hkey ?_; intro c0 hat hwc)
      | go_in)
    go_region_with (fail)
    all_goals go_wp2_with (first
      | (at_builtin; refine wpList_append_run rfl _ _ 26 rfl _ _ _ rfl rfl Hr.out ?_)
      | go_in)
    all_goals go_end0
    all_goals exact ⟨rfl, ⟨mb, _, _, HP.out.mono (by simp), hrd⟩, hb2⟩
  · rw [hhas] at hh
    obtain ⟨g, c, w', hr, hP, hb, c0', f0'⟩ := hq.mem.ready x hn
    have hrd := hq.rd.join_old hhas
    obtain ⟨a, ca, rfl, _⟩ := hq.mem.form
    have Hr := hidOf hr
    have HP := hidOf hP
    clear hr hP hq
    go_enter Tryz.func178, Tryz.ntmps178
    go_wp2_with (first
      | (at_lookup; refine wpList_lookup_own_ok_int _ rfl _ _ 167 rfl 3 3 .i64 law3 Tryz.underlying167 Tryz.underlying3 (zero3 _) mb _ D rfl hown _ _ rfl hkey ?_; intro c0 hat hwc)
      | (at_builtin; refine wpList_append_run rfl _ _ 26 rfl _ _ _ rfl rfl Hr.out ?_)
      | go_in)
    go_end0
    exact ⟨rfl, ⟨mb, _, _, HP.out.mono (by simp), hrd⟩, hb⟩
end Go.Proofs.YtihdglmiecifjaaGreat
namespace Go.Proofs.YtihdglmiecifjaaGreat
open Go.RowKit Go.Maps Pl Il
theorem QAt.new (w : World) : QAt w.heap.size ((w.alloc (.map #[] 0)).alloc (.cells #[.slice none 0 0, .map (some w.heap.size)] 169 (0, 0))) (w.heap.size + 1) [] [] := by
  refine ⟨w.heap.size, .slice none 0 0, .map [], ⟨?_, ⟨rfl, .inl ⟨rfl, rfl⟩⟩, ?_, by omega, Nat.le_refl _⟩, Reads.empty⟩
  · have := heap_alloc_new (w.alloc (.map #[] 0)) (.cells #[.slice none 0 0, .map (some w.heap.size)] 169 (0, 0))
    simpa using this
  · exact (World.ownsMap_made w _ _ _).alloc _
theorem queueOf_any (a : Option Addr) (n cap : Nat) (xs : List Int) (w : World) (hI : IntsAt w a n xs) (hn : n ≤ 2097152) (hw : wfL xs) :
    Calls Tryz.prog 154 #[.slice a n cap] w fun e w' => ∃ qb, e = .returned (.pointer (some ⟨qb, 0, none⟩)) ∧ QAt w.heap.size w' qb xs [] ∧ Below w.heap.size w w' := by
  have hmm := @run_makeMap Tryz.prog
  have hS := QAt.new w
  have hbS : Below w.heap.size w ((w.alloc (.map #[] 0)).alloc (.cells #[.slice none 0 0, .map (some w.heap.size)] 169 (0, 0))) := bl_alloc (bl_alloc (Below.refl _ _) _) _
  obtain ⟨hlen, rfl | ⟨b, off, rfl, hb, hcell⟩⟩ := hI
  · have hx : xs = [] := List.length_eq_zero_iff.1 hlen
    subst hx
    go_enter Tryz.func154, Tryz.ntmps154
    go_wp2
    go_loopw [11] (fun i wr => i = .int .i64 0 ∧ QAt w.heap.size wr (w.heap.size + 1) [] [] ∧ Below w.heap.size w wr) (fun _ _ => 0)
    case atStart => exact ⟨rfl, hS, hbS⟩
    case round =>
      obtain ⟨rfl, hq, hbr⟩ := hrel
      go_wp2
      go_ret
      exact ⟨_, rfl, hq, hbr⟩
  · go_enter Tryz.func154, Tryz.ntmps154
    go_wp2
    go_loopw [11] (fun i wr => ∃ k : Nat, k ≤ n ∧ i = .int .i64 k ∧ QAt w.heap.size wr (w.heap.size + 1) (xs.take k) [] ∧ Below w.heap.size w wr) (fun i _ => n - (intOf i).toNat)
    case atStart => exact ⟨0, Nat.zero_le _, rfl, hS, hbS⟩
    case round =>
      rename_i wr
      obtain ⟨k, hk, rfl, hq, hbr⟩ := hrel
      clear hS hbS hmm
      by_cases hlt : k < n
      · have hc : wr.cell? ⟨b, off + k, none⟩ = some (.int .i64 (xs.getD k 0)) := by rw [hbr.cell (p := ⟨b, off + k, none⟩) hb]; exact hcell k hlt
        have hwk := wf_at hw (k := k) (by omega)
        have hcall := join_any w.heap.size (w.heap.size + 1) (xs.take k) (xs.getD k 0) wr hq hwk (by rw [List.length_take]; omega)
        have hst : xs.take k ++ [xs.getD k 0] = xs.take (k + 1) := by
          rw [List.take_succ_eq_append_getElem (by omega)]
          simp [List.getD, List.getElem?_eq_getElem (show k < xs.length by omega)]
        rw [hst] at hcall
        generalize xs.getD k 0 = y at hc hcall
        have HC := hidOf hcall
        clear hcell hcall hq hst
        go_wp2_with fail
        refine (HC.out).mono ?_
        rintro e w1 ⟨rfl, hq1, hb1⟩
        go_wp2
        go_roundw
        case rel => exact ⟨k + 1, by omega, by go_num, hq1, hbr.trans hb1⟩
        case measure => simp [intOf]; omega
      · obtain rfl : k = n := by omega
        clear hcell
        rw [List.take_of_length_le (by omega)] at hq
        go_wp2
        go_ret
        exact ⟨_, rfl, hq, hbr⟩
end Go.Proofs.YtihdglmiecifjaaGreat
namespace Go.Proofs.YtihdglmiecifjaaGreat
open Go.RowKit Go.Maps Pl Il
theorem QParts.look {B : Nat} {w : World} {qb mb : Nat} {cv : Value} {D : DataW Unit} {xs gone : List Int} (h : QParts B w qb mb cv D xs gone) {x : Int} (hx : (Lit.int .i64 x).wf = true) {p : Option Nat} (hp : placeG xs gone x = p) :
    (Instr.lookup 167 (.map (some mb)) (.int .i64 x) true).run Tryz.prog w = .ok (.tuple #[.int .i64 (p.getD 0 : Nat), .bool p.isSome]) w := by
  obtain ⟨v, ps, hrun, hv⟩ := h.mem.map.look_ok (t := 167) (e := 3) law3 Tryz.underlying167 (zero3 _) (plainElem_int Tryz.underlying3 (by decide)) (keyOf_int_mk Tryz.underlying3 hx)
  obtain ⟨c, rfl, hc, _⟩ := plainElem_int_inv Tryz.underlying3 hv
  rw [hrun, h.has x, h.at (congrArg Prod.fst hc), hp]
theorem append_more (B m : Nat) (v : Value) (ys : List Int) (x : Int) (w w0 : World) (hB : B = w0.heap.size) (ho : w.ownsRow B 3 1 v m (ys.map (Value.int .i64))) (hb : Below B w0 w) (hs : m + 1 ≤ 4194304) :
    ∃ (g' c' : Nat) (w' : World), (Builtin.append_ #[26, 26] 26 #[v, .slice (some ⟨w.heap.size, 0, none⟩) 1 1]).run Tryz.prog (w.alloc (.cells #[.int .i64 x] 3)) = .ok (.slice (some ⟨g', 0, none⟩) (m + 1) c') w' ∧
      w'.ownsRow B 3 1 (.slice (some ⟨g', 0, none⟩) (m + 1) c') (m + 1) ((ys ++ [x]).map (Value.int .i64)) ∧ Below B w0 w' := by
  subst hB
  obtain ⟨g, c, w', hr, ho', hg, _⟩ := append_own1 _ m v ys x w ho hb.size hs
  exact ⟨g, c, w', hr, ho', hb.grown hg hb.size (fun k hk => (ho.lt k hk).1)⟩
theorem standing_any (B qb : Nat) (xs gone : List Int) (w : World) (hQ : QAt B w qb xs gone) (hw : wfL xs) (hn : xs.length ≤ 2097152) :
  Calls Tryz.prog 170 #[.pointer (some ⟨qb, 0, none⟩)] w fun e w' => ∃ v, e = .returned v ∧ w'.ownsRow w.heap.size 3 1 v (standTo xs gone xs.length).length ((standTo xs gone xs.length).map (Value.int .i64)) ∧ Below w.heap.size w w' := by
 obtain ⟨mb, cv, D, hq⟩ := hQ
 have c0 := hq.mem.c0
 have hlq := hq.mem.lt
 obtain ⟨a, ca, rfl, hI⟩ := hq.mem.form
 have HQ := hidOf hq
 clear hq
 obtain ⟨_, h0 | ⟨b, off, rfl, hb, hcell⟩⟩ := hI
 ·have hx : xs = [] := List.length_eq_zero_iff.1 h0
  subst hx
  go_enter Tryz.func170, Tryz.ntmps170
  go_wp2
  go_loop [3, 13] (fun v i => v = .slice none 0 0 ∧ i = .int .i64 0) (fun _ _ => 0)
  case atStart => exact ⟨rfl, rfl⟩
  case round =>
   obtain ⟨rfl, rfl⟩ := hrel
   go_wp2
   go_ret
   exact ⟨_, rfl, ⟨rfl, .inl ⟨rfl, rfl⟩⟩, Below.refl _ _⟩
 ·generalize hnn : xs.length = n at *
  go_enter Tryz.func170, Tryz.ntmps170
  go_wp2
  go_loopw [3, 13] (fun v i wr => ∃ k : Nat, k ≤ n ∧ i = .int .i64 k ∧ wr.ownsRow w.heap.size 3 1 v (standTo xs gone k).length ((standTo xs gone k).map (Value.int .i64)) ∧ Below w.heap.size w wr) (fun _ i _ => n - (intOf i).toNat)
  case atStart => exact ⟨0, Nat.zero_le _, rfl, ⟨rfl, .inl ⟨rfl, rfl⟩⟩, Below.refl _ _⟩
  case round =>
   rename_i wr
   obtain ⟨k, hk, rfl, ho, hbr⟩ := hrel
   by_cases hlt : k < n
   ·have hc : wr.cell? ⟨b, off + k, none⟩ = some (.int .i64 (xs.getD k 0)) := by rw [hbr.cell (p := ⟨b, off + k, none⟩) hb]; exact hcell k hlt
    have hwk := wf_at hw (k := k) (by omega)
    have hp : QParts B wr qb mb _ D xs gone := ⟨HQ.out.mem.keep hbr, HQ.out.rd⟩
    have c1 := hp.mem.c1
    generalize hy : xs.getD k 0 = y at hc hwk
    have hlook := fun p => hp.look hwk (p := p)
    have hm := stand_len xs gone k
    obtain ⟨g', c', w', hr, ho', hb'⟩ := append_more w.heap.size _ u3 _ y wr w rfl ho hbr (by omega)
    have hyes := fun h => stand_yes (gone := gone) hy h
    have hno := fun h => stand_no (gone := gone) hy h
    generalize hst : standTo xs gone k = st at *
    generalize hsl : st.length = sl at *
    have Hr := hidOf hr
    have Ho := hidOf ho
    have Ho' := hidOf ho'
    have Hbr := hidOf hbr
    have Hb' := hidOf hb'
    have Hyes := hidOf hyes
    have Hno := hidOf hno
    have HS := hidOf hsl
    have hkk : (k : Int) < (n : Int) := by omega
    clear hy hcell hr ho ho' hbr hb' hp hyes hno hst hsl
    cases hpl : placeG xs gone y with
    | none =>
     have hl := hlook _ hpl
     simp only [Option.getD_none, Option.isSome_none] at hl
     clear hlook
     go_wp2
     go_roundw
     case rel => exact ⟨k + 1, by omega, by go_num, by rw [Hno.out (by rw [hpl]; simp), HS.out]; exact Ho.out, Hbr.out⟩
     case measure => simp [intOf]; omega
    | some j =>
     have hl := hlook _ hpl
     simp only [Option.getD_some, Option.isSome_some] at hl
     clear hlook
     by_cases hj : j = k
     ·subst hj
      have hjj : ((j : Int) == (j : Int)) = true := by simp
      go_wp2_with (first
       | (at_builtin; refine wpList_append_run rfl _ _ 26 rfl _ _ _ rfl rfl Hr.out ?_)
       | go_in)
      go_roundw
      case rel => exact ⟨j + 1, by omega, by go_num, by rw [Hyes.out hpl, List.length_append, HS.out]; exact Ho'.out, Hb'.out⟩
      case measure => simp [intOf]; omega
     ·have hjj : ((j : Int) == (k : Int)) = false := by simp; omega
      go_wp2
      go_roundw
      case rel => exact ⟨k + 1, by omega, by go_num, by rw [Hno.out (by rw [hpl]; simp; omega), HS.out]; exact Ho.out, Hbr.out⟩
      case measure => simp [intOf]; omega
   ·obtain rfl : k = n := by omega
    clear hcell
    go_wp2
    go_ret
    exact ⟨_, rfl, ho, hbr⟩
end Go.Proofs.YtihdglmiecifjaaGreat
namespace Go.Proofs.YtihdglmiecifjaaGreat
open Go.RowKit Pl Il
/-- Nothing but the blocks of these lists has turned. -/
structure TurnL (ls : List (Option Addr × Nat)) (w w' : World) : Prop where
  os : w'.os = w.os
  tape : w'.tape = w.tape
  output : w'.output = w.output
  size : w.heap.size ≤ w'.heap.size
  block : ∀ k, k < w.heap.size → (∀ p, p ∈ ls → 0 < p.2 → ∀ off, p.1 ≠ some ⟨k, off, none⟩) → w'.heap[k]? = w.heap[k]?
theorem TurnL.refl (ls : List (Option Addr × Nat)) (w : World) : TurnL ls w w := ⟨rfl, rfl, rfl, Nat.le_refl _, fun _ _ _ => rfl⟩
theorem TurnL.trans {ls : List (Option Addr × Nat)} {w w1 w2 : World} (h : TurnL ls w w1) (h' : TurnL ls w1 w2) : TurnL ls w w2 :=
  ⟨h'.os.trans h.os, h'.tape.trans h.tape, h'.output.trans h.output, Nat.le_trans h.size h'.size, fun k hk hn => (h'.block k (Nat.lt_of_lt_of_le hk h.size) hn).trans (h.block k hk hn)⟩
theorem TurnL.mono {ls ms : List (Option Addr × Nat)} {w w' : World} (h : TurnL ls w w') (hs : ∀ p, p ∈ ls → p ∈ ms) : TurnL ms w w' :=
  ⟨h.os, h.tape, h.output, h.size, fun k hk hn => h.block k hk fun p hp => hn p (hs p hp)⟩
theorem TurnL.ofBelow {ls : List (Option Addr × Nat)} {w w' : World} (h : Below w.heap.size w w') : TurnL ls w w' := ⟨h.os, h.tape, h.output, h.size, fun k hk _ => h.block k hk⟩
theorem TurnL.ofGrown {a : Option Addr} {n b off : Nat} {w w' : World} (hn : 0 < n) (ha : a = some ⟨b, off, none⟩) (h : w.grownBy w' (some b)) : TurnL [(a, n)] w w' :=
  ⟨h.os, h.tape, h.output, h.size, fun k hk hne => h.block k hk (by
    intro e
    injection e with e
    subst e
    exact hne (a, n) (by simp) hn off ha)⟩
theorem TurnL.below {ls : List (Option Addr × Nat)} {w w' : World} {B : Nat} (h : TurnL ls w w') (hB : B ≤ w.heap.size) (hl : ∀ p, p ∈ ls → Abv p.1 p.2 B) : Below B w w' :=
  ⟨h.os, h.tape, h.output, h.size, fun k hk => h.block k (by omega) fun p hp h0 off e => by
    rcases hl p hp with q | q
    · omega
    · have := q _ _ e; omega⟩
theorem TurnL.keepB {ls : List (Option Addr × Nat)} {w w' : World} (h : TurnL ls w w') {b off n : Nat} (hb : b < w.heap.size) (hn : 0 < n) (hf : ∀ p, p ∈ ls → Far p.1 p.2 (some ⟨b, off, none⟩) n) : w'.heap[b]? = w.heap[b]? :=
  h.block b hb fun p hp h0 off' e => by
    rcases hf p hp with q | q | q
    · omega
    · omega
    · exact q b off' b off e rfl rfl
theorem TmAt.turn {ls : List (Option Addr × Nat)} {w w' : World} {a : Option Addr} {n : Nat} {ts : List Tm} (h : TmAt w a n ts) (ht : TurnL ls w w') (hf : ∀ p, p ∈ ls → Far p.1 p.2 a n) : TmAt w' a n ts := by
  refine ⟨h.len, h.short, ?_⟩
  rcases Nat.eq_zero_or_pos n with h0 | h0
  · exact .inl h0
  rcases h.row with k | ⟨b, off, rfl, hlt, hc⟩
  · exact .inl k
  · have key := ht.keepB hlt h0 hf
    refine .inr ⟨b, off, rfl, Nat.lt_of_lt_of_le hlt ht.size, fun i hi => ?_⟩
    obtain ⟨h1, h2, h3⟩ := hc i hi
    exact ⟨by rw [← h1]; exact World.cell?_of_block key, by rw [← h2]; exact World.cell?_of_block key, by rw [← h3]; exact World.cell?_of_block key⟩
theorem OwnF.turn {ls : List (Option Addr × Nat)} {B : Nat} {w w' : World} {a : Option Addr} {n : Nat} {ts : List Tm} (h : OwnF B w a n ts) (ht : TurnL ls w w') (hf : ∀ p, p ∈ ls → Far p.1 p.2 a n) : OwnF B w' a n ts := by
  refine ⟨h.tm.turn ht hf, ?_⟩
  rcases Nat.eq_zero_or_pos n with h0 | h0
  · exact .inl h0
  rcases h.own with k | ⟨b, off, rfl, hB, hfr⟩
  · exact .inl k
  rcases h.tm.row with k | ⟨b', off', e, hlt, _⟩
  · exact .inl k
  · cases e
    have key := ht.keepB hlt h0 hf
    exact .inr ⟨b, off, rfl, hB, fun o => by rw [← hfr o]; exact World.frozen?_of_block key⟩
theorem IntsAt.turn {ls : List (Option Addr × Nat)} {w w' : World} {a : Option Addr} {n : Nat} {xs : List Int} (h : IntsAt w a n xs) (ht : TurnL ls w w') (hf : ∀ p, p ∈ ls → Far p.1 p.2 a n) : IntsAt w' a n xs := by
  refine ⟨h.len, ?_⟩
  rcases Nat.eq_zero_or_pos n with h0 | h0
  · exact .inl h0
  rcases h.row with k | ⟨b, off, rfl, hlt, hc⟩
  · exact .inl k
  · have key := ht.keepB hlt h0 hf
    exact .inr ⟨b, off, rfl, Nat.lt_of_lt_of_le hlt ht.size, fun i hi => by rw [← hc i hi]; exact World.cell?_of_block key⟩
theorem Il.OwnAt.turn {ls : List (Option Addr × Nat)} {B : Nat} {w w' : World} {a : Option Addr} {n : Nat} {xs : List Int} (h : Il.OwnAt B w a n xs) (ht : TurnL ls w w') (hf : ∀ p, p ∈ ls → Far p.1 p.2 a n) : Il.OwnAt B w' a n xs := by
  refine ⟨IntsAt.turn h.ints ht hf, ?_⟩
  rcases Nat.eq_zero_or_pos n with h0 | h0
  · exact .inl h0
  rcases h.own with k | ⟨b, off, rfl, hB, hfr⟩
  · exact .inl k
  rcases h.ints.row with k | ⟨b', off', e, hlt, _⟩
  · exact .inl k
  · cases e
    have key := ht.keepB hlt h0 hf
    exact .inr ⟨b, off, rfl, hB, fun i hi => by rw [← hfr i hi]; exact World.frozen?_of_block key⟩
theorem SubAt.turn {ls : List (Option Addr × Nat)} {w w' : World} {a : Option Addr} {n : Nat} {xs : List Sa} (h : SubAt w a n xs) (ht : TurnL ls w w') (hf : ∀ p, p ∈ ls → Far p.1 p.2 a n) (hx : ∀ x, x ∈ xs → ∀ p, p ∈ ls → Far p.1 p.2 x.a x.n) : SubAt w' a n xs := by
  refine ⟨h.len, fun x hm => (h.fil x hm).turn ht (hx x hm), ?_⟩
  rcases Nat.eq_zero_or_pos n with h0 | h0
  · exact .inl h0
  rcases h.row with k | ⟨b, off, rfl, hlt, hc⟩
  · exact .inl k
  · have key := ht.keepB hlt h0 hf
    exact .inr ⟨b, off, rfl, Nat.lt_of_lt_of_le hlt ht.size, fun i hi => (hc i hi).same fun j _ => World.cell?_of_block key⟩
theorem OwnS.turn {ls : List (Option Addr × Nat)} {B : Nat} {w w' : World} {a : Option Addr} {n : Nat} {xs : List Sa} (h : OwnS B w a n xs) (ht : TurnL ls w w') (hf : ∀ p, p ∈ ls → Far p.1 p.2 a n) (hx : ∀ x, x ∈ xs → ∀ p, p ∈ ls → Far p.1 p.2 x.a x.n) : OwnS B w' a n xs := by
  refine ⟨h.sub.turn ht hf hx, ?_, fun x hm => (h.fow x hm).turn ht (hx x hm), h.apt, h.apa⟩
  rcases Nat.eq_zero_or_pos n with h0 | h0
  · exact .inl h0
  rcases h.own with k | ⟨b, off, rfl, hB, hfr⟩
  · exact .inl k
  rcases h.sub.row with k | ⟨b', off', e, hlt, _⟩
  · exact .inl k
  · cases e
    have key := ht.keepB hlt h0 hf
    exact .inr ⟨b, off, rfl, hB, fun o => by rw [← hfr o]; exact World.frozen?_of_block key⟩
end Go.Proofs.YtihdglmiecifjaaGreat
namespace Go.Proofs.YtihdglmiecifjaaGreat
open Go.ChangeShapes Go.WideShapes Go.ChangeAt Go.RowKit Go.Joins Go.Deep Il
/-- A subscriber's numbers are numbers of the language. -/
structure SbWf (s : Sb) : Prop where
  id : (Lit.int .i64 s.id).wf = true
  st : (Lit.int .i64 s.st).wf = true
  cu : (Lit.int .i64 s.cu).wf = true
  gt : (Lit.int .i64 s.gt).wf = true
  lo : (Lit.int .i64 s.lo).wf = true
  pa : (Lit.int .i64 s.pa).wf = true
section
variable {H : Type} {enc : TypeId × Value → H} {P : Program} {w : World} {base : Nat} {spare : Nat → Bool} {held : Bool}
end
/-- A ring's numbers are numbers of the language. -/
structure RWf (v : Rv) : Prop where
  cp : (Lit.int .i64 v.cp).wf = true
  se : (Lit.int .i64 v.se).wf = true
  nx : (Lit.int .i64 v.nx).wf = true
  sb : ∀ s, s ∈ v.sb → SbWf s
  ln : wfL v.ln
  gs : wfL v.gs
end Go.Proofs.YtihdglmiecifjaaGreat
namespace Go.Proofs.YtihdglmiecifjaaGreat
open Go.RowKit Pl Il
/-- What is asked of the specification's, and of the program's. -/
def SpecRingOk (f : Rv → Bool) : Prop := ∀ (M : Rm) (v : Rv) (w : World), RIn w M v → RLe M 1048576 → RCap M → RWf v →
  Calls Tryz.prog 24 #[.agg #[.int .i64 v.cp, .int .i64 v.se, .slice M.ia M.i M.ic, .int .i64 v.nx, .slice M.sa M.s M.sc, .slice M.la M.l M.lc, .slice M.ga M.g M.gc, .bool v.cl]] w fun e w' => e = .returned (.bool (f v)) ∧ Below w.heap.size w w'
def ImplRingOk (f : Rv → Bool) : Prop := ∀ (M : Rm) (v : Rv) (w : World), RIn w M v → RLe M 1048576 → RCap M → RWf v →
  Calls Tryz.prog 29 #[.agg #[.int .i64 v.cp, .int .i64 v.se, .slice M.ia M.i M.ic, .int .i64 v.nx, .slice M.sa M.s M.sc, .slice M.la M.l M.lc, .slice M.ga M.g M.gc, .bool v.cl]] w fun e w' => e = .returned (.bool (f v)) ∧ Below w.heap.size w w'
end Go.Proofs.YtihdglmiecifjaaGreat
namespace Go.Proofs.YtihdglmiecifjaaGreat
open Go.RowKit Pl Il
def isLet (c : UInt8) : Bool := decide (97 ≤ c.toNat) && decide (c.toNat ≤ 122)
def letL (l : List UInt8) : Bool := l.all isLet
def partB (s : ByteArray) : Bool := decide (1 ≤ s.size) && decide (s.size ≤ 10) && letL s.data.toList
theorem let_step (s : ByteArray) (k : Nat) (h : k < s.size) (hp : letL (s.data.toList.take k) = true) (hg : isLet s[k] = true) :
    letL (s.data.toList.take (k + 1)) = true := by
  rw [take_snoc s k h]; simp [letL] at hp ⊢; exact ⟨hp, hg⟩
theorem part_bad (s : ByteArray) (k : Nat) (h : k < s.size) (hg : isLet s[k] = false) : partB s = false := by
  have hm : s[k] ∈ s.data.toList := by
    have : s.data.toList[k]'(by simpa using h) = s[k] := rfl
    rw [← this]; exact List.getElem_mem _
  have : letL s.data.toList = false := by
    unfold letL
    rw [List.all_eq_false]
    exact ⟨_, hm, by simp [hg]⟩
  simp [partB, this]
theorem part_size (s : ByteArray) (h : ¬ (1 ≤ (s.size : Int) ∧ (s.size : Int) ≤ 10)) : partB s = false := by
  by_cases h1 : 1 ≤ s.size
  · have : ¬ s.size ≤ 10 := by omega
    simp [partB, this]
  · simp [partB, h1]
theorem part_all (s : ByteArray) (k : Nat) (h1 : 1 ≤ (s.size : Int)) (h2 : (s.size : Int) ≤ 10) (h : s.size ≤ k) (hp : letL (s.data.toList.take k) = true) : partB s = true := by
  have e : s.data.toList.take k = s.data.toList := List.take_of_length_le (by simpa using h)
  rw [e] at hp
  have a : 1 ≤ s.size := by omega
  have b : s.size ≤ 10 := by omega
  simp [partB, a, b, hp]
theorem let_no (c : UInt8) (h : (c.toNat : Int) < 97 ∨ 122 < (c.toNat : Int)) : isLet c = false := by
  rcases h with h | h
  · have : ¬ 97 ≤ c.toNat := by omega
    simp [isLet, this]
  · have : ¬ c.toNat ≤ 122 := by omega
    simp [isLet, this]
theorem let_yes (c : UInt8) (h1 : ¬ (c.toNat : Int) < 97) (h2 : ¬ 122 < (c.toNat : Int)) : isLet c = true := by
  have a : 97 ≤ c.toNat := by omega
  have b : c.toNat ≤ 122 := by omega
  simp [isLet, a, b]
/-- Has a term just what its Op has? -/
def okTm (t : Tm) : Bool :=
  if t.1 = 1 ∨ t.1 = 2 ∨ t.1 = 3 ∨ t.1 = 8 ∨ t.1 = 9 ∨ t.1 = 10 then decide (t.2.1 = 0) && t.2.2.toList.isEmpty
  else if t.1 = 4 then decide (-999999999 ≤ t.2.1) && decide (t.2.1 ≤ 999999999) && t.2.2.toList.isEmpty
  else if t.1 = 5 then decide (1 ≤ t.2.1) && decide (t.2.1 ≤ 999999999) && t.2.2.toList.isEmpty
  else if t.1 = 6 ∨ t.1 = 7 then decide (t.2.1 = 0) && partB t.2.2
  else false
/-- How many an Op takes. -/
def cntM (op : Int) : Nat := if op = 8 then 1 else if op = 9 ∨ op = 10 then 2 else 0
theorem cnt_le (op : Int) : cntM op ≤ 2 := by unfold cntM; split <;> (try split) <;> omega
def takesM (t : Tm) : Int := if okTm t = true then (cntM t.1 : Int) else -1
/-- How many are left, if there is always what is taken. -/
def goN : List Tm → Nat → Option Nat
  | [], n => some n
  | t :: ts, n => if okTm t = false then none else if n < cntM t.1 then none else goN ts (n - cntM t.1 + 1)
theorem goN_cons (t : Tm) (ts : List Tm) (n : Nat) : goN (t :: ts) n = if okTm t = false then none else if n < cntM t.1 then none else goN ts (n - cntM t.1 + 1) := rfl
theorem goN_snoc : ∀ (l : List Tm) (t : Tm) (n : Nat), goN (l ++ [t]) n = (goN l n).bind fun m => if okTm t = false then none else if m < cntM t.1 then none else some (m - cntM t.1 + 1)
  | [], t, n => by simp [goN]
  | x :: l, t, n => by
    rw [List.cons_append, goN_cons, goN_cons]
    by_cases h1 : okTm x = false
    · rw [if_pos h1, if_pos h1]; rfl
    · rw [if_neg h1, if_neg h1]
      by_cases h2 : n < cntM x.1
      · rw [if_pos h2, if_pos h2]; rfl
      · rw [if_neg h2, if_neg h2]; exact goN_snoc l t _
theorem goN_append : ∀ (l l' : List Tm) (n : Nat), goN (l ++ l') n = (goN l n).bind fun m => goN l' m
  | [], l', n => by simp [goN]
  | x :: l, l', n => by
    rw [List.cons_append, goN_cons, goN_cons]
    by_cases h1 : okTm x = false
    · rw [if_pos h1, if_pos h1]; rfl
    · rw [if_neg h1, if_neg h1]
      by_cases h2 : n < cntM x.1
      · rw [if_pos h2, if_pos h2]; rfl
      · rw [if_neg h2, if_neg h2]; exact goN_append l l' _
def okF (f : List Tm) : Bool := decide (f.length ≤ 12) && (f.isEmpty || decide (goN f 0 = some 1))
theorem okF_long {f : List Tm} (h : ¬ f.length ≤ 12) : okF f = false := by simp [okF, h]
theorem okF_stop {f : List Tm} {k : Nat} (hk : k < f.length) {m : Nat} (h : goN (f.take k) 0 = some m) (hb : okTm (qg f k) = false ∨ m < cntM (qg f k).1) : okF f = false := by
  have e : f = f.take (k + 1) ++ f.drop (k + 1) := (List.take_append_drop _ _).symm
  have h1 : goN (f.take (k + 1)) 0 = none := by
    rw [take_qg hk, goN_snoc, h]
    simp only [Option.bind_some]
    rcases hb with hb | hb
    · rw [if_pos hb]
    · by_cases h1 : okTm (qg f k) = false
      · rw [if_pos h1]
      · rw [if_neg h1, if_pos hb]
  have h2 : goN f 0 = none := by
    rw [e, goN_append, h1]; rfl
  have hne : f.isEmpty = false := by
    cases f with
    | nil => simp at hk
    | cons _ _ => rfl
  simp [okF, h2, hne]
theorem goN_step {f : List Tm} {k : Nat} (hk : k < f.length) {m : Nat} (h : goN (f.take k) 0 = some m) (h1 : okTm (qg f k) = true) (h2 : ¬ m < cntM (qg f k).1) : goN (f.take (k + 1)) 0 = some (m - cntM (qg f k).1 + 1) := by
  rw [take_qg hk, goN_snoc, h]
  simp only [Option.bind_some]
  rw [if_neg (by rw [h1]; simp), if_neg h2]
theorem goN_le : ∀ (l : List Tm) (n m : Nat), goN l n = some m → m ≤ n + l.length
  | [], n, m, h => by simp [goN] at h; omega
  | x :: l, n, m, h => by
    unfold goN at h
    split at h
    · cases h
    · split at h
      · cases h
      · have := goN_le l _ _ h
        simp only [List.length_cons]
        omega
theorem goN_pos {f : List Tm} {k m : Nat} (hk : 0 < k) (hl : k ≤ f.length) (h : goN (f.take k) 0 = some m) : 1 ≤ m := by
  obtain ⟨j, rfl⟩ : ∃ j, k = j + 1 := ⟨k - 1, by omega⟩
  rw [take_qg (by omega), goN_snoc] at h
  cases e : goN (f.take j) 0 with
  | none => rw [e] at h; cases h
  | some q =>
    rw [e] at h
    simp only [Option.bind_some] at h
    split at h
    · cases h
    · split at h
      · cases h
      · simp at h; omega
theorem okF_end {f : List Tm} (h0 : f ≠ []) (hl : f.length ≤ 12) {m : Nat} (h : goN f 0 = some m) : okF f = decide ((m : Int) = 1) := by
  have hne : f.isEmpty = false := by
    cases f with
    | nil => exact absurd rfl h0
    | cons _ _ => rfl
  have : (goN f 0 = some 1) ↔ ((m : Int) = 1) := by rw [h]; simp; omega
  simp [okF, hl, hne, this]
end Go.Proofs.YtihdglmiecifjaaGreat
namespace Go.Proofs.YtihdglmiecifjaaGreat
open Go.RowKit Pl Il
/-- The least of m and the cursors. -/
def leastR (m : Int) (sb : List Sb) : Int := sb.foldl (fun a s => if s.cu < a then s.cu else a) m
theorem leastR_snoc (m : Int) (sb : List Sb) (s : Sb) : leastR m (sb ++ [s]) = if s.cu < leastR m sb then s.cu else leastR m sb := by unfold leastR; rw [List.foldl_append]; rfl
/-- The oldest of a ring. -/
def oldR (v : Rv) : Int :=
  let l := leastR v.se v.sb
  let k := if l < v.se - v.cp then v.se - v.cp else l
  if k < 0 then 0 else k
theorem leastR_le : ∀ (sb : List Sb) (m : Int), leastR m sb ≤ m
  | [], _ => Int.le_refl _
  | s :: sb, m => by
    have h := leastR_le sb (if s.cu < m then s.cu else m)
    have e : leastR m (s :: sb) = leastR (if s.cu < m then s.cu else m) sb := rfl
    rw [e]
    split at h <;> rename_i hc
    · rw [if_pos hc]; omega
    · rw [if_neg hc]; exact h
theorem oldR_bd {v : Rv} (h0 : 0 ≤ v.se) (h1 : 1 ≤ v.cp) : 0 ≤ oldR v ∧ oldR v ≤ v.se := by
  have h := leastR_le v.sb v.se
  unfold oldR
  simp only
  split <;> split <;> omega
/-- A subscriber's place, or -1. -/
def atR (sb : List Sb) (id : Int) : Int := match sb.findIdx? (fun s => s.id == id) with | some i => (i : Int) | none => -1
theorem atR_at {sb : List Sb} {id : Int} {k : Nat} (hk : k < sb.length) (hn : ∀ j (hj : j < k), ¬ (sb[j]'(by omega)).id = id) (he : (sb[k]).id = id) : atR sb id = (k : Int) := by
  have : sb.findIdx? (fun s => s.id == id) = some k := by
    rw [List.findIdx?_eq_some_iff_getElem]
    exact ⟨hk, by simp [he], fun j hj => by simp [hn j hj]⟩
  unfold atR
  rw [this]
theorem atR_none {sb : List Sb} {id : Int} (hn : ∀ j (hj : j < sb.length), ¬ (sb[j]).id = id) : atR sb id = -1 := by
  have : sb.findIdx? (fun s => s.id == id) = none := by
    rw [List.findIdx?_eq_none_iff]
    intro s hs
    obtain ⟨j, hj, rfl⟩ := List.getElem_of_mem hs
    simp [hn j hj]
  unfold atR
  rw [this]
/-- A right subscriber of a ring. -/
def subHead (v : Rv) (s : Sb) : Bool := decide (0 ≤ s.id ∧ s.id ≤ v.nx - 1) && decide (0 ≤ s.st) && decide (s.st ≤ s.cu) && decide (s.cu ≤ v.se) && decide (0 ≤ s.gt) && decide (0 ≤ s.lo) && decide (0 ≤ s.pa)
def subSums (s : Sb) : Bool := decide (s.gt ≤ s.cu - s.st) && decide (s.lo ≤ s.cu - s.st) && decide (s.pa ≤ s.cu - s.st) && decide (s.gt + s.lo + s.pa = s.cu - s.st)
def subR (v : Rv) (s : Sb) : Bool := subHead v s && (subSums s && okF s.fl)
theorem sg_svs {xs : List Sa} {k : Nat} (hk : k < xs.length) : (svs xs)[k]'(by simpa [svs] using hk) = (sg xs k).s := by simp only [svs, List.getElem_map]; rw [sg_eq hk]
end Go.Proofs.YtihdglmiecifjaaGreat
