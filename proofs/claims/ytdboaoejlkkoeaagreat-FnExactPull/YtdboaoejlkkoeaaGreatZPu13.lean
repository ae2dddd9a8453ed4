/-
  The specification's RingOk, as the laws ask for it
  The program's queue in memory, and walks of its small methods
  Walks of the program's queue: who joins
  Walks of the program's queue: made of a list, and looked at
-/
import Derived.Test.YtdboaoejlkkoeaaGreatZPu12
import Derived.LoopIn
import Derived.LoopNIn
import Derived.OwnWalkIn
import Derived.RangeFuncBound
import Derived.RangeFuncCalls
import Derived.RangeFuncLeaves
import Derived.RangeFuncNested
import Derived.Shelf.Strings.Search3
import Derived.TacticsInMore
import Derived.Test.YtdboaoejlkkoeaaGreatProg
namespace Go.Proofs.YtdboaoejlkkoeaaGreat
open Go.RowKit Pl Il
theorem specRingOk_any : SpecRingOk (okR restR) := fun M v w hI hm _ _ => specRingOk_one M v w hI (hm.mono (by omega))
end Go.Proofs.YtdboaoejlkkoeaaGreat
namespace Go.Proofs.YtdboaoejlkkoeaaGreat
open Go.RowKit Go.Maps Pl Il
theorem law3 : Keyed Tryz.prog 3 := int_keyed Tryz.underlying3
theorem zero3 (w : World) : (zeroValue 3).run Tryz.prog w = .ok (.int .i64 0) w := by kernel_rfl
structure QMem (B : Nat) (w : World) (qb mb : Nat) (cv : Value) (D : DataW Unit) (n : Nat) (xs : List Int) : Prop where
  blk : w.heap[qb]? = some (.cells #[cv, .map (some mb)] 169 (0, 0))
  row : w.ownsRow B 3 1 cv xs.length (xs.map (Value.int .i64))
  map : w.ownsMap Tryz.prog 3 (plainElem Tryz.prog 3) mb n D
  ge : B ≤ qb
  ge' : B ≤ mb
structure QParts (B : Nat) (w : World) (qb mb : Nat) (cv : Value) (D : DataW Unit) (xs gone : List Int) : Prop where
  mem : QMem B w qb mb cv D xs.length xs
  rd : Reads D xs gone
def QAt (B : Nat) (w : World) (qb : Nat) (xs gone : List Int) : Prop := ∃ mb cv D, QParts B w qb mb cv D xs gone
section
variable {B : Nat} {w : World} {qb mb n : Nat} {cv : Value} {D : DataW Unit} {xs gone : List Int}
theorem QMem.lt (h : QMem B w qb mb cv D n xs) : qb < w.heap.size := by
  rcases Nat.lt_or_ge qb w.heap.size with k | k
  · exact k
  · have := h.blk
    rw [Array.getElem?_eq_none k] at this; cases this
theorem QMem.size (h : QMem B w qb mb cv D n xs) : B ≤ w.heap.size := Nat.le_trans h.ge (Nat.le_of_lt h.lt)
theorem QMem.c0 (h : QMem B w qb mb cv D n xs) : w.cell? ⟨qb, 0, none⟩ = some cv := by simp [World.cell?, h.blk]
theorem QMem.c1 (h : QMem B w qb mb cv D n xs) : w.cell? ⟨qb, 1, none⟩ = some (.map (some mb)) := by simp [World.cell?, h.blk]
theorem QMem.f0 (h : QMem B w qb mb cv D n xs) : w.frozen? ⟨qb, 0, none⟩ = false := by simp [World.frozen?, h.blk]
theorem QMem.ne (h : QMem B w qb mb cv D n xs) : mb ≠ qb := by
  obtain ⟨es, clock, hb, _⟩ := h.map
  rintro rfl
  rw [h.blk] at hb; cases hb
theorem QMem.rowQ (h : QMem B w qb mb cv D n xs) : cv.ownBlock ≠ some qb := by
  intro e
  obtain ⟨_, ⟨rfl, _⟩ | ⟨g, cap, cur, rfl, _, hg, _⟩⟩ := h.row
  · cases e
  · simp [Value.ownBlock] at e
    subst e
    rw [h.blk] at hg
    simp at hg
theorem QMem.rowM (h : QMem B w qb mb cv D n xs) : cv.ownBlock ≠ some mb := by
  intro e
  obtain ⟨es, clock, hb, _⟩ := h.map
  obtain ⟨_, ⟨rfl, _⟩ | ⟨g, cap, cur, rfl, _, hg, _⟩⟩ := h.row
  · cases e
  · simp [Value.ownBlock] at e
    subst e
    rw [hb] at hg
    cases hg
theorem QMem.form (h : QMem B w qb mb cv D n xs) : ∃ a c, cv = .slice a xs.length c ∧ IntsAt w a xs.length xs := by
  obtain ⟨a, c, e, ho⟩ := own_of h.row xs rfl
  exact ⟨a, c, e, ho.ints⟩
theorem QMem.keep {w' : World} (h : QMem B w qb mb cv D n xs) (hb : Below w.heap.size w w') : QMem B w' qb mb cv D n xs := by
  have hg : w.grownBy w' none := ⟨hb.os, hb.tape, hb.output, hb.size, fun k hk _ => hb.block k hk⟩
  exact ⟨by rw [hb.block qb h.lt]; exact h.blk, h.row.kept hg (by cases cv.ownBlock <;> simp), h.map.kept hg (by simp), h.ge, h.ge'⟩
theorem QAt.keep {w' : World} (h : QAt B w qb xs gone) (hb : Below w.heap.size w w') : QAt B w' qb xs gone := by
  obtain ⟨mb, cv, D, h⟩ := h
  exact ⟨mb, cv, D, h.mem.keep hb, h.rd⟩
theorem QMem.mapped {w' : World} {D' : DataW Unit} {n' : Nat} (h : QMem B w qb mb cv D n xs) (hm : w'.ownsMap Tryz.prog 3 (plainElem Tryz.prog 3) mb n' D') (hg : w.grownBy w' (some mb)) : QMem B w' qb mb cv D' n' xs :=
  ⟨by rw [hg.block qb h.lt (by intro e; cases e; exact h.ne rfl)]; exact h.blk, h.row.kept hg (.inr h.rowM), hm, h.ge, h.ge'⟩
theorem QParts.has (h : QParts B w qb mb cv D xs gone) (x : Int) : Maps.has D (.int .i64 x) = (placeG xs gone x).isSome := h.rd.has x
theorem QParts.at (h : QParts B w qb mb cv D xs gone) {x c : Int} (hat : D.atKey (.int .i64 x) (.lit (.int .i64 0)) = .lit (.int .i64 c)) : c = ((placeG xs gone x).getD 0 : Nat) := by
  cases hp : placeG xs gone x with
  | none =>
    have := h.rd.has x
    rw [hp] at this
    rw [atKey_of_not_has this] at hat
    injection hat with hat
    injection hat with _ hat
    simp [← hat]
  | some i =>
    rw [h.rd.val x i hp] at hat
    injection hat with hat
    injection hat with _ hat
    simp [← hat]
end
theorem placeOf_any (B qb : Nat) (xs gone : List Int) (x : Int) (w : World) (hQ : QAt B w qb xs gone) (hx : (Lit.int .i64 x).wf = true) :
    Calls Tryz.prog 189 #[.pointer (some ⟨qb, 0, none⟩), .int .i64 x] w fun e w' => e = .returned (.tuple #[.int .i64 ((placeG xs gone x).getD 0 : Nat), .bool (placeG xs gone x).isSome]) ∧ w' = w := by
  obtain ⟨mb, cv, D, hq⟩ := hQ
  have hkey := keyOf_int_mk Tryz.underlying3 hx
  have c1 := hq.mem.c1
  have hown := hq.mem.map
  have hh := hq.has x
  have hv := fun c => hq.at (x := x) (c := c)
  have HV := hidOf hv
  have HH := hidOf hh
  clear hq hv hh
  go_enter Tryz.func189, Tryz.ntmps189
  go_wp2_with (first
    | (at_lookup; refine wpList_lookup_own_ok_int _ rfl _ _ 167 rfl 3 3 .i64 law3 Tryz.underlying167 Tryz.underlying3 (zero3 _) mb _ D rfl hown _ _ rfl hkey ?_; intro c hat hwc)
    | go_in)
  go_ret2
  rw [HV.out c hat, HH.out]
  exact ⟨rfl, rfl⟩
open Go.RowKit Go.Maps Pl Il
theorem QMem.appended {B : Nat} {w w' : World} {qb mb g c n : Nat} {cv : Value} {D : DataW Unit} {xs : List Int} {x : Int} (h : QMem B w qb mb cv D n xs) (hr : w'.ownsRow B 3 1 (.slice (some ⟨g, 0, none⟩) (xs.length + 1) c) (xs.length + 1) ((xs ++ [x]).map (Value.int .i64)))
    (hg : w.grownBy w' cv.ownBlock) (hl : cv.ownBlock = some g ∨ w.heap.size ≤ g) :
    QMem B (w'.setCell ⟨qb, 0, none⟩ (.slice (some ⟨g, 0, none⟩) (xs.length + 1) c)) qb mb (.slice (some ⟨g, 0, none⟩) (xs.length + 1) c) D n (xs ++ [x]) := by
  have hq : w'.heap[qb]? = some (.cells #[cv, .map (some mb)] 169 (0, 0)) := by
    rw [hg.block qb h.lt (fun e => h.rowQ e.symm)]; exact h.blk
  have hgq : g ≠ qb := by
    rcases hl with hl | hl
    · intro e; subst e; exact h.rowQ hl
    · have := h.lt; omega
  have hm := (h.map.kept hg (fun e => h.rowM e.symm)).setCell (a := ⟨qb, 0, none⟩) h.ne (.slice (some ⟨g, 0, none⟩) (xs.length + 1) c)
  have hs : w'.grownBy (w'.setCell ⟨qb, 0, none⟩ (.slice (some ⟨g, 0, none⟩) (xs.length + 1) c)) (some qb) := ⟨rfl, rfl, rfl, by simp, fun k _ hk => Below.heap_setCell _ _ _ _ (by rintro rfl; exact hk rfl)⟩
  refine ⟨?_, ?_, hm, h.ge, h.ge'⟩
  · have hlt : qb < w'.heap.size := by
      rcases Nat.lt_or_ge qb w'.heap.size with k | k
      · exact k
      · rw [Array.getElem?_eq_none k] at hq; cases hq
    have hq' : w'.heap[qb] = .cells #[cv, .map (some mb)] 169 (0, 0) := by
      rw [Array.getElem?_eq_getElem hlt] at hq
      exact Option.some.inj hq
    simp [World.setCell, Array.getElem_modify, hlt, hq']
  · have := hr.kept hs (.inr (by simp [Value.ownBlock]; exact hgq))
    simpa using this
theorem QMem.mono {B : Nat} {w : World} {qb mb n n' : Nat} {cv : Value} {D : DataW Unit} {xs : List Int} (h : QMem B w qb mb cv D n xs) (hn : n ≤ n') : QMem B w qb mb cv D n' xs := ⟨h.blk, h.row, h.map.mono hn, h.ge, h.ge'⟩
theorem QMem.ready {B : Nat} {w : World} {qb mb n : Nat} {cv : Value} {D : DataW Unit} {xs : List Int} (x : Int) (h : QMem B w qb mb cv D n xs) (hn : xs.length ≤ 2097152) : ∃ (g c : Nat) (w' : World),
    (Builtin.append_ #[26, 26] 26 #[cv, .slice (some ⟨w.heap.size, 0, none⟩) 1 1]).run Tryz.prog (w.alloc (.cells #[.int .i64 x] 3)) = .ok (.slice (some ⟨g, 0, none⟩) (xs.length + 1) c) w' ∧
    QMem B (w'.setCell ⟨qb, 0, none⟩ (.slice (some ⟨g, 0, none⟩) (xs.length + 1) c)) qb mb (.slice (some ⟨g, 0, none⟩) (xs.length + 1) c) D n (xs ++ [x]) ∧
    Below B w (w'.setCell ⟨qb, 0, none⟩ (.slice (some ⟨g, 0, none⟩) (xs.length + 1) c)) ∧ w'.cell? ⟨qb, 0, none⟩ = some cv ∧ w'.frozen? ⟨qb, 0, none⟩ = false := by
  obtain ⟨g, c, w', hr, ho, hg, hl⟩ := append_own1 B xs.length cv xs x w h.row h.size (by omega)
  refine ⟨g, c, w', hr, h.appended ho hg hl, ((Below.refl _ _).grown hg h.size (fun k hk => (h.row.lt k hk).1)).setCell (p := ⟨qb, 0, none⟩) h.ge _, ?_, ?_⟩
  · rw [← h.c0]; exact World.cell?_of_block (hg.block qb h.lt (fun e => h.rowQ e.symm))
  · rw [← h.f0]; exact World.frozen?_of_block (hg.block qb h.lt (fun e => h.rowQ e.symm))
theorem join_any (B qb : Nat) (xs : List Int) (x : Int) (w : World) (hQ : QAt B w qb xs []) (hx : (Lit.int .i64 x).wf = true) (hn : xs.length ≤ 2097152) :
    Calls Tryz.prog 178 #[.pointer (some ⟨qb, 0, none⟩), .int .i64 x] w fun e w' => e = .returned (.tuple #[]) ∧ QAt B w' qb (xs ++ [x]) [] ∧ Below B w w' := by
  obtain ⟨mb, cv, D, hq⟩ := hQ
  have hkey := keyOf_int_mk Tryz.underlying3 hx
  have c0 := hq.mem.c0
  have c1 := hq.mem.c1
  have hown := hq.mem.map
  have hh := hq.has x
  rw [place_isSome] at hh
  cases hhas : hasL xs x
  · rw [hhas] at hh
    obtain ⟨a, ca, rfl, _⟩ := hq.mem.form
    have hwl : (Lit.int .i64 (xs.length : Int)).wf = true := WalkArith.wf_i64 (by omega)
    obtain ⟨w1, hrun, hown1, hturn1⟩ := World.ownsMap.store (t := 167) (e := 3) hown.drew law3 Tryz.underlying167 (by unfold maxLen; omega) hkey (plainElem_int Tryz.underlying3 hwl)
    have hM1 := (hq.mem.keep (Below.refl _ w).drew).mapped hown1 hturn1.grown
    have hb1 : Below B w w1 := (Below.refl _ w).drew.grown hturn1.grown hq.mem.size (fun k hk => by cases hk; exact hq.mem.ge')
    have hrd := hq.rd.join_new (hown.tidy law3) hhas
    obtain ⟨g, c, w', hr, hP, hb, c0', f0'⟩ := hM1.ready x hn
    have d0 := hM1.c0
    have d1 := hM1.c1
    have Hr := hidOf hr
    have HP := hidOf hP
    have hb2 := hb1.trans hb
    clear hr hP hq hown1 hturn1 hM1 hb1 hb
    go_enter Tryz.func178, Tryz.ntmps178
    go_wp2_with (first
      | (at_lookup; refine wpList_lookup_own_ok_int _ rfl _ _ 167 rfl 3 3 .i64 law3 Tryz.underlying167 Tryz.underlying3 (zero3 _) mb _ D rfl hown _ _ rfl hkey ?_; intro c0 hat hwc)
      | go_in)
    go_region_with (fail)
    all_goals go_wp2_with (first
      | (at_builtin; refine wpList_append_run rfl _ _ 26 rfl _ _ _ rfl rfl Hr.out ?_)
      | go_in)
    all_goals go_end0
    all_goals exact ⟨rfl, ⟨mb, _, _, HP.out.mono (by simp), hrd⟩, hb2⟩
  · rw [hhas] at hh
    obtain ⟨g, c, w', hr, hP, hb, c0', f0'⟩ := hq.mem.ready x hn
    have hrd := hq.rd.join_old hhas
    obtain ⟨a, ca, rfl, _⟩ := hq.mem.form
    have Hr := hidOf hr
    have HP := hidOf hP
    clear hr hP hq
    go_enter Tryz.func178, Tryz.ntmps178
    go_wp2_with (first
      | (at_lookup; refine wpList_lookup_own_ok_int _ rfl _ _ 167 rfl 3 3 .i64 law3 Tryz.underlying167 Tryz.underlying3 (zero3 _) mb _ D rfl hown _ _ rfl hkey ?_; intro c0 hat hwc)
      | (at_builtin; refine wpList_append_run rfl _ _ 26 rfl _ _ _ rfl rfl Hr.out ?_)
      | go_in)
    go_end0
    exact ⟨rfl, ⟨mb, _, _, HP.out.mono (by simp), hrd⟩, hb⟩
open Go.RowKit Go.Maps Pl Il
theorem QAt.new (w : World) : QAt w.heap.size ((w.alloc (.map #[] 0)).alloc (.cells #[.slice none 0 0, .map (some w.heap.size)] 169 (0, 0))) (w.heap.size + 1) [] [] := by
  refine ⟨w.heap.size, .slice none 0 0, .map [], ⟨?_, ⟨rfl, .inl ⟨rfl, rfl⟩⟩, ?_, by omega, Nat.le_refl _⟩, Reads.empty⟩
  · have := heap_alloc_new (w.alloc (.map #[] 0)) (.cells #[.slice none 0 0, .map (some w.heap.size)] 169 (0, 0))
    simpa using this
  · exact (World.ownsMap_made w _ _ _).alloc _
theorem queueOf_any (a : Option Addr) (n cap : Nat) (xs : List Int) (w : World) (hI : IntsAt w a n xs) (hn : n ≤ 2097152) (hw : wfL xs) :
    Calls Tryz.prog 154 #[.slice a n cap] w fun e w' => ∃ qb, e = .returned (.pointer (some ⟨qb, 0, none⟩)) ∧ QAt w.heap.size w' qb xs [] ∧ Below w.heap.size w w' := by
  have hmm := @run_makeMap Tryz.prog
  have hS := QAt.new w
  have hbS : Below w.heap.size w ((w.alloc (.map #[] 0)).alloc (.cells #[.slice none 0 0, .map (some w.heap.size)] 169 (0, 0))) := bl_alloc (bl_alloc (Below.refl _ _) _) _
  obtain ⟨hlen, rfl | ⟨b, off, rfl, hb, hcell⟩⟩ := hI
  · have hx : xs = [] := List.length_eq_zero_iff.1 hlen
    subst hx
    go_enter Tryz.func154, Tryz.ntmps154
    go_wp2
    go_loopw [11] (fun i wr => i = .int .i64 0 ∧ QAt w.heap.size wr (w.heap.size + 1) [] [] ∧ Below w.heap.size w wr) (fun _ _ => 0)
    case atStart => exact ⟨rfl, hS, hbS⟩
    case round =>
      obtain ⟨rfl, hq, hbr⟩ := hrel
      go_wp2
      go_ret
      exact ⟨_, rfl, hq, hbr⟩
  · go_enter Tryz.func154, Tryz.ntmps154
    go_wp2
    go_loopw [11] (fun i wr => ∃ k : Nat, k ≤ n ∧ i = .int .i64 k ∧ QAt w.heap.size wr (w.heap.size + 1) (xs.take k) [] ∧ Below w.heap.size w wr) (fun i _ => n - (intOf i).toNat)
    case atStart => exact ⟨0, Nat.zero_le _, rfl, hS, hbS⟩
    case round =>
      rename_i wr
      obtain ⟨k, hk, rfl, hq, hbr⟩ := hrel
      clear hS hbS hmm
      by_cases hlt : k < n
      · have hc : wr.cell? ⟨b, off + k, none⟩ = some (.int .i64 (xs.getD k 0)) := by rw [hbr.cell (p := ⟨b, off + k, none⟩) hb]; exact hcell k hlt
        have hwk := wf_at hw (k := k) (by omega)
        have hcall := join_any w.heap.size (w.heap.size + 1) (xs.take k) (xs.getD k 0) wr hq hwk (by rw [List.length_take]; omega)
        have hst : xs.take k ++ [xs.getD k 0] = xs.take (k + 1) := by
          rw [List.take_succ_eq_append_getElem (by omega)]
          simp [List.getD, List.getElem?_eq_getElem (show k < xs.length by omega)]
        rw [hst] at hcall
        generalize xs.getD k 0 = y at hc hcall
        have HC := hidOf hcall
        clear hcell hcall hq hst
        go_wp2_with fail
        refine (HC.out).mono ?_
        rintro e w1 ⟨rfl, hq1, hb1⟩
        go_wp2
        go_roundw
        case rel => exact ⟨k + 1, by omega, by go_num, hq1, hbr.trans hb1⟩
        case measure => simp [intOf]; omega
      · obtain rfl : k = n := by omega
        clear hcell
        rw [List.take_of_length_le (by omega)] at hq
        go_wp2
        go_ret
        exact ⟨_, rfl, hq, hbr⟩
end Go.Proofs.YtdboaoejlkkoeaaGreat
namespace Go.Proofs.YtdboaoejlkkoeaaGreat
open Go.RowKit Pl Il
abbrev Bd : Type := Sum Int ByteArray
def begB (s t : ByteArray) : Bool := t.toList.isPrefixOf s.toList
def inL : List UInt8 → List UInt8 → Bool
  | l, [] => l.isEmpty
  | l, x :: xs => l.isPrefixOf (x :: xs) || inL l xs
def leafP (t : Tm) : Bd → Bool
  | .inl n => if t.1 = 1 then true else if t.1 = 2 then true else if t.1 = 3 then false else if t.1 = 4 then decide (n < t.2.1) else if t.1 = 5 then decide (n.tmod t.2.1 = 0) else false
  | .inr s => if t.1 = 1 then true else if t.1 = 2 then false else if t.1 = 3 then true else if t.1 = 4 then false else if t.1 = 5 then false else if t.1 = 6 then begB s t.2.2 else inL t.2.2.toList s.toList
abbrev Pd : Type := Bd → Bool
def pg (ps : List Pd) (i : Nat) : Pd := ps.getD i (fun _ => false)
def stepP (t : Tm) (ps : List Pd) : List Pd :=
  if t.1 = 8 then ps.take (ps.length - 1) ++ [fun b => !(pg ps (ps.length - 1) b)]
  else if t.1 = 9 then ps.take (ps.length - 2) ++ [fun b => pg ps (ps.length - 1) b && pg ps (ps.length - 2) b]
  else if t.1 = 10 then ps.take (ps.length - 2) ++ [fun b => pg ps (ps.length - 1) b || pg ps (ps.length - 2) b]
  else ps ++ [leafP t]
theorem stepP_len (t : Tm) (ps : List Pd) (_h : ¬ ps.length < cntM t.1) : (stepP t ps).length = ps.length - cntM t.1 + 1 := by
  unfold stepP
  unfold cntM
  by_cases h1 : t.1 = 8
  · simp [h1]
  · by_cases h2 : t.1 = 9
    · simp [h2]
    · by_cases h3 : t.1 = 10
      · simp [h3]
      · simp [h1, h2, h3]
def runP (f : List Tm) : List Pd := f.foldl (fun ps t => stepP t ps) []
theorem runP_snoc (l : List Tm) (t : Tm) : runP (l ++ [t]) = stepP t (runP l) := by simp [runP]
theorem runP_step {f : List Tm} {k : Nat} (hk : k < f.length) : runP (f.take (k + 1)) = stepP (qg f k) (runP (f.take k)) := by rw [take_qg hk, runP_snoc]
def passP (f : List Tm) : Pd := if f = [] then fun _ => true else pg (runP f) 0
theorem runP_len : ∀ {f : List Tm} {k m : Nat}, k ≤ f.length → goN (f.take k) 0 = some m → (runP (f.take k)).length = m := by
  intro f k
  induction k with
  | zero => intro m _ h; simp [goN] at h; subst h; simp [runP]
  | succ k ih =>
    intro m hk h
    have hk' : k < f.length := by omega
    rw [take_qg hk', goN_snoc] at h
    cases e : goN (f.take k) 0 with
    | none => rw [e] at h; cases h
    | some q =>
      rw [e] at h
      simp only [Option.bind_some] at h
      have hl := ih (by omega) e
      split at h
      · cases h
      · split at h
        · cases h
        · rename_i h2
          rw [runP_step hk', stepP_len _ _ (by rw [hl]; exact h2), hl]
          simpa using h
open Go.RowKit Pl Il
theorem isPart_any (s : ByteArray) (w : World) (hs : s.size ≤ maxLen) :
    Calls Tryz.prog 190 #[.string s] w fun e w' => e = .returned (.bool (partB s)) ∧ w' = w := by
  unfold maxLen at hs
  by_cases h1 : (s.size : Int) < 1
  · have hq := part_size s (by omega)
    go_enter Tryz.func190, Tryz.ntmps190
    go_wp2
    go_ret
    first | exact ⟨rbool hq.symm, rfl⟩ | exact ⟨rfl, rfl⟩
  by_cases h2 : 10 < (s.size : Int)
  · have hq := part_size s (by omega)
    go_enter Tryz.func190, Tryz.ntmps190
    go_wp2
    go_ret
    first | exact ⟨rbool hq.symm, rfl⟩ | exact ⟨rfl, rfl⟩
  go_enter Tryz.func190, Tryz.ntmps190
  go_wp2
  go_loop [3] (fun i => ∃ k : Nat, k ≤ s.size ∧ i = .int .i64 k ∧ letL (s.data.toList.take k) = true) (fun i => s.size - (intOf i).toNat)
  case atStart => exact ⟨0, Nat.zero_le _, rfl, rfl⟩
  case round =>
    obtain ⟨k, hk, rfl, hp⟩ := hrel
    by_cases hlt : k < s.size
    · go_wp2
      all_goals first
        | (go_ret; exact ⟨rbool (part_bad s k hlt (let_no _ (by omega))).symm, rfl⟩)
        | (go_round
           case rel => exact ⟨k + 1, by omega, by go_num, let_step s k hlt hp (let_yes _ (by omega) (by omega))⟩
           case measure => simp [intOf]; omega)
    · go_wp2
      go_ret
      exact ⟨rbool (part_all s k (by omega) (by omega) (by omega) hp).symm, rfl⟩
theorem countTaken_any (op : Int) (w : World) : Calls Tryz.prog 185 #[.int .i64 op] w fun e w' => e = .returned (.int .i64 (cntM op : Int)) ∧ w' = w := by
  by_cases h1 : op = 8
  · subst h1
    go_enter Tryz.func185, Tryz.ntmps185
    go_wp2
    go_ret
    exact ⟨rfl, rfl⟩
  by_cases h2 : op = 9
  · subst h2
    go_enter Tryz.func185, Tryz.ntmps185
    go_wp2
    go_ret
    exact ⟨rfl, rfl⟩
  by_cases h3 : op = 10
  · subst h3
    go_enter Tryz.func185, Tryz.ntmps185
    go_wp2
    go_ret
    exact ⟨rfl, rfl⟩
  have e1 : (op == 8) = false := by simp [h1]
  have e2 : (op == 9) = false := by simp [h2]
  have e3 : (op == 10) = false := by simp [h3]
  have hc : cntM op = 0 := by simp [cntM, h1, h2, h3]
  rw [hc]
  go_enter Tryz.func185, Tryz.ntmps185
  go_wp2
  go_ret
  exact ⟨rfl, rfl⟩
set_option maxHeartbeats 1000000 in
theorem termOk_any (t : Tm) (w : World) (hs : t.2.2.size ≤ maxLen) :
    Calls Tryz.prog 184 #[.agg #[.int .i64 t.1, .int .i64 t.2.1, .string t.2.2]] w fun e w' => e = .returned (.bool (okTm t)) ∧ Below w.heap.size w w' := by
  obtain ⟨op, n, s⟩ := t
  simp only at hs ⊢
  go_enter Tryz.func184, Tryz.ntmps184
  go_wp2_with (go_at_call 190; refine (isPart_any s _ hs).mono ?_; rintro e w1 ⟨rfl, rfl⟩)
  all_goals go_ret
  all_goals refine ⟨rbool ?_, bl_alloc (Below.refl _ _) _⟩
  all_goals first | (simp_all [okTm]; done) | (simp_all [okTm]; omega)
end Go.Proofs.YtdboaoejlkkoeaaGreat
namespace Go.Proofs.YtdboaoejlkkoeaaGreat
open Go.RowKit Pl
theorem meth_msg_num (n : Int) (w : World) : (method 341 193 (.int .i64 n) "loop.example/g00098/impl.msg").run Tryz.prog w = .ok (234, .int .i64 n) w := by kernel_rfl
theorem meth_right_num (n : Int) (w : World) : (method 341 193 (.int .i64 n) "loop.example/g00098/impl.right").run Tryz.prog w = .ok (235, .int .i64 n) w := by kernel_rfl
theorem meth_msg_text (s : ByteArray) (w : World) : (method 341 194 (.string s) "loop.example/g00098/impl.msg").run Tryz.prog w = .ok (237, .string s) w := by kernel_rfl
theorem meth_right_text (s : ByteArray) (w : World) : (method 341 194 (.string s) "loop.example/g00098/impl.right").run Tryz.prog w = .ok (238, .string s) w := by kernel_rfl
def yes (t : TypeId) (v : Value) : Ending := .returned (.tuple #[.iface t v, .bool true])
def no : Ending := .returned (.tuple #[.nilIface, .bool false])
theorem body_num_yes (n : Int) (s : ByteArray) (w : World) (hs : s.toList = []) (hn : okNum n = true) :
    Calls Tryz.prog 141 #[.agg #[.int .i64 1, .int .i64 n, .string s]] w fun e w' => e = yes 193 (.int .i64 n) ∧ Below w.heap.size w w' := by
  have m1 := meth_msg_num n
  have m2 := meth_right_num n
  go_enter Tryz.func141, Tryz.ntmps141
  go_wp2_with fail
  first | (go_region_with (first | (go_at_call 234; refine (msg_num _ _).mono ?_; rintro e w' ⟨rfl, rfl⟩) | (go_at_call 235; refine (right_num _ _).mono ?_; rintro e w' ⟨rfl, rfl⟩))) | fail
  all_goals
    go_wp2
    go_ret2
    exact ⟨rfl, by repeat (first | exact Below.refl _ _ | apply Below.drew | apply bl_alloc)⟩
theorem body_num_no (n : Int) (s : ByteArray) (w : World) (hs : s.toList = []) (hn : okNum n = false) :
    Calls Tryz.prog 141 #[.agg #[.int .i64 1, .int .i64 n, .string s]] w fun e w' => e = no ∧ Below w.heap.size w w' := by
  have m1 := meth_msg_num n
  have m2 := meth_right_num n
  go_enter Tryz.func141, Tryz.ntmps141
  go_wp2_with fail
  first | (go_region_with (first | (go_at_call 234; refine (msg_num _ _).mono ?_; rintro e w' ⟨rfl, rfl⟩) | (go_at_call 235; refine (right_num _ _).mono ?_; rintro e w' ⟨rfl, rfl⟩))) | fail
  all_goals
    go_wp2
    go_ret2
    exact ⟨rfl, by repeat (first | exact Below.refl _ _ | apply Below.drew | apply bl_alloc)⟩
theorem body_num_not (n : Int) (s : ByteArray) (w : World) (hs : ¬ s.toList = []) :
    Calls Tryz.prog 141 #[.agg #[.int .i64 1, .int .i64 n, .string s]] w fun e w' => e = no ∧ Below w.heap.size w w' := by
  have m1 := meth_msg_num n
  have m2 := meth_right_num n
  go_enter Tryz.func141, Tryz.ntmps141
  go_wp2_with fail
  first | (go_region_with (first | (go_at_call 234; refine (msg_num _ _).mono ?_; rintro e w' ⟨rfl, rfl⟩) | (go_at_call 235; refine (right_num _ _).mono ?_; rintro e w' ⟨rfl, rfl⟩))) | fail
  all_goals
    go_wp2
    go_ret2
    exact ⟨rfl, by repeat (first | exact Below.refl _ _ | apply Below.drew | apply bl_alloc)⟩
open Go.RowKit Pl
theorem body_text_yes (s : ByteArray) (w : World) (hm : s.size ≤ maxLen) (hn : plainB s = true) :
    Calls Tryz.prog 141 #[.agg #[.int .i64 2, .int .i64 0, .string s]] w fun e w' => e = yes 194 (.string s) ∧ Below w.heap.size w w' := by
  have m1 := meth_msg_text s
  have m2 := meth_right_text s
  go_enter Tryz.func141, Tryz.ntmps141
  go_wp2_with fail
  first | (go_region_with (first | (go_at_call 237; refine (msg_text _ _).mono ?_; rintro e w' ⟨rfl, rfl⟩) | (go_at_call 238; refine (right_text _ _ hm).mono ?_; rintro e w' ⟨rfl, rfl⟩))) | fail
  all_goals
    go_wp2
    go_ret2
    exact ⟨rfl, by repeat (first | exact Below.refl _ _ | apply Below.drew | apply bl_alloc)⟩
theorem body_text_no (s : ByteArray) (w : World) (hm : s.size ≤ maxLen) (hn : plainB s = false) :
    Calls Tryz.prog 141 #[.agg #[.int .i64 2, .int .i64 0, .string s]] w fun e w' => e = no ∧ Below w.heap.size w w' := by
  have m1 := meth_msg_text s
  have m2 := meth_right_text s
  go_enter Tryz.func141, Tryz.ntmps141
  go_wp2_with fail
  first | (go_region_with (first | (go_at_call 237; refine (msg_text _ _).mono ?_; rintro e w' ⟨rfl, rfl⟩) | (go_at_call 238; refine (right_text _ _ hm).mono ?_; rintro e w' ⟨rfl, rfl⟩))) | fail
  all_goals
    go_wp2
    go_ret2
    exact ⟨rfl, by repeat (first | exact Below.refl _ _ | apply Below.drew | apply bl_alloc)⟩
theorem body_text_not (n : Int) (s : ByteArray) (w : World) (hn : ¬ n = 0) :
    Calls Tryz.prog 141 #[.agg #[.int .i64 2, .int .i64 n, .string s]] w fun e w' => e = no ∧ Below w.heap.size w w' := by
  have m1 := meth_msg_text s
  have m2 := meth_right_text s
  have hb : ((0 : Int) == n) = false := by simp; omega
  go_enter Tryz.func141, Tryz.ntmps141
  go_wp2_with fail
  first | (go_region_with (first | (go_at_call 237; refine (msg_text _ _).mono ?_; rintro e w' ⟨rfl, rfl⟩))) | fail
  all_goals
    go_wp2
    go_ret2
    exact ⟨rfl, by repeat (first | exact Below.refl _ _ | apply Below.drew | apply bl_alloc)⟩
theorem body_none (k n : Int) (s : ByteArray) (w : World) (h1 : (k == 1) = false) (h2 : (k == 2) = false) :
    Calls Tryz.prog 141 #[.agg #[.int .i64 k, .int .i64 n, .string s]] w fun e w' => e = no ∧ Below w.heap.size w w' := by
  go_enter Tryz.func141, Tryz.ntmps141
  go_wp2
  go_ret2
  exact ⟨rfl, bl_alloc (Below.refl _ _) _⟩
open Go.RowKit Pl
def tyOf (k : Int) : TypeId := if k = 1 then 193 else 194
def valOf (k n : Int) (s : ByteArray) : Value := if k = 1 then .int .i64 n else .string s
theorem body_any (k n : Int) (s : ByteArray) (w : World) (hm : s.size ≤ maxLen) :
    Calls Tryz.prog 141 #[.agg #[.int .i64 k, .int .i64 n, .string s]] w fun e w' =>
      (okB k n s = true ∧ e = yes (tyOf k) (valOf k n s) ∨ okB k n s = false ∧ e = no) ∧ Below w.heap.size w w' := by
  by_cases h1 : k = 1
  · subst h1
    by_cases hs : s.toList = []
    · cases ho : okNum n
      · exact (body_num_no n s w hs ho).mono fun e w' ⟨he, hb⟩ => ⟨.inr ⟨by simp [okB, hs, ho], he⟩, hb⟩
      · exact (body_num_yes n s w hs ho).mono fun e w' ⟨he, hb⟩ => ⟨.inl ⟨by simp [okB, hs, ho], he⟩, hb⟩
    · exact (body_num_not n s w hs).mono fun e w' ⟨he, hb⟩ => ⟨.inr ⟨by simp [okB, hs], he⟩, hb⟩
  · by_cases h2 : k = 2
    · subst h2
      by_cases hn : n = 0
      · subst hn
        cases ho : plainB s
        · exact (body_text_no s w hm ho).mono fun e w' ⟨he, hb⟩ => ⟨.inr ⟨by simp [okB, ho], he⟩, hb⟩
        · exact (body_text_yes s w hm ho).mono fun e w' ⟨he, hb⟩ => ⟨.inl ⟨by simp [okB, ho], he⟩, hb⟩
      · exact (body_text_not n s w hn).mono fun e w' ⟨he, hb⟩ => ⟨.inr ⟨by simp [okB, hn], he⟩, hb⟩
    · exact (body_none k n s w (by simp [h1]) (by simp [h2])).mono fun e w' ⟨he, hb⟩ => ⟨.inr ⟨by simp [okB, h1, h2], he⟩, hb⟩
theorem implMsgOk_any (k n : Int) (s : ByteArray) (w : World) (hm : s.size ≤ maxLen) :
    Calls Tryz.prog 79 #[.agg #[.int .i64 k, .int .i64 n, .string s]] w fun e w' => e = .returned (.bool (okB k n s)) ∧ Below w.heap.size w w' := by
  go_enter Tryz.func79, Tryz.ntmps79
  go_wp2_with fail
  refine (body_any k n s _ hm).mono ?_
  rintro e w' ⟨⟨ho, rfl⟩ | ⟨ho, rfl⟩, hb⟩
  · unfold yes
    have hb' := bl_trans (bl_alloc (Below.refl _ _) _) hb
    go_wp2
    go_ret
    exact ⟨ret_bool ho.symm, hb'⟩
  · unfold no
    have hb' := bl_trans (bl_alloc (Below.refl _ _) _) hb
    go_wp2
    go_ret
    exact ⟨ret_bool ho.symm, hb'⟩
end Go.Proofs.YtdboaoejlkkoeaaGreat
namespace Go.Proofs
open Go.Shelf
def Tryz.lays144_ren : Go.Shelf.Ren := ⟨fun | 144 => 206 | 143 => 210 | 219 => 211 | 217 => 212 | 225 => 213 | 224 => 214 | 267 => 215 | 266 => 216 | 314 => 217 | n => n, fun | 9 => 9 | 4 => 4 | 3 => 3 | 5 => 5 | 46 => 204 | 146 => 224 | 51 => 223 | n => n, fun | 1 => 0 | n => n⟩
theorem Tryz.lays144 : Go.Proofs.Lays.n144 Tryz.prog Tryz.lays144_ren := {
  mixed := by kernel_rfl
  f143 := Tryz.func210.trans (congrArg some (by kernel_rfl))
  f144 := Tryz.func206.trans (congrArg some (by kernel_rfl))
  f217 := Tryz.func212.trans (congrArg some (by kernel_rfl))
  f219 := Tryz.func211.trans (congrArg some (by kernel_rfl))
  f224 := Tryz.func214.trans (congrArg some (by kernel_rfl))
  f225 := Tryz.func213.trans (congrArg some (by kernel_rfl))
  f266 := Tryz.func216.trans (congrArg some (by kernel_rfl))
  f267 := Tryz.func215.trans (congrArg some (by kernel_rfl))
  f314 := Tryz.func217.trans (congrArg some (by kernel_rfl))
  t3 := Tryz.underlying3
  a3 := Tryz.isAgg3
  z3 := Tryz.sizeOf3
  v3 := Tryz.zeroValue3
  t4 := Tryz.underlying4
  a4 := Tryz.isAgg4
  z4 := Tryz.sizeOf4
  v4 := Tryz.zeroValue4
  t5 := Tryz.underlying5
  a5 := Tryz.isAgg5
  z5 := Tryz.sizeOf5
  v5 := Tryz.zeroValue5
  t9 := Tryz.underlying9
  a9 := Tryz.isAgg9
  z9 := Tryz.sizeOf9
  v9 := Tryz.zeroValue9
  t46 := Tryz.underlying204
  a46 := Tryz.isAgg204
  z46 := Tryz.sizeOf204
  v46 := Tryz.zeroValue204
  t51 := Tryz.underlying223
  a51 := Tryz.isAgg223
  z51 := Tryz.sizeOf223
  v51 := Tryz.zeroValue223
  t146 := Tryz.underlying224
  a146 := Tryz.isAgg224
  z146 := Tryz.sizeOf224
  v146 := Tryz.zeroValue224
  g1 := by kernel_rfl }
end Go.Proofs
namespace Go.Proofs.YtdboaoejlkkoeaaGreat
open Go.RowKit
section
variable {F : Fence} {n : Nat} {P : Program}
def stPost {σ : Type} (I : σ → World → Prop) (X : Code → σ → World → Prop) (s : σ) (W : World) : Exit → Act → World → Prop
  | .normal, _, W' => KeepsOthers W W' ∧ I s W'
  | .ret, _, W' => KeepsOthers W W' ∧ X .ret s W'
  | .exit id, _, W' => KeepsOthers W W' ∧ X (.exit id) s W'
  | .goto t, _, W' => KeepsOthers W W' ∧ X (.goto t) s W'
  | .panic _, _, _ => False
  | .outgrown, _, _ => False
def StpF (B : Nat) (W W' : World) : Prop := W.heap.size ≤ W'.heap.size ∧ ∀ i, B ≤ i → i < W.heap.size → W'.heap[i]? = W.heap[i]?
def SeqSt {σ : Type} (F : Fence) (n : Nat) (P : Program) (gf : Nat) (lb : Array Value) (B : Nat) (I : σ → World → Prop) (M : σ → Array Value → World → Prop) (S : σ → Prop) (s0 : σ) : Prop :=
  ∀ (l : Nat) (J : σ → World → Prop) (K : σ → Array Value → World → Prop) (Z : σ → World → Prop) (W : World),
    (∀ s V, J s V → I s V) → (∀ s V s' args V', J s V → M s' args V' → StpF B V V' → K s' args V') → (∀ s V V', J s V → I s V' → StpF B V V' → J s V') →
    (∀ s args V, K s args V → YieldAt F (n - 1) P l args V fun e V' => (e = .returned (.bool true) ∧ J s V') ∨ (e = .returned (.bool false) ∧ Z s V')) →
    J s0 W → CallsIn F n P gf (#[.func (.yield l) #[] #[]] ++ lb) W fun e W' => (∃ v, e = .returned v) ∧ ((∃ s, S s ∧ J s W') ∨ (∃ s, Z s W'))
theorem wpIn_rangeFunc_st {σ : Type} {g : Operand} {ps : Array Tmp} {assign body : Code} {Q : Exit → Act → World → Prop} {a : Act} {w : World}
    (hro : F.round = none) (h1 : 1 ≤ n) {gf : Nat} {lb : Array Value} (hg : a.eval g = .func (.func gf) #[] lb) (hFg : F.fn gf) (eg : ∀ args w, (callFunc gf args).run P w = .ok (.enter gf args) w)
    (I : σ → World → Prop) (M : σ → Array Value → World → Prop) (X : Code → σ → World → Prop) (S : σ → Prop) (s0 : σ)
    (hseq : SeqSt F (n - 1) P gf lb w.heap.size I M S s0)
    (hI : OwnFrom w.heap.size I) (hX : ∀ c, OwnFrom w.heap.size (X c)) (h0 : I s0 w)
    (hround : ∀ (l : Nat) (s : σ) (args : Array Value) (W : World), w.heap.size ≤ l → l < W.heap.size → (∃ r, W.heap[l]? = some (.loop r)) → M s args W → args.size = ps.size ∧
      assign.wpIn (F.inRound l) (n - 1 - 1) P (Exit.then (fun a₁ W₁ => KeepsOthers W W₁ ∧ ∀ r, body.wpIn (F.inRound l) (n - 1 - 1) P (stPost I X s (W₁.putObj l (.loop r))) a₁ (W₁.putObj l (.loop r))) (fun _ _ _ => False))
        { tmps := (ps.zip args).foldl (fun t (p, v) => t.setIfInBounds p v) a.tmps, defers := [] } W)
    (hdone : ∀ (D : Nat) (s : σ) (W : World), w.heap.size ≤ D → S s → I s W → W.heap[D]? = some (.deferred (some [])) → Q .normal { a with defers := { target := .collected D, args := #[] } :: a.defers } W)
    (hstop : ∀ (D : Nat) (c : Code) (s : σ) (W : World), w.heap.size ≤ D → X c s W → W.heap[D]? = some (.deferred (some [])) → c.wpIn F n P Q { a with defers := { target := .collected D, args := #[] } :: a.defers } W) :
    (Code.rangeFunc g ps assign body).wpIn F n P Q a w := by
  refine wpIn_rangeFunc ?_
  intro fn hfn
  rw [hro]
  obtain ⟨rec, hrec⟩ : ∃ rec : LoopState → Option Code → Loop, rec = fun st pe => { state := st, pending := pe, fn, tmps := a.tmps, params := ps, assign, body, defers := w.heap.size } := ⟨_, rfl⟩
  obtain ⟨W1, hW1⟩ : ∃ W1, (w.alloc (.deferred (some []))).alloc (.loop (rec .ready none)) = W1 := ⟨_, rfl⟩
  have hL1 : W1.heap[w.heap.size + 1]? = some (.loop (rec .ready none)) := by
    rw [← hW1]; have := World.alloc_heap_new (w.alloc (.deferred (some []))) (.loop (rec .ready none)); rwa [World.size_alloc] at this
  have hK1 : W1.heap[w.heap.size]? = some (.deferred (some [])) := by
    rw [← hW1]; exact (Below.heap_alloc _ _ _ (by simp)).trans (World.alloc_heap_new w _)
  have hI1 : I s0 W1 := by rw [← hW1]; exact hI.alloc _ (hI.alloc _ h0)
  refine ⟨w.heap.size + 1, [{ target := .collected w.heap.size, args := #[] }], W1, { target := .fn (.func gf) lb, args := #[.func (.yield (w.heap.size + 1)) #[] #[]] }, W1, gf,
    #[.func (.yield (w.heap.size + 1)) #[] #[]] ++ lb, W1, ?_, ?_, ?_, ?_, fun _ => h1, ?_⟩
  · rw [← hW1, hrec]; exact run_enterLoop_outer _ _ _ _ _
  · simp only [resolve, hg]
    simp [go_sem]
  · intro f' hf'; simp [Target.leads] at hf'; subst hf'; exact hFg
  · simp [invoke, go_sem, eg]
  · have stp : ∀ {V V' : World} {st : LoopState} {p : Option Code}, StpF w.heap.size V V' → V.heap[w.heap.size + 1]? = some (.loop (rec st p)) → V.heap[w.heap.size]? = some (.deferred (some [])) →
        V'.heap[w.heap.size + 1]? = some (.loop (rec st p)) ∧ V'.heap[w.heap.size]? = some (.deferred (some [])) := fun h h2 h3 =>
      ⟨(h.2 _ (by omega) (Array.getElem?_eq_some_iff.1 h2).1).trans h2, (h.2 _ (Nat.le_refl _) (Array.getElem?_eq_some_iff.1 h3).1).trans h3⟩
    refine (hseq (w.heap.size + 1)
      (fun s W => I s W ∧ W.heap[w.heap.size + 1]? = some (.loop (rec .ready none)) ∧ W.heap[w.heap.size]? = some (.deferred (some [])))
      (fun s args W => M s args W ∧ W.heap[w.heap.size + 1]? = some (.loop (rec .ready none)) ∧ W.heap[w.heap.size]? = some (.deferred (some [])))
      (fun s W => ∃ c, X c s W ∧ W.heap[w.heap.size + 1]? = some (.loop (rec .done (some c))) ∧ W.heap[w.heap.size]? = some (.deferred (some [])))
      W1 (fun s V h => h.1) (fun s V s' args V' h hm ht => ⟨hm, stp ht h.2.1 h.2.2⟩) (fun s V V' h hi ht => ⟨hi, stp ht h.2.1 h.2.2⟩) ?_ ⟨hI1, hL1, hK1⟩).mono ?_
    · rintro s args W ⟨hm, hl, hk⟩
      have hlt : w.heap.size + 1 < W.heap.size := (Array.getElem?_eq_some_iff.1 hl).1
      obtain ⟨hsz, hwp⟩ := hround (w.heap.size + 1) s args W (by omega) hlt ⟨_, hl⟩ hm
      have hy := run_yield (P := P) (args := args) hl (by rw [hrec]; exact hsz)
      rw [hrec] at hy
      refine ⟨fn, _, assign, body, hy, roundIn_of_wpIn hfn (wpIn_mono hwp ?_)⟩
      rintro e a1 Wa hp
      cases e with
      | normal =>
        obtain ⟨hka, hb⟩ := hp
        have hla := hka.same _ _ hl rfl
        refine ⟨_, run_beginRound hla (by rw [hrec]), ?_⟩
        have hlta : w.heap.size + 1 < Wa.heap.size := (Array.getElem?_eq_some_iff.1 hla).1
        have hl2 : (Wa.putObj (w.heap.size + 1) (.loop { rec .ready none with state := .busy })).heap[w.heap.size + 1]? = some (.loop { rec .ready none with state := .busy }) := World.putObj_heap_same hlta
        have hk2 : (Wa.putObj (w.heap.size + 1) (.loop { rec .ready none with state := .busy })).heap[w.heap.size]? = some (.deferred (some [])) := (World.putObj_heap_other (by omega)).trans (hka.same _ _ hk rfl)
        have fin : ∀ (jump : Option Code) (W3 : World), KeepsOthers (Wa.putObj (w.heap.size + 1) (.loop { rec .ready none with state := .busy })) W3 →
            (Instr.endRound (w.heap.size + 1) jump).run P W3 = .ok (.bool jump.isNone) (W3.putObj (w.heap.size + 1) (.loop (rec (if jump.isNone then .ready else .done) jump))) ∧
            W3.heap[w.heap.size + 1]? = some (.loop { rec .ready none with state := .busy }) ∧
            (W3.putObj (w.heap.size + 1) (.loop (rec (if jump.isNone then .ready else .done) jump))).heap[w.heap.size + 1]? = some (.loop (rec (if jump.isNone then .ready else .done) jump)) ∧
            (W3.putObj (w.heap.size + 1) (.loop (rec (if jump.isNone then .ready else .done) jump))).heap[w.heap.size]? = some (.deferred (some [])) := fun jump W3 hk3 => by
          have hl3 := hk3.same _ _ hl2 rfl
          have := run_endRound (P := P) jump hl3
          rw [hrec] at this ⊢
          exact ⟨this, by rw [hrec] at hl3; exact hl3, World.putObj_heap_same (Array.getElem?_eq_some_iff.1 hl3).1, (World.putObj_heap_other (by omega)).trans (hk3.same _ _ hk2 rfl)⟩
        refine wpIn_mono (hb _) ?_
        rintro e a3 W3 hp
        cases e with
        | normal =>
          obtain ⟨hk3, hi3⟩ := hp
          obtain ⟨hr, hl3, hl4, hk4⟩ := fin none W3 hk3
          exact ⟨_, _, hr, .inl ⟨rfl, hI.putObj _ hi3 (by omega) hl3 rfl, hl4, hk4⟩⟩
        | ret =>
          obtain ⟨hk3, hi3⟩ := hp
          obtain ⟨hr, hl3, hl4, hk4⟩ := fin (some .ret) W3 hk3
          exact ⟨_, _, hr, .inr ⟨rfl, .ret, (hX _).putObj _ hi3 (by omega) hl3 rfl, hl4, hk4⟩⟩
        | exit id =>
          obtain ⟨hk3, hi3⟩ := hp
          obtain ⟨hr, hl3, hl4, hk4⟩ := fin (some (.exit id)) W3 hk3
          exact ⟨_, _, hr, .inr ⟨rfl, .exit id, (hX _).putObj _ hi3 (by omega) hl3 rfl, hl4, hk4⟩⟩
        | goto t =>
          obtain ⟨hk3, hi3⟩ := hp
          obtain ⟨hr, hl3, hl4, hk4⟩ := fin (some (.goto t)) W3 hk3
          exact ⟨_, _, hr, .inr ⟨rfl, .goto t, (hX _).putObj _ hi3 (by omega) hl3 rfl, hl4, hk4⟩⟩
        | panic ch => exact hp.elim
        | outgrown => exact hp.elim
      | exit id => exact hp.elim
      | goto t => exact hp.elim
      | ret => exact hp.elim
      | panic ch => exact hp.elim
      | outgrown => exact hp.elim
    · rintro e W2 ⟨⟨v, rfl⟩, (⟨s, hS, hi, hl, hk⟩ | ⟨s, c, hi, hl, hk⟩)⟩
      · exact ⟨none, _, by have := run_endLoop (P := P) hl (by rw [hrec]; simp); rw [hrec] at this; exact this, hdone _ s _ (Nat.le_refl _) hS (hI.putObj _ hi (by omega) hl rfl) ((World.putObj_heap_other (by omega)).trans hk)⟩
      · exact ⟨some c, _, by have := run_endLoop (P := P) hl (by rw [hrec]; simp); rw [hrec] at this; exact this, hstop _ c s _ (Nat.le_refl _) ((hX c).putObj _ hi (by omega) hl rfl) ((World.putObj_heap_other (by omega)).trans hk)⟩
end
end Go.Proofs.YtdboaoejlkkoeaaGreat
