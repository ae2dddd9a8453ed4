/-
  The program's queue in memory, and walks of its small methods.
  Walks of the program's queue: who joins.
  Walks of the program's queue: made of a list, and looked at.
  Walks of the program's queue: who stands.
  Walks of the program's lists: a copy.
  Walks of the program's lists: a copy, and who is woken.
  Walks of the program's lines: LineOk, PlaceOf, Join, Leave, Wake.
  Walks of Wake, the specification's and the program's.
  The program's waiters: are a line and those that were told right?
  Two lists of numbers, each a row of its own, apart from one another: what appends and stores leave of them.
  The program's lists once more: a copy, Leave and Wake, each list that is handed back a row of its own.
  The program's waiters behind a pointer: whose turn it is, who waits, who is taken out, who is let go.
  The program's waiters behind a pointer: who goes on, who quits, who is let go.
  Walks of the laws' own helpers on terms: marks.
  Walks of the laws' own helpers on messages: marked.
  The laws' own marks of numbers, with wide bounds.
  Which blocks a marking turns; what keeps, all the same.
-/
import Derived.Test.YtffpecdjfcgadaaGreatDoorZTm17
import Derived.Deep.RegionHeld3
import Derived.Test.YtffpecdjfcgadaaGreatDoorZTm10
import Derived.Deep.Upon
import Derived.RegionTactic
import Derived.ChangeAlike
import Derived.Test.YtffpecdjfcgadaaGreatDoorZTm8
import Derived.Laws.BytesArg
import Derived.Test.YtffpecdjfcgadaaGreatDoorZTm3
import Derived.Test.YtffpecdjfcgadaaGreatDoorZTm11
namespace Go.Proofs.YtffpecdjfcgadaaGreatDoor
open Go.RowKit Go.Maps Pl Il

theorem law3 : Keyed Tryz.prog 3 := int_keyed Tryz.underlying3
theorem zero3 (w : World) : (zeroValue 3).run Tryz.prog w = .ok (.int .i64 0) w := by kernel_rfl

/-- The parts of a queue in memory: its own block qb, the row of those who came (cv), the map of places (block mb, at most n entries, reading as D). -/
structure QMem (B : Nat) (w : World) (qb mb : Nat) (cv : Value) (D : DataW Unit) (n : Nat) (xs : List Int) : Prop where
  blk : w.heap[qb]? = some (.cells #[cv, .map (some mb)] 132 (0, 0))
  row : w.ownsRow B 3 1 cv xs.length (xs.map (Value.int .i64))
  map : w.ownsMap Tryz.prog 3 (plainElem Tryz.prog 3) mb n D
  ge : B ≤ qb
  ge' : B ≤ mb
structure QParts (B : Nat) (w : World) (qb mb : Nat) (cv : Value) (D : DataW Unit) (xs gone : List Int) : Prop where
  mem : QMem B w qb mb cv D xs.length xs
  rd : Reads D xs gone
/-- A queue at block qb: xs came, gone have left. -/
def QAt (B : Nat) (w : World) (qb : Nat) (xs gone : List Int) : Prop := ∃ mb cv D, QParts B w qb mb cv D xs gone

section
variable {B : Nat} {w : World} {qb mb n : Nat} {cv : Value} {D : DataW Unit} {xs gone : List Int}
theorem QMem.lt (h : QMem B w qb mb cv D n xs) : qb < w.heap.size := by
  rcases Nat.lt_or_ge qb w.heap.size with k | k
  · exact k
  · have := h.blk
    rw [Array.getElem?_eq_none k] at this; cases this
theorem QMem.size (h : QMem B w qb mb cv D n xs) : B ≤ w.heap.size := Nat.le_trans h.ge (Nat.le_of_lt h.lt)
theorem QMem.c0 (h : QMem B w qb mb cv D n xs) : w.cell? ⟨qb, 0, none⟩ = some cv := by simp [World.cell?, h.blk]
theorem QMem.c1 (h : QMem B w qb mb cv D n xs) : w.cell? ⟨qb, 1, none⟩ = some (.map (some mb)) := by simp [World.cell?, h.blk]
theorem QMem.f0 (h : QMem B w qb mb cv D n xs) : w.frozen? ⟨qb, 0, none⟩ = false := by simp [World.frozen?, h.blk]
theorem QMem.ne (h : QMem B w qb mb cv D n xs) : mb ≠ qb := by
  obtain ⟨es, clock, hb, _⟩ := h.map
  rintro rfl
  rw [h.blk] at hb; cases hb
theorem QMem.rowQ (h : QMem B w qb mb cv D n xs) : cv.ownBlock ≠ some qb := by
  intro e
  obtain ⟨_, ⟨rfl, _⟩ | ⟨g, cap, cur, rfl, _, hg, _⟩⟩ := h.row
  · cases e
  · simp [Value.ownBlock] at e
    subst e
    rw [h.blk] at hg
    simp at hg
theorem QMem.rowM (h : QMem B w qb mb cv D n xs) : cv.ownBlock ≠ some mb := by
  intro e
  obtain ⟨es, clock, hb, _⟩ := h.map
  obtain ⟨_, ⟨rfl, _⟩ | ⟨g, cap, cur, rfl, _, hg, _⟩⟩ := h.row
  · cases e
  · simp [Value.ownBlock] at e
    subst e
    rw [hb] at hg
    cases hg
theorem QMem.form (h : QMem B w qb mb cv D n xs) : ∃ a c, cv = .slice a xs.length c ∧ IntsAt w a xs.length xs := by
  obtain ⟨a, c, e, ho⟩ := own_of h.row xs rfl
  exact ⟨a, c, e, ho.ints⟩
theorem QMem.keep {w' : World} (h : QMem B w qb mb cv D n xs) (hb : Below w.heap.size w w') : QMem B w' qb mb cv D n xs := by
  have hg : w.grownBy w' none := ⟨hb.os, hb.tape, hb.output, hb.size, fun k hk _ => hb.block k hk⟩
  exact ⟨by rw [hb.block qb h.lt]; exact h.blk, h.row.kept hg (by cases cv.ownBlock <;> simp), h.map.kept hg (by simp), h.ge, h.ge'⟩
theorem QAt.keep {w' : World} (h : QAt B w qb xs gone) (hb : Below w.heap.size w w') : QAt B w' qb xs gone := by
  obtain ⟨mb, cv, D, h⟩ := h
  exact ⟨mb, cv, D, h.mem.keep hb, h.rd⟩
theorem QMem.mapped {w' : World} {D' : DataW Unit} {n' : Nat} (h : QMem B w qb mb cv D n xs) (hm : w'.ownsMap Tryz.prog 3 (plainElem Tryz.prog 3) mb n' D') (hg : w.grownBy w' (some mb)) : QMem B w' qb mb cv D' n' xs :=
  ⟨by rw [hg.block qb h.lt (by intro e; cases e; exact h.ne rfl)]; exact h.blk, h.row.kept hg (.inr h.rowM), hm, h.ge, h.ge'⟩
theorem QParts.has (h : QParts B w qb mb cv D xs gone) (x : Int) : Maps.has D (.int .i64 x) = (placeG xs gone x).isSome := h.rd.has x
theorem QParts.at (h : QParts B w qb mb cv D xs gone) {x c : Int} (hat : D.atKey (.int .i64 x) (.lit (.int .i64 0)) = .lit (.int .i64 c)) : c = ((placeG xs gone x).getD 0 : Nat) := by
  cases hp : placeG xs gone x with
  | none =>
    have := h.rd.has x
    rw [hp] at this
    rw [atKey_of_not_has this] at hat
    injection hat with hat
    injection hat with _ hat
    simp [← hat]
  | some i =>
    rw [h.rd.val x i hp] at hat
    injection hat with hat
    injection hat with _ hat
    simp [← hat]
end

theorem placeOf_any (B qb : Nat) (xs gone : List Int) (x : Int) (w : World) (hQ : QAt B w qb xs gone) (hx : (Lit.int .i64 x).wf = true) :
    Calls Tryz.prog 62 #[.pointer (some ⟨qb, 0, none⟩), .int .i64 x] w fun e w' => e = .returned (.tuple #[.int .i64 ((placeG xs gone x).getD 0 : Nat), .bool (placeG xs gone x).isSome]) ∧ w' = w := by
  obtain ⟨mb, cv, D, hq⟩ := hQ
  have hkey := keyOf_int_mk Tryz.underlying3 hx
  have c1 := hq.mem.c1
  have hown := hq.mem.map
  have hh := hq.has x
  have hv := fun c => hq.at (x := x) (c := c)
  have HV := hidOf hv
  have HH := hidOf hh
  clear hq hv hh
  go_enter Tryz.func62, Tryz.ntmps62
  go_wp2_with (first
    | (at_lookup; refine wpList_lookup_own_ok_int _ rfl _ _ 130 rfl 3 3 .i64 law3 Tryz.underlying130 Tryz.underlying3 (zero3 _) mb _ D rfl hown _ _ rfl hkey ?_; intro c hat hwc)
    | go_in)
  go_ret2
  rw [HV.out c hat, HH.out]
  exact ⟨rfl, rfl⟩
end Go.Proofs.YtffpecdjfcgadaaGreatDoor
namespace Go.Proofs.YtffpecdjfcgadaaGreatDoor
open Go.RowKit Go.Maps Pl Il

theorem QMem.appended {B : Nat} {w w' : World} {qb mb g c n : Nat} {cv : Value} {D : DataW Unit} {xs : List Int} {x : Int} (h : QMem B w qb mb cv D n xs) (hr : w'.ownsRow B 3 1 (.slice (some ⟨g, 0, none⟩) (xs.length + 1) c) (xs.length + 1) ((xs ++ [x]).map (Value.int .i64)))
    (hg : w.grownBy w' cv.ownBlock) (hl : cv.ownBlock = some g ∨ w.heap.size ≤ g) :
    QMem B (w'.setCell ⟨qb, 0, none⟩ (.slice (some ⟨g, 0, none⟩) (xs.length + 1) c)) qb mb (.slice (some ⟨g, 0, none⟩) (xs.length + 1) c) D n (xs ++ [x]) := by
  have hq : w'.heap[qb]? = some (.cells #[cv, .map (some mb)] 132 (0, 0)) := by
    rw [hg.block qb h.lt (fun e => h.rowQ e.symm)]; exact h.blk
  have hgq : g ≠ qb := by
    rcases hl with hl | hl
    · intro e; subst e; exact h.rowQ hl
    · have := h.lt; omega
  have hm := (h.map.kept hg (fun e => h.rowM e.symm)).setCell (a := ⟨qb, 0, none⟩) h.ne (.slice (some ⟨g, 0, none⟩) (xs.length + 1) c)
  have hs : w'.grownBy (w'.setCell ⟨qb, 0, none⟩ (.slice (some ⟨g, 0, none⟩) (xs.length + 1) c)) (some qb) := ⟨rfl, rfl, rfl, by simp, fun k _ hk => Below.heap_setCell _ _ _ _ (by rintro rfl; exact hk rfl)⟩
  refine ⟨?_, ?_, hm, h.ge, h.ge'⟩
  · have hlt : qb < w'.heap.size := by
      rcases Nat.lt_or_ge qb w'.heap.size with k | k
      · exact k
      · rw [Array.getElem?_eq_none k] at hq; cases hq
    have hq' : w'.heap[qb] = .cells #[cv, .map (some mb)] 132 (0, 0) := by
      rw [Array.getElem?_eq_getElem hlt] at hq
      exact Option.some.inj hq
    simp [World.setCell, Array.getElem_modify, hlt, hq']
  · have := hr.kept hs (.inr (by simp [Value.ownBlock]; exact hgq))
    simpa using this

theorem QMem.mono {B : Nat} {w : World} {qb mb n n' : Nat} {cv : Value} {D : DataW Unit} {xs : List Int} (h : QMem B w qb mb cv D n xs) (hn : n ≤ n') : QMem B w qb mb cv D n' xs := ⟨h.blk, h.row, h.map.mono hn, h.ge, h.ge'⟩
/-- What is needed of the world at the walk's last store. -/
theorem QMem.ready {B : Nat} {w : World} {qb mb n : Nat} {cv : Value} {D : DataW Unit} {xs : List Int} (x : Int) (h : QMem B w qb mb cv D n xs) (hn : xs.length ≤ 2097152) : ∃ (g c : Nat) (w' : World),
    (Builtin.append_ #[41, 41] 41 #[cv, .slice (some ⟨w.heap.size, 0, none⟩) 1 1]).run Tryz.prog (w.alloc (.cells #[.int .i64 x] 3)) = .ok (.slice (some ⟨g, 0, none⟩) (xs.length + 1) c) w' ∧
    QMem B (w'.setCell ⟨qb, 0, none⟩ (.slice (some ⟨g, 0, none⟩) (xs.length + 1) c)) qb mb (.slice (some ⟨g, 0, none⟩) (xs.length + 1) c) D n (xs ++ [x]) ∧
    Below B w (w'.setCell ⟨qb, 0, none⟩ (.slice (some ⟨g, 0, none⟩) (xs.length + 1) c)) ∧ w'.cell? ⟨qb, 0, none⟩ = some cv ∧ w'.frozen? ⟨qb, 0, none⟩ = false := by
  obtain ⟨g, c, w', hr, ho, hg, hl⟩ := append_own1 B xs.length cv xs x w h.row h.size (by omega)
  refine ⟨g, c, w', hr, h.appended ho hg hl, ((Below.refl _ _).grown hg h.size (fun k hk => (h.row.lt k hk).1)).setCell (p := ⟨qb, 0, none⟩) h.ge _, ?_, ?_⟩
  · rw [← h.c0]; exact World.cell?_of_block (hg.block qb h.lt (fun e => h.rowQ e.symm))
  · rw [← h.f0]; exact World.frozen?_of_block (hg.block qb h.lt (fun e => h.rowQ e.symm))

theorem join_any (B qb : Nat) (xs : List Int) (x : Int) (w : World) (hQ : QAt B w qb xs []) (hx : (Lit.int .i64 x).wf = true) (hn : xs.length ≤ 2097152) :
    Calls Tryz.prog 82 #[.pointer (some ⟨qb, 0, none⟩), .int .i64 x] w fun e w' => e = .returned (.tuple #[]) ∧ QAt B w' qb (xs ++ [x]) [] ∧ Below B w w' := by
  obtain ⟨mb, cv, D, hq⟩ := hQ
  have hkey := keyOf_int_mk Tryz.underlying3 hx
  have c0 := hq.mem.c0
  have c1 := hq.mem.c1
  have hown := hq.mem.map
  have hh := hq.has x
  rw [place_isSome] at hh
  cases hhas : hasL xs x
  · rw [hhas] at hh
    obtain ⟨a, ca, rfl, _⟩ := hq.mem.form
    have hwl : (Lit.int .i64 (xs.length : Int)).wf = true := WalkArith.wf_i64 (by omega)
    obtain ⟨w1, hrun, hown1, hturn1⟩ := World.ownsMap.store (t := 130) (e := 3) hown.drew law3 Tryz.underlying130 (by unfold maxLen; omega) hkey (plainElem_int Tryz.underlying3 hwl)
    have hM1 := (hq.mem.keep (Below.refl _ w).drew).mapped hown1 hturn1.grown
    have hb1 : Below B w w1 := (Below.refl _ w).drew.grown hturn1.grown hq.mem.size (fun k hk => by cases hk; exact hq.mem.ge')
    have hrd := hq.rd.join_new (hown.tidy law3) hhas
    obtain ⟨g, c, w', hr, hP, hb, c0', f0'⟩ := hM1.ready x hn
    have d0 := hM1.c0
    have d1 := hM1.c1
    have Hr := hidOf hr
    have HP := hidOf hP
    have hb2 := hb1.trans hb
    clear hr hP hq hown1 hturn1 hM1 hb1 hb
    go_enter Tryz.func82, Tryz.ntmps82
    go_wp2_with (first
      | (at_lookup; refine wpList_lookup_own_ok_int _ rfl _ _ 130 rfl 3 3 .i64 law3 Tryz.underlying130 Tryz.underlying3 (zero3 _) mb _ D rfl hown _ _ rfl hkey ?_; intro c0 hat hwc)
      | go_in)
    go_region_with (fail)
    all_goals go_wp2_with (first
      | (at_builtin; refine wpList_append_run rfl _ _ 41 rfl _ _ _ rfl rfl Hr.out ?_)
      | go_in)
    all_goals go_end0
    all_goals exact ⟨rfl, ⟨mb, _, _, HP.out.mono (by simp), hrd⟩, hb2⟩
  · rw [hhas] at hh
    obtain ⟨g, c, w', hr, hP, hb, c0', f0'⟩ := hq.mem.ready x hn
    have hrd := hq.rd.join_old hhas
    obtain ⟨a, ca, rfl, _⟩ := hq.mem.form
    have Hr := hidOf hr
    have HP := hidOf hP
    clear hr hP hq
    go_enter Tryz.func82, Tryz.ntmps82
    go_wp2_with (first
      | (at_lookup; refine wpList_lookup_own_ok_int _ rfl _ _ 130 rfl 3 3 .i64 law3 Tryz.underlying130 Tryz.underlying3 (zero3 _) mb _ D rfl hown _ _ rfl hkey ?_; intro c0 hat hwc)
      | (at_builtin; refine wpList_append_run rfl _ _ 41 rfl _ _ _ rfl rfl Hr.out ?_)
      | go_in)
    go_end0
    exact ⟨rfl, ⟨mb, _, _, HP.out.mono (by simp), hrd⟩, hb⟩
end Go.Proofs.YtffpecdjfcgadaaGreatDoor
namespace Go.Proofs.YtffpecdjfcgadaaGreatDoor
open Go.RowKit Go.Maps Pl Il

theorem QAt.new (w : World) : QAt w.heap.size ((w.alloc (.map #[] 0)).alloc (.cells #[.slice none 0 0, .map (some w.heap.size)] 132 (0, 0))) (w.heap.size + 1) [] [] := by
  refine ⟨w.heap.size, .slice none 0 0, .map [], ⟨?_, ⟨rfl, .inl ⟨rfl, rfl⟩⟩, ?_, by omega, Nat.le_refl _⟩, Reads.empty⟩
  · have := heap_alloc_new (w.alloc (.map #[] 0)) (.cells #[.slice none 0 0, .map (some w.heap.size)] 132 (0, 0))
    simpa using this
  · exact (World.ownsMap_made w _ _ _).alloc _

theorem queueOf_any (a : Option Addr) (n cap : Nat) (xs : List Int) (w : World) (hI : IntsAt w a n xs) (hn : n ≤ 2097152) (hw : wfL xs) :
    Calls Tryz.prog 61 #[.slice a n cap] w fun e w' => ∃ qb, e = .returned (.pointer (some ⟨qb, 0, none⟩)) ∧ QAt w.heap.size w' qb xs [] ∧ Below w.heap.size w w' := by
  have hmm := @run_makeMap Tryz.prog
  have hS := QAt.new w
  have hbS : Below w.heap.size w ((w.alloc (.map #[] 0)).alloc (.cells #[.slice none 0 0, .map (some w.heap.size)] 132 (0, 0))) := bl_alloc (bl_alloc (Below.refl _ _) _) _
  obtain ⟨hlen, rfl | ⟨b, off, rfl, hb, hcell⟩⟩ := hI
  · have hx : xs = [] := List.length_eq_zero_iff.1 hlen
    subst hx
    go_enter Tryz.func61, Tryz.ntmps61
    go_wp2
    go_loopw [11] (fun i wr => i = .int .i64 0 ∧ QAt w.heap.size wr (w.heap.size + 1) [] [] ∧ Below w.heap.size w wr) (fun _ _ => 0)
    case atStart => exact ⟨rfl, hS, hbS⟩
    case round =>
      obtain ⟨rfl, hq, hbr⟩ := hrel
      go_wp2
      go_ret
      exact ⟨_, rfl, hq, hbr⟩
  · go_enter Tryz.func61, Tryz.ntmps61
    go_wp2
    go_loopw [11] (fun i wr => ∃ k : Nat, k ≤ n ∧ i = .int .i64 k ∧ QAt w.heap.size wr (w.heap.size + 1) (xs.take k) [] ∧ Below w.heap.size w wr) (fun i _ => n - (intOf i).toNat)
    case atStart => exact ⟨0, Nat.zero_le _, rfl, hS, hbS⟩
    case round =>
      rename_i wr
      obtain ⟨k, hk, rfl, hq, hbr⟩ := hrel
      clear hS hbS hmm
      by_cases hlt : k < n
      · have hc : wr.cell? ⟨b, off + k, none⟩ = some (.int .i64 (xs.getD k 0)) := by rw [hbr.cell (p := ⟨b, off + k, none⟩) hb]; exact hcell k hlt
        have hwk := wf_at hw (k := k) (by omega)
        have hcall := join_any w.heap.size (w.heap.size + 1) (xs.take k) (xs.getD k 0) wr hq hwk (by rw [List.length_take]; omega)
        have hst : xs.take k ++ [xs.getD k 0] = xs.take (k + 1) := by
          rw [List.take_succ_eq_append_getElem (by omega)]
          simp [List.getD, List.getElem?_eq_getElem (show k < xs.length by omega)]
        rw [hst] at hcall
        generalize xs.getD k 0 = y at hc hcall
        have HC := hidOf hcall
        clear hcell hcall hq hst
        go_wp2_with fail
        refine (HC.out).mono ?_
        rintro e w1 ⟨rfl, hq1, hb1⟩
        go_wp2
        go_roundw
        case rel => exact ⟨k + 1, by omega, by go_num, hq1, hbr.trans hb1⟩
        case measure => simp [intOf]; omega
      · obtain rfl : k = n := by omega
        clear hcell
        rw [List.take_of_length_le (by omega)] at hq
        go_wp2
        go_ret
        exact ⟨_, rfl, hq, hbr⟩

theorem line_noclient {xs : List Int} {k : Nat} {y : Int} (hk : k < xs.length) (hy : xs.getD k 0 = y) (h : clientL y = false) : lineL xs = false := line_bad hk hy (.inl h)

end Go.Proofs.YtffpecdjfcgadaaGreatDoor
namespace Go.Proofs.YtffpecdjfcgadaaGreatDoor
open Go.RowKit Go.Maps Pl Il

theorem QParts.look {B : Nat} {w : World} {qb mb : Nat} {cv : Value} {D : DataW Unit} {xs gone : List Int} (h : QParts B w qb mb cv D xs gone) {x : Int} (hx : (Lit.int .i64 x).wf = true) {p : Option Nat} (hp : placeG xs gone x = p) :
    (Instr.lookup 130 (.map (some mb)) (.int .i64 x) true).run Tryz.prog w = .ok (.tuple #[.int .i64 (p.getD 0 : Nat), .bool p.isSome]) w := by
  obtain ⟨v, ps, hrun, hv⟩ := h.mem.map.look_ok (t := 130) (e := 3) law3 Tryz.underlying130 (zero3 _) (plainElem_int Tryz.underlying3 (by decide)) (keyOf_int_mk Tryz.underlying3 hx)
  obtain ⟨c, rfl, hc, _⟩ := plainElem_int_inv Tryz.underlying3 hv
  rw [hrun, h.has x, h.at (congrArg Prod.fst hc), hp]

theorem append_more (B m : Nat) (v : Value) (ys : List Int) (x : Int) (w w0 : World) (hB : B = w0.heap.size) (ho : w.ownsRow B 3 1 v m (ys.map (Value.int .i64))) (hb : Below B w0 w) (hs : m + 1 ≤ 4194304) :
    ∃ (g' c' : Nat) (w' : World), (Builtin.append_ #[41, 41] 41 #[v, .slice (some ⟨w.heap.size, 0, none⟩) 1 1]).run Tryz.prog (w.alloc (.cells #[.int .i64 x] 3)) = .ok (.slice (some ⟨g', 0, none⟩) (m + 1) c') w' ∧
      w'.ownsRow B 3 1 (.slice (some ⟨g', 0, none⟩) (m + 1) c') (m + 1) ((ys ++ [x]).map (Value.int .i64)) ∧ Below B w0 w' := by
  subst hB
  obtain ⟨g, c, w', hr, ho', hg, _⟩ := append_own1 _ m v ys x w ho hb.size hs
  exact ⟨g, c, w', hr, ho', hb.grown hg hb.size (fun k hk => (ho.lt k hk).1)⟩

end Go.Proofs.YtffpecdjfcgadaaGreatDoor
namespace Go.Proofs.YtffpecdjfcgadaaGreatDoor
open Go.RowKit Pl Il

theorem copied_run (a : Option Addr) (n cap : Nat) (xs : List Int) (w : World) (hI : IntsAt w a n xs) (hn : n ≤ 2097152) : ∃ (v : Value) (w' : World),
    (Builtin.append_ #[41, 41] 41 #[.slice none 0 0, .slice a n cap]).run Tryz.prog w = .ok v w' ∧ w'.ownsRow w.heap.size 3 1 v n (xs.map (Value.int .i64)) ∧ Below w.heap.size w w' := by
  obtain ⟨i, hi, hz0, hz1, hz2⟩ := info_parts info3
  have hnil : w.ownsRow w.heap.size 3 1 (.slice none 0 0) 0 [] := ⟨rfl, .inl ⟨rfl, rfl⟩⟩
  obtain ⟨hlen, h0⟩ := hI
  rcases Nat.eq_zero_or_pos n with rfl | hpos
  · have hx : xs = [] := List.length_eq_zero_iff.1 hlen
    subst hx
    refine ⟨_, _, run_append_nothing w 41 41 41 3 i Tryz.underlying41 hi none 0 0 (Nat.le_refl _) _ ?_, hnil, Below.refl _ _⟩
    rcases a with _ | ad
    · exact Src.ofNil _ Tryz.underlying41 cap
    · exact Src.ofSlice _ Tryz.underlying41 ad 0 cap [] (by simp) (fun j u h => by simp at h) (fun u h => by cases h)
  · rcases h0 with h0 | ⟨b, off, rfl, hb, hcell⟩
    · omega
    · obtain ⟨g', c', w', hr, hown, hgrow, _, _⟩ := run_append_lies (P := Tryz.prog) w 41 41 w.heap.size 3 i (.int .i64 0) 1 8 Tryz.underlying41 hi hz0 hz1 hz2 rfl (by omega) _ 0 _ hnil ⟨b, off, none⟩ n cap (xs.map (Value.int .i64)) (by simp [hlen])
        (fun j u h => by
          rw [Addr.add_lit]
          have hj : j < n := by
            have := (List.getElem?_eq_some_iff.1 h).1
            simpa [hlen] using this
          rw [hcell j hj]
          simp only [List.getElem?_map] at h
          rw [List.getElem?_eq_getElem (by omega)] at h
          simp only [Option.map_some, Option.some.injEq] at h
          rw [← h]
          simp [List.getD, List.getElem?_eq_getElem (show j < xs.length by omega)])
        (fun u hu => by obtain ⟨_, _, rfl⟩ := List.mem_map.1 hu; rfl) hpos (by unfold maxLen; omega) (by omega) (Nat.le_refl _) _ rfl
      rw [Nat.zero_add] at hr hown
      rw [List.nil_append] at hown
      exact ⟨_, w', hr, hown, (Below.refl _ _).grown hgrow (Nat.le_refl _) (fun k hk => by cases hk)⟩

theorem copied_any2 (a : Option Addr) (n cap : Nat) (xs : List Int) (w : World) (hI : IntsAt w a n xs) (hn : n ≤ 2097152) :
    Calls Tryz.prog 37 #[.slice a n cap] w fun e w' => ∃ a' c', e = .returned (.slice a' n c') ∧ Il.OwnAt w.heap.size w' a' n xs ∧ Below w.heap.size w w' ∧ n ≤ c' := by
  obtain ⟨v, w', hr, ho, hb⟩ := copied_run a n cap xs w hI hn
  obtain ⟨a', c', rfl, hO⟩ := own_of ho xs rfl
  have hcp := own_cap ho
  have Hr := hidOf hr
  clear hr ho hI
  go_enter Tryz.func37, Tryz.ntmps37
  go_wp2_with (at_builtin; refine wpList_append_run rfl _ _ 41 rfl _ _ _ rfl rfl Hr.out ?_)
  go_ret
  exact ⟨a', c', rfl, hO, hb, hcp⟩

theorem copied_any (a : Option Addr) (n cap : Nat) (xs : List Int) (w : World) (hI : IntsAt w a n xs) (hn : n ≤ 2097152) :
    Calls Tryz.prog 37 #[.slice a n cap] w fun e w' => ∃ a' c', e = .returned (.slice a' n c') ∧ Il.OwnAt w.heap.size w' a' n xs ∧ Below w.heap.size w w' :=
  (copied_any2 a n cap xs w hI hn).mono fun _ _ ⟨a', c', h1, h2, h3, _⟩ => ⟨a', c', h1, h2, h3⟩

end Go.Proofs.YtffpecdjfcgadaaGreatDoor
namespace Go.Proofs.YtffpecdjfcgadaaGreatDoor
open Go.RowKit Go.Maps Pl Il

theorem Il.OwnAt.grown {B : Nat} {w w' : World} {a : Option Addr} {n mb : Nat} {xs : List Int} (h : Il.OwnAt B w a n xs) (hg : w.grownBy w' (some mb)) (hm : mb < B) : Il.OwnAt B w' a n xs := by
  have key : ∀ b, b < w.heap.size → B ≤ b → w'.heap[b]? = w.heap[b]? := fun b hb hB => hg.block b hb (by intro e; cases e; omega)
  obtain ⟨⟨hl, hr⟩, ho⟩ := h
  rcases hr with h0 | ⟨b, off, rfl, hlt, hc⟩
  · exact ⟨⟨hl, .inl h0⟩, .inl h0⟩
  · rcases ho with h0 | ⟨b', off', e, hB, hf⟩
    · exact ⟨⟨hl, .inl h0⟩, .inl h0⟩
    · cases e
      refine ⟨⟨hl, .inr ⟨b, off, rfl, Nat.lt_of_lt_of_le hlt hg.size, fun i hi => ?_⟩⟩, .inr ⟨b, off, rfl, hB, fun i hi => ?_⟩⟩
      · rw [← hc i hi]; exact World.cell?_of_block (key b hlt hB)
      · rw [← hf i hi]; exact World.frozen?_of_block (key b hlt hB)
theorem Il.OwnAt.take {B : Nat} {w : World} {a : Option Addr} {n : Nat} {xs : List Int} (h : Il.OwnAt B w a n xs) (i : Nat) (hi : i ≤ n) : Il.OwnAt B w a i (xs.take i) := by
  refine ⟨h.ints.take i hi, ?_⟩
  rcases h.own with h0 | ⟨b, off, rfl, hB, hf⟩
  · exact .inl (by omega)
  · exact .inr ⟨b, off, rfl, hB, fun j hj => hf j (by omega)⟩

theorem QParts.mlt {B : Nat} {w : World} {qb mb : Nat} {cv : Value} {D : DataW Unit} {xs gone : List Int} (h : QParts B w qb mb cv D xs gone) : mb < w.heap.size := h.mem.map.lt

theorem grown_trans {w w1 w2 : World} {b : Nat} (h : w.grownBy w1 (some b)) (k : w1.grownBy w2 (some b)) : w.grownBy w2 (some b) :=
  ⟨k.os.trans h.os, k.tape.trans h.tape, k.output.trans h.output, Nat.le_trans h.size k.size, fun i hi hn => (k.block i (Nat.lt_of_lt_of_le hi h.size) hn).trans (h.block i hi hn)⟩

end Go.Proofs.YtffpecdjfcgadaaGreatDoor
namespace Go.Proofs.YtffpecdjfcgadaaGreatDoor
open Go.RowKit Go.Maps Pl Il

theorem implPlaceOf_any (a : Option Addr) (n cap : Nat) (xs : List Int) (x : Int) (w : World) (hI : IntsAt w a n xs) (hn : n ≤ 2097152) (hw : wfL xs) (hx : (Lit.int .i64 x).wf = true) :
    Calls Tryz.prog 38 #[.slice a n cap, .int .i64 x] w fun e w' => e = .returned (.int .i64 (placeL xs x)) ∧ Below w.heap.size w w' := by
  go_enter Tryz.func38, Tryz.ntmps38
  go_wp2_with fail
  refine (queueOf_any a n cap xs _ hI hn hw).mono ?_
  rintro e w1 ⟨qb, rfl, hq, hb⟩
  go_wp2_with fail
  refine (placeOf_any _ qb xs [] x _ hq hx).mono ?_
  rintro e w2 ⟨rfl, rfl⟩
  have hp := place_placeL xs x
  have HP := hidOf hp
  clear hp hq hI
  cases hc : placeG xs [] x with
  | none =>
    go_wp2
    go_ret
    refine ⟨rint ?_, hb⟩
    rw [HP.out, hc]
  | some i =>
    go_wp2
    go_ret
    refine ⟨rint ?_, hb⟩
    rw [HP.out, hc]
/-- A list handed back: in new memory. -/
structure Back (w : World) (a : Option Addr) (n : Nat) (ys : List Int) (w' : World) : Prop where
  own : Il.OwnAt w.heap.size w' a n ys
  below : Below w.heap.size w w'
theorem Back.of {w w1 w2 : World} {a : Option Addr} {n : Nat} {ys : List Int} (h1 : Below w.heap.size w w1) (ho : Il.OwnAt w1.heap.size w2 a n ys) (h2 : Below w1.heap.size w1 w2) : Back w a n ys w2 := ⟨ho.mono h1.size, bl_trans h1 h2⟩

end Go.Proofs.YtffpecdjfcgadaaGreatDoor
namespace Go.Proofs.YtffpecdjfcgadaaGreatDoor
open Go.RowKit Go.Maps Pl Il

/-- What Wake leaves of the line. -/
def wakeRest (xs : List Int) (k : Int) : List Int := if lineL xs && decide (0 ≤ k) then xs.drop (wakeN xs k) else xs
/-- Whom Wake wakes. -/
def wakeOut (xs : List Int) (k : Int) : List Int := if lineL xs && decide (0 ≤ k) then xs.take (wakeN xs k) else []
theorem wake_bad {xs : List Int} {k : Int} (h : lineL xs = false ∨ k < 0) : wakeRest xs k = xs ∧ wakeOut xs k = [] := by
  rcases h with h | h
  · simp [wakeRest, wakeOut, h]
  · have : ¬ 0 ≤ k := by omega
    simp [wakeRest, wakeOut, this]
theorem wake_good {xs : List Int} {k : Int} (h : lineL xs = true) (hk : 0 ≤ k) : wakeRest xs k = xs.drop (wakeN xs k) ∧ wakeOut xs k = xs.take (wakeN xs k) := by
  simp [wakeRest, wakeOut, h, hk]

/-- Two lists that the call has made, apart from one another. -/
structure Apart (w : World) (a1 : Option Addr) (m1 : Nat) (ys : List Int) (a2 : Option Addr) (m2 : Nat) (zs : List Int) (w' : World) : Prop where
  one : Il.OwnAt w.heap.size w' a1 m1 ys
  two : Il.OwnAt w.heap.size w' a2 m2 zs
  apart : m1 = 0 ∨ m2 = 0 ∨ ∀ b off b' off', a1 = some ⟨b, off, none⟩ → a2 = some ⟨b', off', none⟩ → b ≠ b'
  below : Below w.heap.size w w'
end Go.Proofs.YtffpecdjfcgadaaGreatDoor
namespace Go.Proofs.YtffpecdjfcgadaaGreatDoor
open Go.RowKit Go.Maps Pl Il

theorem ownsRow_keep {B : Nat} {w w' : World} {v : Value} {n s : Nat} {t : TypeId} {xs : List Value} (h : w.ownsRow B t s v n xs) (hb : Below w.heap.size w w') : w'.ownsRow B t s v n xs := by
  obtain ⟨hl, hn | ⟨g, cap, cur, rfl, hB, hg, hr⟩⟩ := h
  · exact ⟨hl, .inl hn⟩
  · have hlt : g < w.heap.size := by
      rcases Nat.lt_or_ge g w.heap.size with k | k
      · exact k
      · rw [Array.getElem?_eq_none k] at hg; cases hg
    exact ⟨hl, .inr ⟨g, cap, cur, rfl, hB, by rw [hb.block g hlt]; exact hg, hr⟩⟩
theorem isCount_any (x : Int) (w : World) :
    Calls Tryz.prog 57 #[.int .i64 x] w fun e w' => e = .returned (.bool (cnt x)) ∧ w' = w := by
  go_enter Tryz.func57, Tryz.ntmps57
  go_wp2
  all_goals go_ret
  all_goals (refine ⟨rbool ?_, rfl⟩; simp [cnt]; try omega)
end Go.Proofs.YtffpecdjfcgadaaGreatDoor
namespace Go.Proofs.YtffpecdjfcgadaaGreatDoor
open Go.RowKit Go.Maps Pl Il

abbrev intsV (xs : List Int) : List Value := xs.map (Value.int .i64)
/-- The two lists. -/
structure Rows2 (B : Nat) (w : World) (A : Na) (ln gs : List Int) : Prop where
  one : w.ownsRow B 3 1 (.slice A.a A.n A.c) A.n (intsV ln)
  two : w.ownsRow B 3 1 (.slice A.a' A.n' A.c') A.n' (intsV gs)
  ne : ∀ q, (Value.slice A.a A.n A.c).ownBlock = some q → (Value.slice A.a' A.n' A.c').ownBlock ≠ some q
section
variable {B B' : Nat} {w w' : World} {A : Na} {ln gs : List Int}
theorem row_set {v : Value} {n : Nat} {xs : List Value} (h : w.ownsRow B 3 1 v n xs) (N o : Nat) (hne : v.ownBlock ≠ some N) (x : Value) : (w.setCell ⟨N, o, none⟩ x).ownsRow B 3 1 v n xs := by
  refine h.kept (row := some N) ⟨rfl, rfl, rfl, by simp, fun k _ hk => Below.heap_setCell _ _ _ _ (by rintro rfl; exact hk rfl)⟩ ?_
  cases e : v.ownBlock with
  | none => exact .inl rfl
  | some q => exact .inr (fun e' => hne (by rw [e, e']))
theorem row_grown {v : Value} {n : Nat} {xs : List Value} (h : w.ownsRow B 3 1 v n xs) {g : Option Nat} (hg : w.grownBy w' g) (hne : ∀ q, g = some q → v.ownBlock ≠ some q) : w'.ownsRow B 3 1 v n xs := by
  refine h.kept (row := g) hg ?_
  cases e : v.ownBlock with
  | none => exact .inl rfl
  | some q => exact .inr (fun e' => hne q e'.symm e)
theorem row_mono {v : Value} {n : Nat} {xs : List Value} (h : w.ownsRow B 3 1 v n xs) (hb : B' ≤ B) : w.ownsRow B' 3 1 v n xs :=
  ⟨h.1, h.2.imp id fun ⟨g, cap, cur, h1, h2, h3⟩ => ⟨g, cap, cur, h1, Nat.le_trans hb h2, h3⟩⟩
theorem row_below {v : Value} {n : Nat} {xs : List Value} (h : w.ownsRow B 3 1 v n xs) (hb : Below w.heap.size w w') : w'.ownsRow B 3 1 v n xs := ownsRow_keep h hb
theorem row_own {a : Option Addr} {n c : Nat} {xs : List Int} (h : w.ownsRow B 3 1 (.slice a n c) n (intsV xs)) : Il.OwnAt B w a n xs ∧ n ≤ c := by
  have hcp := own_cap h
  obtain ⟨a', c', e, ho⟩ := own_of h xs rfl
  injection e with e1 _ _
  subst e1
  exact ⟨ho, hcp⟩
theorem Rows2.keep (h : Rows2 B w A ln gs) (hb : Below w.heap.size w w') : Rows2 B w' A ln gs := ⟨row_below h.one hb, row_below h.two hb, h.ne⟩
theorem Rows2.mono (h : Rows2 B w A ln gs) (hB : B' ≤ B) : Rows2 B' w A ln gs := ⟨row_mono h.one hB, row_mono h.two hB, h.ne⟩
theorem Rows2.set (h : Rows2 B w A ln gs) (N o : Nat) (h1 : (Value.slice A.a A.n A.c).ownBlock ≠ some N) (h2 : (Value.slice A.a' A.n' A.c').ownBlock ≠ some N) (x : Value) : Rows2 B (w.setCell ⟨N, o, none⟩ x) A ln gs := ⟨row_set h.one N o h1 x, row_set h.two N o h2 x, h.ne⟩
theorem Rows2.far (h : Rows2 B w A ln gs) (N o : Nat) (hN : N < B) (x : Value) : Rows2 B (w.setCell ⟨N, o, none⟩ x) A ln gs :=
  h.set N o (fun e => by have := (h.one.lt N e).1; omega) (fun e => by have := (h.two.lt N e).1; omega) x
theorem Rows2.ok (h : Rows2 B w A ln gs) : A.ok := ⟨(row_own h.one).2, (row_own h.two).2⟩
theorem Rows2.len (h : Rows2 B w A ln gs) : ln.length = A.n ∧ gs.length = A.n' := ⟨(row_own h.one).1.ints.len, (row_own h.two).1.ints.len⟩
theorem own_block {v : Value} {b off : Nat} {n c : Nat} (h : v = .slice (some ⟨b, off, none⟩) n c) : v.ownBlock = some b := by rw [h]; rfl
theorem Rows2.parts (h : Rows2 B w A ln gs) : Il.OwnAt B w A.a A.n ln ∧ Il.OwnAt B w A.a' A.n' gs ∧ (A.n = 0 ∨ A.n' = 0 ∨ ∀ b off b' off', A.a = some ⟨b, off, none⟩ → A.a' = some ⟨b', off', none⟩ → b ≠ b') := by
  refine ⟨(row_own h.one).1, (row_own h.two).1, .inr (.inr fun b off b' off' e e' hbb => ?_)⟩
  subst hbb
  exact h.ne b (by rw [e]; rfl) (by rw [e']; rfl)
end
/-- More numbers behind an own row. -/
theorem append_ownS (B m : Nat) (v : Value) (ys : List Int) (a : Option Addr) (n cap : Nat) (xs : List Int) (w : World) (ho : w.ownsRow B 3 1 v m (intsV ys)) (hB : B ≤ w.heap.size) (hI : IntsAt w a n xs) (hs : m + n ≤ 4194304) :
    ∃ (a' : Option Addr) (c' : Nat) (w' : World), (Builtin.append_ #[41, 41] 41 #[v, .slice a n cap]).run Tryz.prog w = .ok (.slice a' (m + n) c') w' ∧ w'.ownsRow B 3 1 (.slice a' (m + n) c') (m + n) (intsV (ys ++ xs)) ∧ w.grownBy w' v.ownBlock ∧
      (∀ q, (Value.slice a' (m + n) c').ownBlock = some q → v.ownBlock = some q ∨ w.heap.size ≤ q) := by
  obtain ⟨i, hi, hz0, hz1, hz2⟩ := info_parts info3
  obtain ⟨av, cv, hv, _⟩ := own_of ho ys rfl
  subst hv
  have hcp := own_cap ho
  obtain ⟨hlen, h0⟩ := hI
  rcases Nat.eq_zero_or_pos n with rfl | hpos
  · have hx : xs = [] := List.length_eq_zero_iff.1 hlen
    subst hx
    refine ⟨av, cv, w, run_append_nothing w 41 41 41 3 i Tryz.underlying41 hi av m cv hcp _ ?_, by rw [List.append_nil]; exact ho, ⟨rfl, rfl, rfl, Nat.le_refl _, fun _ _ _ => rfl⟩, fun q e => .inl e⟩
    rcases a with _ | ad
    · exact Src.ofNil _ Tryz.underlying41 cap
    · exact Src.ofSlice _ Tryz.underlying41 ad 0 cap [] (by simp) (fun j u h => by simp at h) (fun u h => by cases h)
  · rcases h0 with h0 | ⟨b, off, rfl, hb, hcell⟩
    · omega
    · obtain ⟨g', c', w', hr, hown, hgrow, hl, _⟩ := run_append_lies (P := Tryz.prog) w 41 41 B 3 i (.int .i64 0) 1 8 Tryz.underlying41 hi hz0 hz1 hz2 rfl (by omega) _ m _ ho ⟨b, off, none⟩ n cap (xs.map (Value.int .i64)) (by simp [hlen])
        (fun j u h => by
          rw [Addr.add_lit]
          have hj : j < n := by
            have := (List.getElem?_eq_some_iff.1 h).1
            simpa [hlen] using this
          rw [hcell j hj]
          simp only [List.getElem?_map] at h
          rw [List.getElem?_eq_getElem (by omega)] at h
          simp only [Option.map_some, Option.some.injEq] at h
          rw [← h]
          simp [List.getD, List.getElem?_eq_getElem (show j < xs.length by omega)])
        (fun u hu => by obtain ⟨_, _, rfl⟩ := List.mem_map.1 hu; rfl) hpos (by unfold maxLen; omega) (by omega) hB _ rfl
      refine ⟨_, c', w', hr, by rw [← List.map_append] at hown; exact hown, hgrow, fun q e => ?_⟩
      have e' : g' = q := by simpa [Value.ownBlock] using e
      subst e'
      rcases hl with h | h
      · exact .inl h
      · right; omega
end Go.Proofs.YtffpecdjfcgadaaGreatDoor
namespace Go.Proofs.YtffpecdjfcgadaaGreatDoor
open Go.RowKit Go.Maps Pl Il

theorem copied_row (a : Option Addr) (n cap : Nat) (xs : List Int) (w : World) (hI : IntsAt w a n xs) (hn : n ≤ 2097152) :
    Calls Tryz.prog 37 #[.slice a n cap] w fun e w' => ∃ a' c', e = .returned (.slice a' n c') ∧ w'.ownsRow w.heap.size 3 1 (.slice a' n c') n (intsV xs) ∧ Below w.heap.size w w' := by
  obtain ⟨v, w', hr, ho, hb⟩ := copied_run a n cap xs w hI hn
  obtain ⟨a', c', rfl, hO⟩ := own_of ho xs rfl
  have Hr := hidOf hr
  have HO := hidOf ho
  clear hr ho hI
  go_enter Tryz.func37, Tryz.ntmps37
  go_wp2_with (at_builtin; refine wpList_append_run rfl _ _ 41 rfl _ _ _ rfl rfl Hr.out ?_)
  go_ret
  exact ⟨a', c', rfl, HO.out, hb⟩
end Go.Proofs.YtffpecdjfcgadaaGreatDoor
namespace Go.Proofs.YtffpecdjfcgadaaGreatDoor
open Go.RowKit Go.Maps Pl Il

/-- The first two cells of block b hold two lists of its own. -/
structure WSt (B b : Nat) (A : Na) (ln gs : List Int) (w : World) : Prop where
  lt : b < w.heap.size
  ge : B ≤ b
  c0 : w.cell? ⟨b, 0, none⟩ = some (.slice A.a A.n A.c)
  c1 : w.cell? ⟨b, 1, none⟩ = some (.slice A.a' A.n' A.c')
  fr : ∀ o, w.frozen? ⟨b, o, none⟩ = false
  rows : Rows2 B w A ln gs
  ne1 : (Value.slice A.a A.n A.c).ownBlock ≠ some b
  ne2 : (Value.slice A.a' A.n' A.c').ownBlock ≠ some b
/-- Behind a call on them: what else lies in their block, and all that is elder, stays. -/
structure WTo (B b : Nat) (w w' : World) : Prop where
  below : Below B w w'
  cells : ∀ o, 2 ≤ o → w'.cell? ⟨b, o, none⟩ = w.cell? ⟨b, o, none⟩
theorem WTo.refl (B b : Nat) (w : World) : WTo B b w w := ⟨Below.refl _ _, fun _ _ => rfl⟩
theorem WTo.trans {B b : Nat} {w u v : World} (h : WTo B b w u) (k : WTo B b u v) : WTo B b w v := ⟨h.below.trans k.below, fun o ho => (k.cells o ho).trans (h.cells o ho)⟩
theorem WTo.of {B b : Nat} {w w' : World} (h : Below w.heap.size w w') (hb : b < w.heap.size) (hB : B ≤ w.heap.size) : WTo B b w w' := ⟨h.mono hB, fun o _ => h.cell (p := ⟨b, o, none⟩) hb⟩
section
variable {B b : Nat} {A : Na} {ln gs : List Int} {w w' : World}
theorem WSt.keep (h : WSt B b A ln gs w) (hb : Below w.heap.size w w') : WSt B b A ln gs w' :=
  ⟨Nat.lt_of_lt_of_le h.lt hb.size, h.ge, by rw [hb.cell (p := ⟨b, 0, none⟩) h.lt]; exact h.c0, by rw [hb.cell (p := ⟨b, 1, none⟩) h.lt]; exact h.c1, fun o => by rw [hb.frozen (p := ⟨b, o, none⟩) h.lt]; exact h.fr o, h.rows.keep hb, h.ne1, h.ne2⟩
theorem WSt.to (h : WSt B b A ln gs w) (hb : Below w.heap.size w w') : WTo B b w w' := WTo.of hb h.lt (Nat.le_trans h.ge (Nat.le_of_lt h.lt))
/-- Another cell of the block is stored. -/
theorem WSt.setc (h : WSt B b A ln gs w) (o : Nat) (ho : 2 ≤ o) (v : Value) : WSt B b A ln gs (w.setCell ⟨b, o, none⟩ v) :=
  ⟨by simpa using h.lt, h.ge, by rw [World.cell?_setCell_other _ _ _ _ (by intro e; cases e; omega)]; exact h.c0, by rw [World.cell?_setCell_other _ _ _ _ (by intro e; cases e; omega)]; exact h.c1, fun k => by simpa using h.fr k, h.rows.set b o h.ne1 h.ne2 v, h.ne1, h.ne2⟩
/-- The line is another one. -/
theorem WSt.line {a : Option Addr} {n c : Nat} {xs : List Int} (h : WSt B b A ln gs w) (hr : w.ownsRow B 3 1 (.slice a n c) n (intsV xs)) (h1 : (Value.slice a n c).ownBlock ≠ some b) (h2 : ∀ q, (Value.slice a n c).ownBlock = some q → (Value.slice A.a' A.n' A.c').ownBlock ≠ some q) :
    WSt B b { A with a := a, n := n, c := c } xs gs (w.setCell ⟨b, 0, none⟩ (.slice a n c)) :=
  ⟨by simpa using h.lt, h.ge, World.cell?_setCell_same _ _ _ h.c0, by rw [World.cell?_setCell_other _ _ _ _ (by simp)]; exact h.c1, fun k => by simpa using h.fr k, ⟨row_set hr b 0 h1 _, row_set h.rows.two b 0 h.ne2 _, h2⟩, h1, h.ne2⟩
/-- Those who were told are others. -/
theorem WSt.told {a : Option Addr} {n c : Nat} {xs : List Int} (h : WSt B b A ln gs w) (hr : w.ownsRow B 3 1 (.slice a n c) n (intsV xs)) (h1 : (Value.slice a n c).ownBlock ≠ some b) (h2 : ∀ q, (Value.slice A.a A.n A.c).ownBlock = some q → (Value.slice a n c).ownBlock ≠ some q) :
    WSt B b { A with a' := a, n' := n, c' := c } ln xs (w.setCell ⟨b, 1, none⟩ (.slice a n c)) :=
  ⟨by simpa using h.lt, h.ge, by rw [World.cell?_setCell_other _ _ _ _ (by simp)]; exact h.c0, World.cell?_setCell_same _ _ _ h.c1, fun k => by simpa using h.fr k, ⟨row_set h.rows.one b 1 h.ne1 _, row_set hr b 1 h1 _, h2⟩, h.ne1, h1⟩
theorem WTo.set (h : WTo B b w w') (hB : B ≤ b) (o : Nat) (ho : o < 2) (v : Value) : WTo B b w (w'.setCell ⟨b, o, none⟩ v) :=
  ⟨bl_set1 h.below b o hB v, fun k hk => by rw [World.cell?_setCell_other _ _ _ _ (by intro e; cases e; omega)]; exact h.cells k hk⟩
theorem WTo.grown {g : Option Nat} (h : WTo B b w w') {u : World} (hg : w'.grownBy u g) (hB : B ≤ w'.heap.size) (hl : b < w'.heap.size) (hge : ∀ q, g = some q → B ≤ q) (hne : g ≠ some b) : WTo B b w u :=
  ⟨h.below.grown hg hB (fun k hk => hge k hk), fun o ho => by rw [← h.cells o ho]; exact World.cell?_of_block (hg.block b hl (fun e => hne e.symm))⟩
end
/-- Whose turn is it? -/
def turnL (ln gs : List Int) (who : Int) : Int := if hasL ln who then 4 else if hasL gs who then 0 else 3
theorem place_neg {xs : List Int} {x : Int} (h : hasL xs x = false) : placeL xs x = -1 := (place_none (Nat.le_refl _) (by rw [List.take_length]; exact h)).symm
theorem place_nneg {xs : List Int} {x : Int} (h : hasL xs x = true) : 0 ≤ placeL xs x := by
  unfold placeL
  cases hf : xs.findIdx? (· == x) with
  | none =>
    rw [List.findIdx?_eq_none_iff] at hf
    have := hf x (by simpa [hasL] using h)
    simp at this
  | some i => simp

theorem turnOf_any (B b : Nat) (A : Na) (ln gs : List Int) (who : Int) (w : World) (hS : WSt B b A ln gs w) (hn : A.n ≤ 2097152) (hn' : A.n' ≤ 2097152) (hw : wfL ln) (hw' : wfL gs) (hx : (Lit.int .i64 who).wf = true) :
    Calls Tryz.prog 65 #[.pointer (some ⟨b, 0, none⟩), .int .i64 who] w fun e w' => e = .returned (.int .i64 (turnL ln gs who)) ∧ Below w.heap.size w w' := by
  have c0 := hS.c0
  have HS := hidOf hS
  clear hS
  go_enter Tryz.func65, Tryz.ntmps65
  go_wp2_with fail
  refine (implPlaceOf_any A.a A.n A.c ln who _ (row_own HS.out.rows.one).1.ints hn hw hx).mono ?_
  rintro e w1 ⟨rfl, hb1⟩
  have hS1 := HS.out.keep hb1
  cases h1 : hasL ln who
  · rw [place_neg h1]
    have c1 := hS1.c1
    have HS1 := hidOf hS1
    clear hS1 c0 HS
    go_wp2_with fail
    refine (implPlaceOf_any A.a' A.n' A.c' gs who _ (row_own HS1.out.rows.two).1.ints hn' hw' hx).mono ?_
    rintro e w2 ⟨rfl, hb2⟩
    cases h2 : hasL gs who
    · rw [place_neg h2]
      go_wp2
      go_ret
      exact ⟨rint (by unfold turnL; rw [h1, h2]; rfl), bl_trans hb1 hb2⟩
    · have hp := place_nneg h2
      generalize placeL gs who = p at hp
      go_wp2
      go_ret
      exact ⟨rint (by unfold turnL; rw [h1, h2]; rfl), bl_trans hb1 hb2⟩
  · have hp := place_nneg h1
    generalize placeL ln who = p at hp
    clear hS1
    go_wp2
    go_ret
    exact ⟨rint (by unfold turnL; rw [h1]; rfl), hb1⟩


/-- A list without x: what Leave leaves of a right one. -/
theorem leave_less {xs : List Int} (x : Int) (h : lineL xs = true) : (leaveL xs x).1 = lessL xs x := by
  cases hh : hasL xs x
  · rw [leave_none h hh]
    unfold lessL
    rw [List.erase_of_not_mem (by simpa [hasL] using hh)]
  · rw [leave_done h hh]
end Go.Proofs.YtffpecdjfcgadaaGreatDoor
namespace Go.Proofs.YtffpecdjfcgadaaGreatDoor
open Go.RowKit Go.Maps Pl Il

/-- Who is in neither list. -/
theorem turn_cases (ln gs : List Int) (who : Int) : (turnL ln gs who = 4 ∧ hasL ln who = true) ∨ (turnL ln gs who = 0 ∧ hasL ln who = false ∧ hasL gs who = true) ∨ (turnL ln gs who = 3 ∧ hasL ln who = false ∧ hasL gs who = false) := by
  unfold turnL
  cases h1 : hasL ln who <;> cases h2 : hasL gs who <;> simp
/-- A number is answered, and the lists are others. -/
def WOut (B b : Nat) (w : World) (v : Value) (ln gs : List Int) (e : Ending) (w' : World) : Prop := ∃ A', e = .returned v ∧ WSt B b A' ln gs w' ∧ WTo B b w w'
end Go.Proofs.YtffpecdjfcgadaaGreatDoor
namespace Go.Proofs.YtffpecdjfcgadaaGreatDoor
open Go.RowKit Pl Il

theorem mGo_succ {f k : Nat} {o : ByteArray} (h : 0 < k) : mGo (f + 1) k o = mGo f (k / 10) (digB k ++ o) := by
  rw [mGo, if_neg (by omega)]
theorem MarkF.step' {w : World} {b off n k m : Nat} {wr X u : World} (h : MarkF w b off n k m wr) (hX : X = (wr.setCell ⟨b, off + m * 3, none⟩ (.int .i64 ((k + 3 * m : Nat) : Int))).setCell ⟨b, off + m * 3 + 1, none⟩ (.int .i64 ((k + 3 * m + 1 : Nat) : Int))) (hb : Below X.heap.size X u) :
    MarkF w b off n k (m + 1) (u.setCell ⟨b, off + m * 3 + 2, none⟩ (.string (mkT (k + 3 * m + 2)))) := by
  have hXs : X.heap.size = wr.heap.size := by rw [hX]; simp
  have hbX : b < X.heap.size := by rw [hXs]; exact h.lt
  have hXf : ∀ o, X.frozen? ⟨b, o, none⟩ = false := fun o => by rw [hX]; simpa using h.fr o
  have hXg : w.grownBy X (some b) := by
    obtain ⟨h1, h2, h3, h4, h5⟩ := h.ex
    refine ⟨by rw [hX]; exact h1, by rw [hX]; exact h2, by rw [hX]; exact h3, by rw [hXs]; exact h4, fun j hj hne => ?_⟩
    rw [hX, Below.heap_setCell _ _ _ _ (by rintro rfl; exact hne rfl), Below.heap_setCell _ _ _ _ (by rintro rfl; exact hne rfl)]
    exact h5 j hj hne
  have hXo : ∀ p, p ≠ off + m * 3 → p ≠ off + m * 3 + 1 → X.cell? ⟨b, p, none⟩ = wr.cell? ⟨b, p, none⟩ := fun p h1 h2 => by
    rw [hX, World.cell?_setCell_other _ _ _ _ (by intro e'; injection e' with _ e2; omega), World.cell?_setCell_other _ _ _ _ (by intro e'; injection e' with _ e2; omega)]
  have hu : ∀ p, p ≠ off + m * 3 + 2 → (u.setCell ⟨b, off + m * 3 + 2, none⟩ (.string (mkT (k + 3 * m + 2)))).cell? ⟨b, p, none⟩ = X.cell? ⟨b, p, none⟩ := fun p h1 => by
    rw [World.cell?_setCell_other _ _ _ _ (by intro e'; injection e' with _ e2; omega), hb.cell (p := ⟨b, p, none⟩) hbX]
  refine ⟨?_, ?_, fun j hj => ?_, fun o => ?_⟩
  · obtain ⟨h1, h2, h3, h4, h5⟩ := grown_keep hXg hb
    exact ⟨h1, h2, h3, by simpa using h4, fun j hj hne => by rw [Below.heap_setCell _ _ _ _ (by rintro rfl; exact hne rfl)]; exact h5 j hj hne⟩
  · have := hb.size
    simp only [World.size_setCell]
    omega
  · obtain ⟨v0, v1, v2, h0, h1, h2, hk⟩ := h.cells j hj
    by_cases e : j = m
    · subst e
      have x1 : (wr.setCell ⟨b, off + j * 3, none⟩ (.int .i64 ((k + 3 * j : Nat) : Int))).cell? ⟨b, off + j * 3 + 1, none⟩ = some v1 := by
        rw [World.cell?_setCell_other _ _ _ _ (by intro e'; injection e' with _ e2; omega)]; exact h1
      have y0 : X.cell? ⟨b, off + j * 3, none⟩ = some (.int .i64 ((k + 3 * j : Nat) : Int)) := by
        rw [hX, World.cell?_setCell_other _ _ _ _ (by intro e'; injection e' with _ e2; omega)]; exact World.cell?_setCell_same _ _ _ h0
      have y1 : X.cell? ⟨b, off + j * 3 + 1, none⟩ = some (.int .i64 ((k + 3 * j + 1 : Nat) : Int)) := by
        rw [hX]; exact World.cell?_setCell_same _ _ _ x1
      have y2 : u.cell? ⟨b, off + j * 3 + 2, none⟩ = some v2 := by
        rw [hb.cell (p := ⟨b, off + j * 3 + 2, none⟩) hbX, hXo _ (by omega) (by omega)]; exact h2
      exact ⟨_, _, _, (hu _ (by omega)).trans y0, (hu _ (by omega)).trans y1, World.cell?_setCell_same _ _ _ y2, fun _ => ⟨rfl, rfl, rfl⟩⟩
    · exact ⟨v0, v1, v2, by rw [hu _ (by omega), hXo _ (by omega) (by omega)]; exact h0, by rw [hu _ (by omega), hXo _ (by omega) (by omega)]; exact h1, by rw [hu _ (by omega), hXo _ (by omega) (by omega)]; exact h2, fun hlt => hk (by omega)⟩
  · have e : (u.setCell ⟨b, off + m * 3 + 2, none⟩ (.string (mkT (k + 3 * m + 2)))).frozen? ⟨b, o, none⟩ = u.frozen? ⟨b, o, none⟩ := by simp
    rw [e, hb.frozen (p := ⟨b, o, none⟩) hbX]
    exact hXf o
end Go.Proofs.YtffpecdjfcgadaaGreatDoor
namespace Go.Proofs.YtffpecdjfcgadaaGreatDoor
open Go.RowKit Pl Il

end Go.Proofs.YtffpecdjfcgadaaGreatDoor
namespace Go.Proofs.YtffpecdjfcgadaaGreatDoor
open Go.RowKit Pl Il

end Go.Proofs.YtffpecdjfcgadaaGreatDoor
namespace Go.Proofs.YtffpecdjfcgadaaGreatDoor
open Go.RowKit Pl Il

/-- Nothing but the blocks of these lists has turned. -/
structure TurnL (ls : List (Option Addr × Nat)) (w w' : World) : Prop where
  os : w'.os = w.os
  tape : w'.tape = w.tape
  output : w'.output = w.output
  size : w.heap.size ≤ w'.heap.size
  block : ∀ k, k < w.heap.size → (∀ p, p ∈ ls → 0 < p.2 → ∀ off, p.1 ≠ some ⟨k, off, none⟩) → w'.heap[k]? = w.heap[k]?
theorem TurnL.refl (ls : List (Option Addr × Nat)) (w : World) : TurnL ls w w := ⟨rfl, rfl, rfl, Nat.le_refl _, fun _ _ _ => rfl⟩
theorem TurnL.trans {ls : List (Option Addr × Nat)} {w w1 w2 : World} (h : TurnL ls w w1) (h' : TurnL ls w1 w2) : TurnL ls w w2 :=
  ⟨h'.os.trans h.os, h'.tape.trans h.tape, h'.output.trans h.output, Nat.le_trans h.size h'.size, fun k hk hn => (h'.block k (Nat.lt_of_lt_of_le hk h.size) hn).trans (h.block k hk hn)⟩
theorem TurnL.mono {ls ms : List (Option Addr × Nat)} {w w' : World} (h : TurnL ls w w') (hs : ∀ p, p ∈ ls → p ∈ ms) : TurnL ms w w' :=
  ⟨h.os, h.tape, h.output, h.size, fun k hk hn => h.block k hk fun p hp => hn p (hs p hp)⟩
theorem TurnL.ofBelow {ls : List (Option Addr × Nat)} {w w' : World} (h : Below w.heap.size w w') : TurnL ls w w' := ⟨h.os, h.tape, h.output, h.size, fun k hk _ => h.block k hk⟩
theorem TurnL.ofGrown {a : Option Addr} {n b off : Nat} {w w' : World} (hn : 0 < n) (ha : a = some ⟨b, off, none⟩) (h : w.grownBy w' (some b)) : TurnL [(a, n)] w w' :=
  ⟨h.os, h.tape, h.output, h.size, fun k hk hne => h.block k hk (by
    intro e
    injection e with e
    subst e
    exact hne (a, n) (by simp) hn off ha)⟩
theorem TurnL.ofF {a : Option Addr} {n : Nat} {w w' : World} (h : TurnF a n w w') : TurnL [(a, n)] w w' := by
  rcases h with ⟨_, h⟩ | ⟨hn, b, off, ha, h⟩
  · exact TurnL.ofBelow h
  · exact TurnL.ofGrown hn ha h
theorem TurnL.ofI {a : Option Addr} {n : Nat} {w w' : World} (h : n = 0 ∧ w' = w ∨ 0 < n ∧ ∃ b off, a = some ⟨b, off, none⟩ ∧ w.grownBy w' (some b)) : TurnL [(a, n)] w w' := by
  rcases h with ⟨_, rfl⟩ | ⟨hn, b, off, ha, h⟩
  · exact TurnL.refl _ _
  · exact TurnL.ofGrown hn ha h
theorem TurnL.below {ls : List (Option Addr × Nat)} {w w' : World} {B : Nat} (h : TurnL ls w w') (hB : B ≤ w.heap.size) (hl : ∀ p, p ∈ ls → Abv p.1 p.2 B) : Below B w w' :=
  ⟨h.os, h.tape, h.output, h.size, fun k hk => h.block k (by omega) fun p hp h0 off e => by
    rcases hl p hp with q | q
    · omega
    · have := q _ _ e; omega⟩
theorem TurnL.keepB {ls : List (Option Addr × Nat)} {w w' : World} (h : TurnL ls w w') {b off n : Nat} (hb : b < w.heap.size) (hn : 0 < n) (hf : ∀ p, p ∈ ls → Far p.1 p.2 (some ⟨b, off, none⟩) n) : w'.heap[b]? = w.heap[b]? :=
  h.block b hb fun p hp h0 off' e => by
    rcases hf p hp with q | q | q
    · omega
    · omega
    · exact q b off' b off e rfl rfl
theorem TmAt.turn {ls : List (Option Addr × Nat)} {w w' : World} {a : Option Addr} {n : Nat} {ts : List Tm} (h : TmAt w a n ts) (ht : TurnL ls w w') (hf : ∀ p, p ∈ ls → Far p.1 p.2 a n) : TmAt w' a n ts := by
  refine ⟨h.len, h.short, ?_⟩
  rcases Nat.eq_zero_or_pos n with h0 | h0
  · exact .inl h0
  rcases h.row with k | ⟨b, off, rfl, hlt, hc⟩
  · exact .inl k
  · have key := ht.keepB hlt h0 hf
    refine .inr ⟨b, off, rfl, Nat.lt_of_lt_of_le hlt ht.size, fun i hi => ?_⟩
    obtain ⟨h1, h2, h3⟩ := hc i hi
    exact ⟨by rw [← h1]; exact World.cell?_of_block key, by rw [← h2]; exact World.cell?_of_block key, by rw [← h3]; exact World.cell?_of_block key⟩
theorem OwnF.turn {ls : List (Option Addr × Nat)} {B : Nat} {w w' : World} {a : Option Addr} {n : Nat} {ts : List Tm} (h : OwnF B w a n ts) (ht : TurnL ls w w') (hf : ∀ p, p ∈ ls → Far p.1 p.2 a n) : OwnF B w' a n ts := by
  refine ⟨h.tm.turn ht hf, ?_⟩
  rcases Nat.eq_zero_or_pos n with h0 | h0
  · exact .inl h0
  rcases h.own with k | ⟨b, off, rfl, hB, hfr⟩
  · exact .inl k
  rcases h.tm.row with k | ⟨b', off', e, hlt, _⟩
  · exact .inl k
  · cases e
    have key := ht.keepB hlt h0 hf
    exact .inr ⟨b, off, rfl, hB, fun o => by rw [← hfr o]; exact World.frozen?_of_block key⟩
theorem IntsAt.turn {ls : List (Option Addr × Nat)} {w w' : World} {a : Option Addr} {n : Nat} {xs : List Int} (h : IntsAt w a n xs) (ht : TurnL ls w w') (hf : ∀ p, p ∈ ls → Far p.1 p.2 a n) : IntsAt w' a n xs := by
  refine ⟨h.len, ?_⟩
  rcases Nat.eq_zero_or_pos n with h0 | h0
  · exact .inl h0
  rcases h.row with k | ⟨b, off, rfl, hlt, hc⟩
  · exact .inl k
  · have key := ht.keepB hlt h0 hf
    exact .inr ⟨b, off, rfl, Nat.lt_of_lt_of_le hlt ht.size, fun i hi => by rw [← hc i hi]; exact World.cell?_of_block key⟩
theorem Il.OwnAt.turn {ls : List (Option Addr × Nat)} {B : Nat} {w w' : World} {a : Option Addr} {n : Nat} {xs : List Int} (h : Il.OwnAt B w a n xs) (ht : TurnL ls w w') (hf : ∀ p, p ∈ ls → Far p.1 p.2 a n) : Il.OwnAt B w' a n xs := by
  refine ⟨IntsAt.turn h.ints ht hf, ?_⟩
  rcases Nat.eq_zero_or_pos n with h0 | h0
  · exact .inl h0
  rcases h.own with k | ⟨b, off, rfl, hB, hfr⟩
  · exact .inl k
  rcases h.ints.row with k | ⟨b', off', e, hlt, _⟩
  · exact .inl k
  · cases e
    have key := ht.keepB hlt h0 hf
    exact .inr ⟨b, off, rfl, hB, fun i hi => by rw [← hfr i hi]; exact World.frozen?_of_block key⟩
theorem SubAt.turn {ls : List (Option Addr × Nat)} {w w' : World} {a : Option Addr} {n : Nat} {xs : List Sa} (h : SubAt w a n xs) (ht : TurnL ls w w') (hf : ∀ p, p ∈ ls → Far p.1 p.2 a n) (hx : ∀ x, x ∈ xs → ∀ p, p ∈ ls → Far p.1 p.2 x.a x.n) : SubAt w' a n xs := by
  refine ⟨h.len, fun x hm => (h.fil x hm).turn ht (hx x hm), ?_⟩
  rcases Nat.eq_zero_or_pos n with h0 | h0
  · exact .inl h0
  rcases h.row with k | ⟨b, off, rfl, hlt, hc⟩
  · exact .inl k
  · have key := ht.keepB hlt h0 hf
    exact .inr ⟨b, off, rfl, Nat.lt_of_lt_of_le hlt ht.size, fun i hi => (hc i hi).same fun j _ => World.cell?_of_block key⟩
theorem OwnS.turn {ls : List (Option Addr × Nat)} {B : Nat} {w w' : World} {a : Option Addr} {n : Nat} {xs : List Sa} (h : OwnS B w a n xs) (ht : TurnL ls w w') (hf : ∀ p, p ∈ ls → Far p.1 p.2 a n) (hx : ∀ x, x ∈ xs → ∀ p, p ∈ ls → Far p.1 p.2 x.a x.n) : OwnS B w' a n xs := by
  refine ⟨h.sub.turn ht hf hx, ?_, fun x hm => (h.fow x hm).turn ht (hx x hm), h.apt, h.apa⟩
  rcases Nat.eq_zero_or_pos n with h0 | h0
  · exact .inl h0
  rcases h.own with k | ⟨b, off, rfl, hB, hfr⟩
  · exact .inl k
  rcases h.sub.row with k | ⟨b', off', e, hlt, _⟩
  · exact .inl k
  · cases e
    have key := ht.keepB hlt h0 hf
    exact .inr ⟨b, off, rfl, hB, fun o => by rw [← hfr o]; exact World.frozen?_of_block key⟩
/-- Marks for subscribers: six numbers, then the filter's. -/
def mkSa (k : Nat) (x : Sa) : Sa := ⟨⟨(k : Int), ((k + 1 : Nat) : Int), ((k + 2 : Nat) : Int), ((k + 3 : Nat) : Int), ((k + 4 : Nat) : Int), ((k + 5 : Nat) : Int), marksF (k + 6) x.n⟩, x.a, x.n, x.c⟩
def cntS (xs : List Sa) : Nat := xs.foldl (fun a x => a + (6 + 3 * x.n)) 0
def mkSs (k : Nat) (xs : List Sa) : List Sa := (List.range xs.length).map fun i => mkSa (k + cntS (xs.take i)) (sg xs i)
theorem mkSs_len (k : Nat) (xs : List Sa) : (mkSs k xs).length = xs.length := by simp [mkSs]
theorem mkSs_get {k : Nat} {xs : List Sa} {i : Nat} (h : i < xs.length) : sg (mkSs k xs) i = mkSa (k + cntS (xs.take i)) (sg xs i) := by
  rw [sg_eq (by rw [mkSs_len]; exact h)]
  simp [mkSs]
theorem cntS_next {xs : List Sa} {i : Nat} (h : i < xs.length) : cntS (xs.take (i + 1)) = cntS (xs.take i) + (6 + 3 * (sg xs i).n) := by
  unfold cntS
  rw [List.take_succ_eq_append_getElem h, List.foldl_append, sg_eq h]
  rfl
theorem cntS_le {xs : List Sa} {K : Nat} (h : ∀ x, x ∈ xs → x.n ≤ K) : ∀ i : Nat, cntS (xs.take i) ≤ i * (6 + 3 * K)
  | 0 => by simp [cntS]
  | i + 1 => by
    have ih := cntS_le h i
    rw [Nat.succ_mul]
    rcases Nat.lt_or_ge i xs.length with hi | hi
    · rw [cntS_next hi]
      have := h _ (sg_mem hi)
      omega
    · rw [List.take_of_length_le (by omega)]
      rw [List.take_of_length_le hi] at ih
      omega
/-- The first m are marked. -/
def mkTo (k m : Nat) (xs : List Sa) : List Sa := (List.range xs.length).map fun i => if i < m then mkSa (k + cntS (xs.take i)) (sg xs i) else sg xs i
theorem mkTo_len (k m : Nat) (xs : List Sa) : (mkTo k m xs).length = xs.length := by simp [mkTo]
theorem mkTo_get {k m : Nat} {xs : List Sa} {i : Nat} (h : i < xs.length) : sg (mkTo k m xs) i = if i < m then mkSa (k + cntS (xs.take i)) (sg xs i) else sg xs i := by
  rw [sg_eq (by rw [mkTo_len]; exact h)]
  simp [mkTo]
theorem mkTo_zero (k : Nat) (xs : List Sa) : mkTo k 0 xs = xs := by
  refine List.ext_getElem (mkTo_len _ _ _) fun i h1 h2 => ?_
  rw [← sg_eq h1, ← sg_eq h2, mkTo_get h2]
  simp
theorem mkTo_all (k : Nat) (xs : List Sa) : mkTo k xs.length xs = mkSs k xs := by
  refine List.ext_getElem (by rw [mkTo_len, mkSs_len]) fun i h1 h2 => ?_
  have h3 : i < xs.length := by rw [mkTo_len] at h1; exact h1
  rw [← sg_eq h1, ← sg_eq h2, mkTo_get h3, mkSs_get h3, if_pos h3]
theorem mkTo_mem {k m : Nat} {xs : List Sa} {y : Sa} (h : y ∈ mkTo k m xs) : ∃ i, i < xs.length ∧ y.a = (sg xs i).a ∧ y.n = (sg xs i).n ∧ y = sg (mkTo k m xs) i := by
  obtain ⟨i, hi, rfl⟩ := List.getElem_of_mem h
  rw [mkTo_len] at hi
  refine ⟨i, hi, ?_, ?_, (sg_eq _).symm⟩
  · rw [← sg_eq (by rw [mkTo_len]; exact hi), mkTo_get hi]
    split <;> rfl
  · rw [← sg_eq (by rw [mkTo_len]; exact hi), mkTo_get hi]
    split <;> rfl
theorem mkTo_same {k m : Nat} {xs : List Sa} {i : Nat} (h : i < xs.length) : (sg (mkTo k m xs) i).a = (sg xs i).a ∧ (sg (mkTo k m xs) i).n = (sg xs i).n := by
  rw [mkTo_get h]
  split <;> exact ⟨rfl, rfl⟩
end Go.Proofs.YtffpecdjfcgadaaGreatDoor
