/-
  The program's notifications: a telling placed, a grant dropped and passed on.
  Walks of the laws' own helpers on notifications: made anew, compared, weighed.
  Walks of the laws' own helpers: what is weighed, and what a marking of two lists leaves alone.
  Walks of the laws' own helpers on notifications: weighed, made anew, compared.
  Walks of the laws' own helpers on notifications: compared, marked, looked at again.
  Walks of the laws' own helpers on notifications: marked, looked at again; what a marking leaves alone.
  What a call on a notification hands back; what a marking of a third list leaves alone.
-/
import Derived.Test.YtbhdjcggcgddfaaV5
import Derived.Defers
import Derived.Test.YtbhdjcggcgddfaaMrg2
import Derived.Deep.RegionHeld3
namespace Go.Proofs.Ytbhdjcggcgddfaa
open Go.RowKit Go.Maps Pl Il

/-- A store into the variable's own cells. -/
theorem NSt.setc {B N : Nat} {A : Na} {x y : Nt} {w : World} (h : NSt B N A x w) (o : Nat) (v : Value) (hb : NBox N A y (w.setCell ⟨N, o, none⟩ v)) (h1 : y.ln = x.ln) (h2 : y.gs = x.gs) : NSt B N A y (w.setCell ⟨N, o, none⟩ v) where
  box := hb
  ge := h.ge
  one := by
    rw [h1]
    exact h.one.of_block (by simp) (h.ne1.imp id fun l b off e => Below.heap_setCell w ⟨N, o, none⟩ v b (l b off e))
  cap := h.cap
  two := by rw [h2]; exact own_set h.two N o h.ne2 v
  ne1 := h.ne1
  ne2 := h.ne2
  apart := h.apart
theorem NSt.below {B N : Nat} {A : Na} {x : Nt} {w0 w u : World} (h : NSt B N A x w0) (hb : Below B w u) (o : Nat) (v : Value) : Below B w (u.setCell ⟨N, o, none⟩ v) := bl_set1' hb N o h.ge v
theorem NSt.keep {B N : Nat} {A : Na} {x : Nt} {w u : World} (h : NSt B N A x w) (hb : Below w.heap.size w u) : NSt B N A x u := ⟨h.box.keep hb, h.ge, h.one.keep hb, h.cap, ownsRow_keep h.two hb, h.ne1, h.ne2, h.apart⟩
theorem NSt.nin {B N : Nat} {A : Na} {x : Nt} {w : World} (h : NSt B N A x w) : NIn w A x := by
  obtain ⟨a2, c2, e2, _, h2⟩ := ownG_of h.two x.gs rfl
  injection e2 with e2 _ _
  exact ⟨h.one.ints, by rw [e2]; exact h2.gr⟩
/-- What is handed back of it. -/
theorem NSt.own {B N : Nat} {A : Na} {x : Nt} {w : World} (h : NSt B N A x w) : NOwn B w A x := by
  obtain ⟨a2, c2, e2, _, h2⟩ := ownG_of h.two x.gs rfl
  injection e2 with e2 _ _
  refine ⟨h.one, by rw [e2]; exact h2, ?_⟩
  rcases h.apart with h0 | h0
  · exact .inl h0
  · refine .inr (.inr fun b off b' off' e e' => ?_)
    have := h0 b off e
    rw [e'] at this
    rintro rfl
    exact this rfl
theorem wake1_nil (k : Int) : wakeRest [] k = [] ∧ wakeOut [] k = [] := by
  unfold wakeRest wakeOut
  constructor <;> split <;> simp
theorem wake1_cons {y : Int} {r : List Int} (h : lineL (y :: r) = true) : wakeRest (y :: r) 1 = r ∧ wakeOut (y :: r) 1 = [y] := by
  unfold wakeRest wakeOut wakeN
  rw [h]
  simp
  split <;> simp_all <;> omega
theorem NOth.set {N : Nat} {A A' : Na} {w u : World} (h : NOth N A w A' u) (o : Nat) (v : Value) : NOth N A w A' (u.setCell ⟨N, o, none⟩ v) := ⟨fun k hk hne hq => by rw [Below.heap_setCell u ⟨N, o, none⟩ v k hne]; exact h.blk k hk hne hq, h.line, h.row⟩
set_option maxHeartbeats 2000000 in
theorem placeTelling_fr (B N : Nat) (A : Na) (x : Nt) (w : World) (hS : NSt B N A x w) (hn : A.n ≤ 2097152) (hn' : A.n' ≤ 2097152) (hl : lineL x.ln = true) (hw : wfL x.ln) (hsp : 0 ≤ x.sp ∧ x.sp ≤ 1000000000) :
    Calls Try.prog 84 #[.pointer (some ⟨N, 0, none⟩)] w fun e w' => ∃ A', e = .returned (.int .i64 (oneM x).2) ∧ NSt B N A' (oneM x).1 w' ∧ Below B w w' ∧ NOth N A w A' w' := by
  go_enter Try.func84, Try.ntmps84
  go_wp2_with fail
  refine (grantFirst_fr B N A x 1 true w hS hn hn' hw).mono ?_
  rintro e w1 ⟨A', a, m, c, rfl, hS1, ho, _, hb1, hO⟩
  have HO := hidOf hO
  clear hO
  clear hS
  obtain ⟨pm, ln, gs, on, sp, tk⟩ := x
  cases ln with
  | cons y r =>
    obtain ⟨e1, e2⟩ := wake1_cons hl
    simp only [e1, e2, List.map_cons, List.map_nil] at hS1 ho
    have hm : m = 1 := by have := ho.ints.len; simpa using this.symm
    subst hm
    obtain ⟨⟨_, h' | ⟨b, off, rfl, hb, hcell⟩⟩, _⟩ := ho
    · omega
    have hc := hcell 0 (by omega)
    simp at hc
    have H1 := hidOf hS1
    have H2 := hidOf hb1
    clear hS1 hb1 hcell e1 e2
    go_wp2
    go_ret
    exact ⟨A', rfl, H1.out, H2.out, HO.out⟩
  | nil =>
    obtain ⟨e1, e2⟩ := wake1_nil 1
    simp only [e1, e2, List.map_nil, List.append_nil] at hS1 ho
    have hm : m = 0 := by have := ho.ints.len; simpa using this.symm
    subst hm
    obtain ⟨_, q0, q1, q2, q3, q4, q5, qf⟩ := id hS1.box
    simp only at q0 q1 q2 q3 q4 q5 hsp
    clear e1 e2 ho
    cases pm
    · have hX := hS1.setc (y := ⟨true, [], gs, on, sp, tk⟩) 0 (.bool true) (hS1.box.set0 (b := true)) rfl rfl
      have H1 := hidOf hX
      have H2 := hidOf (hS1.below hb1 0 (.bool true))
      clear hX hS1 hb1
      go_wp2
      go_ret
      exact ⟨A', rfl, H1.out, H2.out, HO.out.set 0 _⟩
    · have hX := hS1.setc (y := ⟨true, [], gs, on, sp + 1, tk⟩) 4 (.int .i64 (sp + 1)) (hS1.box.set4 (v := sp + 1)) rfl rfl
      have hY := hX.setc (y := ⟨true, [], gs, on, sp + 1, tk⟩) 0 (.bool true) (hX.box.set0 (b := true)) rfl rfl
      have H1 := hidOf hY
      have H2 := hidOf (hS1.below (hS1.below hb1 4 (.int .i64 (sp + 1))) 0 (.bool true))
      clear hX hY hS1 hb1
      go_wp2
      go_ret
      exact ⟨A', rfl, H1.out, H2.out, (HO.out.set 4 _).set 0 _⟩
theorem placeTelling_any (B N : Nat) (A : Na) (x : Nt) (w : World) (hS : NSt B N A x w) (hn : A.n ≤ 2097152) (hn' : A.n' ≤ 2097152) (hl : lineL x.ln = true) (hw : wfL x.ln) (hsp : 0 ≤ x.sp ∧ x.sp ≤ 1000000000) :
    Calls Try.prog 84 #[.pointer (some ⟨N, 0, none⟩)] w fun e w' => ∃ A', e = .returned (.int .i64 (oneM x).2) ∧ NSt B N A' (oneM x).1 w' ∧ Below B w w' :=
  (placeTelling_fr B N A x w hS hn hn' hl hw hsp).mono fun _ _ ⟨A', h1, h2, h3, _⟩ => ⟨A', h1, h2, h3⟩
end Go.Proofs.Ytbhdjcggcgddfaa
namespace Go.Proofs.Ytbhdjcggcgddfaa
open Go.RowKit Pl Il

def gV (p : Int × Bool) : Value := .agg #[.int .i64 p.1, .bool p.2]

/-- A new row in block g: its first k places hold ts's. -/
structure FillG (w : World) (g n : Nat) (ts : List (Int × Bool)) (k : Nat) (wr : World) : Prop where
  below : Below w.heap.size w wr
  ge : w.heap.size ≤ g
  lt : g < wr.heap.size
  cells : ∀ j, j < n → ∃ v0 v1, wr.cell? ⟨g, j * 2, none⟩ = some v0 ∧ wr.cell? ⟨g, j * 2 + 1, none⟩ = some v1 ∧ (j < k → v0 = .int .i64 (gg ts j).1 ∧ v1 = .bool (gg ts j).2)
  fr : ∀ j, wr.frozen? ⟨g, j, none⟩ = false
theorem FillG.keep {w : World} {g n : Nat} {ts : List (Int × Bool)} {k : Nat} {wr u : World} (h : FillG w g n ts k wr) (hb : Below wr.heap.size wr u) : FillG w g n ts k u where
  below := bl_trans h.below hb
  ge := h.ge
  lt := Nat.lt_of_lt_of_le h.lt hb.size
  cells := fun j hj => by
    obtain ⟨v0, v1, h0, h1, hk⟩ := h.cells j hj
    exact ⟨v0, v1, by rw [hb.cell (p := ⟨g, j * 2, none⟩) h.lt]; exact h0, by rw [hb.cell (p := ⟨g, j * 2 + 1, none⟩) h.lt]; exact h1, hk⟩
  fr := fun j => by rw [hb.frozen (p := ⟨g, j, none⟩) h.lt]; exact h.fr j
theorem FillG.step {w : World} {g n : Nat} {ts : List (Int × Bool)} {k : Nat} {wr : World} (h : FillG w g n ts k wr) (p : Int × Bool) (hp : gg ts k = p) : FillG w g n ts (k + 1) ((wr.setCell ⟨g, k * 2, none⟩ (.int .i64 p.1)).setCell ⟨g, k * 2 + 1, none⟩ (.bool p.2)) where
  below := (h.below.setCell (p := ⟨g, k * 2, none⟩) h.ge _).setCell (p := ⟨g, k * 2 + 1, none⟩) h.ge _
  ge := h.ge
  lt := by simpa using h.lt
  cells := fun j hj => by
    obtain ⟨v0, v1, h0, h1, hk⟩ := h.cells j hj
    by_cases e : j = k
    · subst e
      have h1' : (wr.setCell ⟨g, j * 2, none⟩ (.int .i64 p.1)).cell? ⟨g, j * 2 + 1, none⟩ = some v1 := by
        rw [World.cell?_setCell_other _ _ _ _ (by intro e'; injection e' with _ e2; omega)]; exact h1
      refine ⟨_, _, ?_, World.cell?_setCell_same _ _ _ h1', fun _ => by rw [hp]; exact ⟨rfl, rfl⟩⟩
      rw [World.cell?_setCell_other _ _ _ _ (by intro e'; injection e' with _ e2; omega)]
      exact World.cell?_setCell_same _ _ _ h0
    · refine ⟨v0, v1, ?_, ?_, fun hlt => hk (by omega)⟩
      · rw [World.cell?_setCell_other _ _ _ _ (by intro e'; injection e' with _ e2; omega), World.cell?_setCell_other _ _ _ _ (by intro e'; injection e' with _ e2; omega)]; exact h0
      · rw [World.cell?_setCell_other _ _ _ _ (by intro e'; injection e' with _ e2; omega), World.cell?_setCell_other _ _ _ _ (by intro e'; injection e' with _ e2; omega)]; exact h1
  fr := fun j => by simpa using h.fr j
theorem FillG.own {w : World} {g n : Nat} {ts : List (Int × Bool)} {wr : World} (h : FillG w g n ts n wr) (hl : ts.length = n) : OwnG w.heap.size wr (some ⟨g, 0, none⟩) n ts :=
  ⟨⟨hl, .inr ⟨g, 0, rfl, h.lt, fun i hi => by obtain ⟨v0, v1, h0, h1, hk⟩ := h.cells i hi; rw [Nat.zero_add, h0, h1, (hk hi).1, (hk hi).2]; exact ⟨rfl, rfl⟩⟩⟩, .inr ⟨g, 0, rfl, h.ge, h.fr⟩⟩
theorem FillG.start (w : World) (n : Nat) (ts : List (Int × Bool)) (t : TypeId) (z : Array Value) : FillG w w.heap.size n ts 0 (w.alloc (.cells (madeCells z (n * 2)) t)) where
  below := bl_alloc (Below.refl _ _) _
  ge := Nat.le_refl _
  lt := by simp
  cells := fun j hj => by
    rw [World.cell?_alloc_new, World.cell?_alloc_new]
    exact ⟨(madeCells z (n * 2))[j * 2]'(by rw [size_madeCells]; omega), (madeCells z (n * 2))[j * 2 + 1]'(by rw [size_madeCells]; omega), by rw [Array.getElem?_eq_getElem], by rw [Array.getElem?_eq_getElem], fun h => by omega⟩
  fr := fun j => by simp [go_sem]
theorem infoG : (Try.prog.info? 44).map (fun i => (i.zero, i.size, i.bytes)) = some (some (.agg #[.int .i64 0, .bool false]), 2, 16) := by kernel_rfl
theorem make_grs (n : Nat) (hn : n ≤ 2097152) (w : World) : (Instr.makeSlice 25 (.int .i64 (n : Int)) (.int .i64 (n : Int))).run Try.prog w = .ok (.slice (some ⟨w.heap.size, 0, none⟩) n n) (w.alloc (.cells (madeCells (Value.agg #[.int .i64 0, .bool false]).cells (n * 2)) 44)) := by
  obtain ⟨i, hi, hz0, hz1, hz2⟩ := info_parts infoG
  have := run_make (P := Try.prog) w 25 44 i (.agg #[.int .i64 0, .bool false]) Try.underlying25 hi hz0 .i64 .i64 (n : Int) (n : Int) (by omega) (by omega) (by rw [hz2]; omega) (by omega)
  rw [hz1] at this
  simpa using this



/-- Are the two lists the same? -/
def eqGL (xs ys : List (Int × Bool)) : Bool := decide (xs = ys)
theorem eqG_step {xs ys : List (Int × Bool)} {k : Nat} (hk : k < xs.length) (hk' : k < ys.length) (h : xs.take k = ys.take k) (he : gg xs k = gg ys k) : xs.take (k + 1) = ys.take (k + 1) := by
  rw [take_gg hk, take_gg hk', h, he]
theorem eqG_no {xs ys : List (Int × Bool)} {k : Nat} (he : ¬ gg xs k = gg ys k) : eqGL xs ys = false := by
  unfold eqGL
  rw [decide_eq_false_iff_not]
  rintro rfl
  exact he rfl
theorem eqG_len {xs ys : List (Int × Bool)} (hl : ¬ xs.length = ys.length) : eqGL xs ys = false := by
  unfold eqGL
  rw [decide_eq_false_iff_not]
  rintro rfl
  exact hl rfl
theorem eqG_end {xs ys : List (Int × Bool)} {k : Nat} (hl : xs.length = ys.length) (hk : xs.length ≤ k) (h : xs.take k = ys.take k) : eqGL xs ys = true := by
  rw [List.take_of_length_le hk, List.take_of_length_le (by omega)] at h
  simp [eqGL, h]

abbrev EqS (b o b' o' : Nat) (x y : Int × Bool) (w0 w : World) : Prop :=
  w.cell? ⟨b, o, none⟩ = some (.int .i64 x.1) ∧ w.cell? ⟨b, o + 1, none⟩ = some (.bool x.2) ∧ w.cell? ⟨b', o', none⟩ = some (.int .i64 y.1) ∧ w.cell? ⟨b', o' + 1, none⟩ = some (.bool y.2) ∧ Below w0.heap.size w0 w
theorem cellK {w w' : World} {a : Addr} {v : Value} (h : w.cell? a = some v) (hb : Below w.heap.size w w') : w'.cell? a = some v := by
  rw [hb.cell (p := a) (World.block_lt_of_cell? w a h)]; exact h
theorem EqS.keep {b o b' o' : Nat} {x y : Int × Bool} {w0 w w' : World} (h : EqS b o b' o' x y w0 w) (q : Below w.heap.size w w') : EqS b o b' o' x y w0 w' :=
  ⟨cellK h.1 q, cellK h.2.1 q, cellK h.2.2.1 q, cellK h.2.2.2.1 q, bl_trans h.2.2.2.2 q⟩
theorem EqS.drew {b o b' o' : Nat} {x y : Int × Bool} {w0 w : World} (h : EqS b o b' o' x y w0 w) : EqS b o b' o' x y w0 w.drew := h.keep (Below.refl _ _).drew

end Go.Proofs.Ytbhdjcggcgddfaa
namespace Go.Proofs.Ytbhdjcggcgddfaa
open Go.RowKit Pl Il

theorem szIntS_any (a : Option Addr) (n cap : Nat) (k : Int) (w : World) (hn : n ≤ 9223372036854775807) (k0 : 0 ≤ k) (k1 : k ≤ 1048576) :
    Calls Try.prog 119 #[.slice a n cap, .int .i64 k] w fun e w' => e = .returned (.int .i64 (if k < (n : Int) then -1 else k - (n : Int))) ∧ w' = w := by
  by_cases h : k < (n : Int)
  · have h' : k - (n : Int) < 0 := by omega
    go_enter Try.func119, Try.ntmps119
    go_wp2
    go_ret
    refine ⟨rint ?_, rfl⟩
    simp
  · have h' : ¬ k - (n : Int) < 0 := by omega
    go_enter Try.func119, Try.ntmps119
    go_wp2
    go_ret
    refine ⟨rint ?_, rfl⟩
    simp
theorem bl_set1 {B : Nat} {w u : World} (h : Below B w u) (N o : Nat) (hN : B ≤ N) (y : Value) : Below B w (u.setCell ⟨N, o, none⟩ y) := h.setCell (p := ⟨N, o, none⟩) hN y
theorem eqIL_self (xs : List Int) : eqL xs xs = true := by simp [eqL]
/-- Which blocks a marking of two lists may have turned: those of its two lists. -/
structure Turned (a : Option Addr) (n : Nat) (a' : Option Addr) (n' : Nat) (w w' : World) : Prop where
  os : w'.os = w.os
  tape : w'.tape = w.tape
  output : w'.output = w.output
  size : w.heap.size ≤ w'.heap.size
  block : ∀ k, k < w.heap.size → (∀ off, 0 < n → a ≠ some ⟨k, off, none⟩) → (∀ off, 0 < n' → a' ≠ some ⟨k, off, none⟩) → w'.heap[k]? = w.heap[k]?
theorem Turned.below {a : Option Addr} {n : Nat} {a' : Option Addr} {n' : Nat} {w w' : World} {B : Nat} (h : Turned a n a' n' w w') (hB : B ≤ w.heap.size) (h1 : n = 0 ∨ ∀ b off, a = some ⟨b, off, none⟩ → B ≤ b) (h2 : n' = 0 ∨ ∀ b off, a' = some ⟨b, off, none⟩ → B ≤ b) : Below B w w' :=
  ⟨h.os, h.tape, h.output, h.size, fun k hk => h.block k (by omega)
    (fun off hp e => by rcases h1 with h1 | h1; · omega
                        · have := h1 _ _ e; omega)
    (fun off hp e => by rcases h2 with h2 | h2; · omega
                        · have := h2 _ _ e; omega)⟩

theorem Il.OwnAt.turned {B : Nat} {w w' : World} {a : Option Addr} {n : Nat} {xs : List Int} {a1 : Option Addr} {n1 : Nat} {a2 : Option Addr} {n2 : Nat} (h : Il.OwnAt B w a n xs) (ht : Turned a1 n1 a2 n2 w w')
    (h1 : n1 = 0 ∨ ∀ b off, a1 = some ⟨b, off, none⟩ → b < B) (h2 : n2 = 0 ∨ ∀ b off, a2 = some ⟨b, off, none⟩ → b < B) : Il.OwnAt B w' a n xs := by
  obtain ⟨⟨hl, hr⟩, ho⟩ := h
  rcases hr with h0 | ⟨b1, off, rfl, hlt, hc⟩
  · exact ⟨⟨hl, .inl h0⟩, .inl h0⟩
  · rcases ho with h0 | ⟨b', off', e, hB, hf⟩
    · exact ⟨⟨hl, .inl h0⟩, .inl h0⟩
    · cases e
      have key : w'.heap[b1]? = w.heap[b1]? := ht.block b1 hlt
        (fun o hp e => by rcases h1 with h1 | h1; · omega
                          · have := h1 _ _ e; omega)
        (fun o hp e => by rcases h2 with h2 | h2; · omega
                          · have := h2 _ _ e; omega)
      refine ⟨⟨hl, .inr ⟨b1, off, rfl, Nat.lt_of_lt_of_le hlt ht.size, fun i hi => ?_⟩⟩, .inr ⟨b1, off, rfl, hB, fun i hi => ?_⟩⟩
      · rw [← hc i hi]; exact World.cell?_of_block key
      · rw [← hf i hi]; exact World.frozen?_of_block key
theorem span_lt {a : Option Addr} {n B C : Nat} (D : Nat) (h : n = 0 ∨ ∀ b off, a = some ⟨b, off, none⟩ → B ≤ b ∧ b < C) (hD : C ≤ D) : n = 0 ∨ ∀ b off, a = some ⟨b, off, none⟩ → b < D := h.imp id fun h b off e => by have := h b off e; omega
theorem span_ge {a : Option Addr} {n B C : Nat} (D : Nat) (h : n = 0 ∨ ∀ b off, a = some ⟨b, off, none⟩ → B ≤ b ∧ b < C) (hD : D ≤ B) : n = 0 ∨ ∀ b off, a = some ⟨b, off, none⟩ → D ≤ b := h.imp id fun h b off e => by have := h b off e; omega
theorem own_span {B : Nat} {w : World} {a : Option Addr} {n : Nat} {xs : List Int} (h : Il.OwnAt B w a n xs) : n = 0 ∨ ∀ b off, a = some ⟨b, off, none⟩ → B ≤ b ∧ b < w.heap.size := by
  rcases h.own with h0 | ⟨b, off, e, hB, _⟩
  · exact .inl h0
  · rcases h.ints.row with h0 | ⟨b2, off2, e2, hl, _⟩
    · exact .inl h0
    · refine .inr fun b1 o1 e1 => ?_
      rw [e] at e1 e2; cases e1; cases e2; exact ⟨hB, hl⟩
/-- The list at a3 lies apart from the two lists . -/
def Apart3 (a1 : Option Addr) (m1 : Nat) (a2 : Option Addr) (m2 : Nat) (a3 : Option Addr) (m3 : Nat) : Prop :=
  m3 = 0 ∨ ∀ b3 off3, a3 = some ⟨b3, off3, none⟩ → (m1 = 0 ∨ ∀ b off, a1 = some ⟨b, off, none⟩ → b3 ≠ b) ∧ (m2 = 0 ∨ ∀ b off, a2 = some ⟨b, off, none⟩ → b3 ≠ b)
theorem Il.OwnAt.turned2 {B : Nat} {w w' : World} {a : Option Addr} {n : Nat} {xs : List Int} {a1 : Option Addr} {n1 : Nat} {a2 : Option Addr} {n2 : Nat} (h : Il.OwnAt B w a n xs) (ht : Turned a1 n1 a2 n2 w w') (hap : Apart3 a1 n1 a2 n2 a n) : Il.OwnAt B w' a n xs := by
  obtain ⟨⟨hl, hr⟩, ho⟩ := h
  rcases hr with h0 | ⟨b1, off, rfl, hlt, hc⟩
  · exact ⟨⟨hl, .inl h0⟩, .inl h0⟩
  · rcases ho with h0 | ⟨b', off', e, hB, hf⟩
    · exact ⟨⟨hl, .inl h0⟩, .inl h0⟩
    · cases e
      rcases hap with h0 | hap
      · exact ⟨⟨hl, .inl h0⟩, .inl h0⟩
      · obtain ⟨h1, h2⟩ := hap b1 off rfl
        have key : w'.heap[b1]? = w.heap[b1]? := ht.block b1 hlt
          (fun o hp e => by rcases h1 with h1 | h1; · omega
                            · exact h1 _ _ e rfl)
          (fun o hp e => by rcases h2 with h2 | h2; · omega
                            · exact h2 _ _ e rfl)
        refine ⟨⟨hl, .inr ⟨b1, off, rfl, Nat.lt_of_lt_of_le hlt ht.size, fun i hi => ?_⟩⟩, .inr ⟨b1, off, rfl, hB, fun i hi => ?_⟩⟩
        · rw [← hc i hi]; exact World.cell?_of_block key
        · rw [← hf i hi]; exact World.frozen?_of_block key
/-- What marking a list of numbers may have turned. -/
abbrev Listed (a : Option Addr) (n : Nat) (w w' : World) : Prop := n = 0 ∧ w' = w ∨ 0 < n ∧ ∃ b off, a = some ⟨b, off, none⟩ ∧ w.grownBy w' (some b)
theorem below_listed {B : Nat} {w w' : World} {a3 : Option Addr} {n3 : Nat} (hl : Listed a3 n3 w w') (hB : B ≤ w.heap.size) (hs : n3 = 0 ∨ ∀ b off, a3 = some ⟨b, off, none⟩ → B ≤ b) : Below B w w' := by
  rcases hl with ⟨_, rfl⟩ | ⟨hp, b, off, rfl, hg⟩
  · exact Below.refl _ _
  · rcases hs with h0 | hs
    · omega
    · exact (Below.refl _ _).grown hg hB (fun j hj => by cases hj; exact hs _ _ rfl)
theorem mark_nn5 (n m : Nat) : ¬ (1 : Int) + (n : Int) + (m : Int) < 0 := by omega
theorem mark_nn4 (n m l : Nat) : ¬ (1 : Int) + (n : Int) + (m : Int) + (l : Int) < 0 := by omega
end Go.Proofs.Ytbhdjcggcgddfaa
namespace Go.Proofs.Ytbhdjcggcgddfaa
open Go.RowKit Pl Il

theorem bl_set6 {B : Nat} {w u : World} (h : Below B w u) (N : Nat) (hN : B ≤ N) (y0 y1 y2 y3 y4 y5 : Value) :
    Below B w ((((((u.setCell ⟨N, 0, none⟩ y0).setCell ⟨N, 1, none⟩ y1).setCell ⟨N, 2, none⟩ y2).setCell ⟨N, 3, none⟩ y3).setCell ⟨N, 4, none⟩ y4).setCell ⟨N, 5, none⟩ y5) :=
  bl_set1 (bl_set1 (bl_set1 (bl_set1 (bl_set1 (bl_set1 h N 0 hN y0) N 1 hN y1) N 2 hN y2) N 3 hN y3) N 4 hN y4) N 5 hN y5
theorem NOwn.far6 {B : Nat} {w : World} {A : Na} {x : Nt} (h : NOwn B w A x) (N : Nat) (hN : N < B) (y0 y1 y2 y3 y4 y5 : Value) :
    NOwn B ((((((w.setCell ⟨N, 0, none⟩ y0).setCell ⟨N, 1, none⟩ y1).setCell ⟨N, 2, none⟩ y2).setCell ⟨N, 3, none⟩ y3).setCell ⟨N, 4, none⟩ y4).setCell ⟨N, 5, none⟩ y5) A x :=
  (((((h.far N 0 hN y0).far N 1 hN y1).far N 2 hN y2).far N 3 hN y3).far N 4 hN y4).far N 5 hN y5


theorem eqGL_self (xs : List (Int × Bool)) : eqGL xs xs = true := by simp [eqGL]
/-- Are the two the same? -/
def sameN (x y : Nt) : Bool := decide (x.pm = y.pm) && eqL x.ln y.ln && eqGL x.gs y.gs && decide (x.on = y.on) && decide (x.sp = y.sp) && decide (x.tk = y.tk)
theorem sameN_self (x : Nt) : sameN x x = true := by simp [sameN, eqIL_self, eqGL_self]
end Go.Proofs.Ytbhdjcggcgddfaa
namespace Go.Proofs.Ytbhdjcggcgddfaa
open Go.RowKit Pl Il


/-- Marks for grants: k, k + 1 and so on, two a grant. -/
def marksG (k : Int) (n : Nat) : List (Int × Bool) := (List.range n).map fun (i : Nat) => (k + 2 * (i : Int), (k + 2 * (i : Int) + 1) % 3 == 0)
theorem marksG_len (k : Int) (n : Nat) : (marksG k n).length = n := by simp [marksG]
theorem marksG_get {k : Int} {n j : Nat} (h : j < n) : gg (marksG k n) j = (k + 2 * (j : Int), (k + 2 * (j : Int) + 1) % 3 == 0) := by
  simp [marksG, gg, List.getD, List.getElem?_map, List.getElem?_range h]
/-- Marks are written into a row, place by place. -/
structure MarkG (w : World) (b off n : Nat) (k : Int) (m : Nat) (wr : World) : Prop where
  ex : w.grownBy wr (some b)
  lt : b < wr.heap.size
  cells : ∀ j, j < n → ∃ v0 v1, wr.cell? ⟨b, off + j * 2, none⟩ = some v0 ∧ wr.cell? ⟨b, off + j * 2 + 1, none⟩ = some v1 ∧ (j < m → v0 = .int .i64 (k + 2 * (j : Int)) ∧ v1 = .bool ((k + 2 * (j : Int) + 1) % 3 == 0))
  fr : ∀ j, wr.frozen? ⟨b, j, none⟩ = false
theorem grownS {w w' : World} {b : Nat} (h : w.grownBy w' (some b)) (o : Nat) (x : Value) : w.grownBy (w'.setCell ⟨b, o, none⟩ x) (some b) :=
  ⟨h.os, h.tape, h.output, by simpa using h.size, fun k hk hne => by
    rw [Below.heap_setCell w' ⟨b, o, none⟩ x k (by rintro rfl; exact hne rfl)]
    exact h.block k hk hne⟩
theorem MarkG.step {w : World} {b off n : Nat} {k : Int} {m : Nat} {wr : World} (h : MarkG w b off n k m wr) : MarkG w b off n k (m + 1) ((wr.setCell ⟨b, off + m * 2, none⟩ (.int .i64 (k + 2 * (m : Int)))).setCell ⟨b, off + m * 2 + 1, none⟩ (.bool ((k + 2 * (m : Int) + 1) % 3 == 0))) where
  ex := grownS (grownS h.ex _ _) _ _
  lt := by simpa using h.lt
  cells := fun j hj => by
    obtain ⟨v0, v1, h0, h1, hk⟩ := h.cells j hj
    by_cases e : j = m
    · subst e
      have h1' : (wr.setCell ⟨b, off + j * 2, none⟩ (.int .i64 (k + 2 * (j : Int)))).cell? ⟨b, off + j * 2 + 1, none⟩ = some v1 := by
        rw [World.cell?_setCell_other _ _ _ _ (by intro e'; injection e' with _ e2; omega)]; exact h1
      refine ⟨_, _, ?_, World.cell?_setCell_same _ _ _ h1', fun _ => ⟨rfl, rfl⟩⟩
      rw [World.cell?_setCell_other _ _ _ _ (by intro e'; injection e' with _ e2; omega)]
      exact World.cell?_setCell_same _ _ _ h0
    · refine ⟨v0, v1, ?_, ?_, fun hlt => hk (by omega)⟩
      · rw [World.cell?_setCell_other _ _ _ _ (by intro e'; injection e' with _ e2; omega), World.cell?_setCell_other _ _ _ _ (by intro e'; injection e' with _ e2; omega)]; exact h0
      · rw [World.cell?_setCell_other _ _ _ _ (by intro e'; injection e' with _ e2; omega), World.cell?_setCell_other _ _ _ _ (by intro e'; injection e' with _ e2; omega)]; exact h1
  fr := fun j => by simpa using h.fr j
/-- What a marking leaves. -/
def TurnG (a : Option Addr) (n : Nat) (w w' : World) : Prop := n = 0 ∧ Below w.heap.size w w' ∨ 0 < n ∧ ∃ b off, a = some ⟨b, off, none⟩ ∧ w.grownBy w' (some b)



end Go.Proofs.Ytbhdjcggcgddfaa
namespace Go.Proofs.Ytbhdjcggcgddfaa
open Go.RowKit Pl Il

/-- A notification whose lists hold marks. -/
def markN (k : Int) (A : Na) : Nt := { Nt.zero with ln := marks k A.n, gs := marksG (k + (A.n : Int)) A.n' }

theorem OwnG.turned {B : Nat} {w w' : World} {a : Option Addr} {n : Nat} {xs : List (Int × Bool)} {a1 : Option Addr} {n1 : Nat} {a2 : Option Addr} {n2 : Nat} (h : OwnG B w a n xs) (ht : Turned a1 n1 a2 n2 w w')
    (h1 : n1 = 0 ∨ ∀ b off, a1 = some ⟨b, off, none⟩ → b < B) (h2 : n2 = 0 ∨ ∀ b off, a2 = some ⟨b, off, none⟩ → b < B) : OwnG B w' a n xs := by
  obtain ⟨⟨hl, hr⟩, ho⟩ := h
  rcases hr with h0 | ⟨b1, off, rfl, hlt, hc⟩
  · exact ⟨⟨hl, .inl h0⟩, .inl h0⟩
  · rcases ho with h0 | ⟨b', off', e, hB, hf⟩
    · exact ⟨⟨hl, .inl h0⟩, .inl h0⟩
    · cases e
      have key : w'.heap[b1]? = w.heap[b1]? := ht.block b1 hlt
        (fun o hp e => by rcases h1 with h1 | h1; · omega
                          · have := h1 _ _ e; omega)
        (fun o hp e => by rcases h2 with h2 | h2; · omega
                          · have := h2 _ _ e; omega)
      refine ⟨⟨hl, .inr ⟨b1, off, rfl, Nat.lt_of_lt_of_le hlt ht.size, fun i hi => ?_⟩⟩, .inr ⟨b1, off, rfl, hB, fun o => ?_⟩⟩
      · rw [World.cell?_of_block (w := w) (a := ⟨b1, off + i * 2, none⟩) key, World.cell?_of_block (w := w) (a := ⟨b1, off + i * 2 + 1, none⟩) key]; exact hc i hi
      · rw [← hf o]; exact World.frozen?_of_block key
theorem NOwn.turned {B : Nat} {w w' : World} {A : Na} {x : Nt} {a1 : Option Addr} {n1 : Nat} {a2 : Option Addr} {n2 : Nat} (h : NOwn B w A x) (ht : Turned a1 n1 a2 n2 w w')
    (h1 : n1 = 0 ∨ ∀ b off, a1 = some ⟨b, off, none⟩ → b < B) (h2 : n2 = 0 ∨ ∀ b off, a2 = some ⟨b, off, none⟩ → b < B) : NOwn B w' A x := ⟨h.one.turned ht h1 h2, h.two.turned ht h1 h2, h.apart⟩
theorem NBox.turned {N : Nat} {A : Na} {x : Nt} {w u : World} {a1 : Option Addr} {n1 : Nat} {a2 : Option Addr} {n2 : Nat} (h : NBox N A x w) (ht : Turned a1 n1 a2 n2 w u)
    (h1 : n1 = 0 ∨ ∀ b off, a1 = some ⟨b, off, none⟩ → b < N) (h2 : n2 = 0 ∨ ∀ b off, a2 = some ⟨b, off, none⟩ → b < N) : NBox N A x u :=
  h.of_block (ht.block N h.lt
    (fun o hp e => by rcases h1 with h1 | h1; · omega
                      · have := h1 _ _ e; omega)
    (fun o hp e => by rcases h2 with h2 | h2; · omega
                      · have := h2 _ _ e; omega)) (Nat.lt_of_lt_of_le h.lt ht.size)
theorem NOwn.spans {B : Nat} {w : World} {A : Na} {x : Nt} (h : NOwn B w A x) : (A.n = 0 ∨ ∀ b off, A.a = some ⟨b, off, none⟩ → B ≤ b ∧ b < w.heap.size) ∧ (A.n' = 0 ∨ ∀ b off, A.a' = some ⟨b, off, none⟩ → B ≤ b ∧ b < w.heap.size) := by
  constructor
  · rcases h.one.ints.row with h0 | ⟨b, off, e1, hlt, _⟩
    · exact .inl h0
    · rcases h.one.own with h0 | ⟨b', off', e, hB, _⟩
      · exact .inl h0
      · rw [e1] at e; cases e
        exact .inr fun b1 o1 e => by rw [e1] at e; cases e; exact ⟨hB, hlt⟩
  · rcases h.two.gr.row with h0 | ⟨b, off, e1, hlt, _⟩
    · exact .inl h0
    · rcases h.two.own with h0 | ⟨b', off', e, hB, _⟩
      · exact .inl h0
      · rw [e1] at e; cases e
        exact .inr fun b1 o1 e => by rw [e1] at e; cases e; exact ⟨hB, hlt⟩
theorem mark_nn3 (n n' : Nat) : ¬ 1 + (n : Int) + 2 * (n' : Int) < 0 := by omega
end Go.Proofs.Ytbhdjcggcgddfaa
namespace Go.Proofs.Ytbhdjcggcgddfaa
open Go.RowKit Pl Il

/-- A notification is handed back, and more. -/
def NOutP (w : World) (y : Nt) (r : List Value) (e : Ending) (w' : World) : Prop :=
  ∃ A' : Na, e = .returned (.tuple (#[.agg #[.bool y.pm, .slice A'.a A'.n A'.c, .slice A'.a' A'.n' A'.c', .int .i64 y.on, .int .i64 y.sp, .int .i64 y.tk]] ++ r.toArray)) ∧ NOwn w.heap.size w' A' y ∧ A'.n ≤ A'.c ∧ Below w.heap.size w w'
/-- It is handed back, a list apart from it, and a number. -/
def NOutT (w : World) (y : Nt) (l : List Int) (r : Int) (e : Ending) (w' : World) : Prop :=
  ∃ (A' : Na) (a : Option Addr) (m c : Nat), e = .returned (.tuple #[.agg #[.bool y.pm, .slice A'.a A'.n A'.c, .slice A'.a' A'.n' A'.c', .int .i64 y.on, .int .i64 y.sp, .int .i64 y.tk], .slice a m c, .int .i64 r]) ∧ NOwn w.heap.size w' A' y ∧ A'.n ≤ A'.c ∧ Il.OwnAt w.heap.size w' a m l ∧ Apart3 A'.a A'.n A'.a' A'.n' a m ∧ Below w.heap.size w w'
theorem NOwn.listed {B : Nat} {w w' : World} {A : Na} {x : Nt} {a3 : Option Addr} {n3 : Nat} (h : NOwn B w A x) (hl : Listed a3 n3 w w') (hap : Apart3 A.a A.n A.a' A.n' a3 n3) : NOwn B w' A x := by
  rcases hl with ⟨_, rfl⟩ | ⟨hp, b, off, rfl, hg⟩
  · exact h
  · rcases hap with h0 | hap
    · omega
    · obtain ⟨h1, h2⟩ := hap b off rfl
      exact ⟨h.one.other hg h1, h.two.other hg h2, h.apart⟩
theorem NBox.listed {N : Nat} {A : Na} {x : Nt} {w w' : World} {a3 : Option Addr} {n3 : Nat} (h : NBox N A x w) (hl : Listed a3 n3 w w') (hs : n3 = 0 ∨ ∀ b off, a3 = some ⟨b, off, none⟩ → b < N) : NBox N A x w' := by
  rcases hl with ⟨_, rfl⟩ | ⟨hp, b, off, rfl, hg⟩
  · exact h
  · rcases hs with h0 | hs
    · omega
    · have := hs b off rfl
      exact h.grownO hg (by intro e; cases e; omega)
theorem mark_nn6 (n m l : Nat) : ¬ (1 : Int) + (n : Int) + 2 * (m : Int) + (l : Int) < 0 := by omega
end Go.Proofs.Ytbhdjcggcgddfaa
