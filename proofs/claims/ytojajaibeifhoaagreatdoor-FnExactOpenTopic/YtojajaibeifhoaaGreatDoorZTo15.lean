/-
  Walk of the law on RingOk, out of the contracts of the specification's and the program's.
  Slices of topics in memory: nine cells each, a name and a ring's eight; what they read as.
  Walks of what copies a list of terms.
  Rows of messages, terms and subscribers: appended to; what they read as.
  Walks of the specification's lines: who joins, who leaves, who is woken.
  Walks of the specification's lines: who is woken.
  The plain mathematics of a queue whose places stand in a map (no program in it).
  The program's queue in memory, and walks of its small methods.
  Walks of the program's queue: who joins.
  Walks of the program's queue: made of a list, and looked at.
  Walks of the program's queue: who stands.
-/
import Derived.Test.YtojajaibeifhoaaGreatDoorZTo9
import Derived.Test.YtojajaibeifhoaaGreatDoorZTo14
import Derived.Deep.RegionHeld3
import Derived.Test.YtojajaibeifhoaaGreatDoorZTo3
import Derived.Test.YtojajaibeifhoaaGreatDoorZTo8
import Derived.Deep.Upon
import Derived.Test.YtojajaibeifhoaaGreatDoorZTo11
import Derived.Maps.OwnSet
namespace Go.Proofs.YtojajaibeifhoaaGreatDoor
open Go.RowKit Pl Il

/-- What is asked of the specification's, and of the program's. -/
def SpecRingOk (f : Rv → Bool) : Prop := ∀ (M : Rm) (v : Rv) (w : World), RIn w M v → RLe M 1048576 → RCap M → RWf v →
  Calls Tryz.prog 58 #[.agg #[.int .i64 v.cp, .int .i64 v.se, .slice M.ia M.i M.ic, .int .i64 v.nx, .slice M.sa M.s M.sc, .slice M.la M.l M.lc, .slice M.ga M.g M.gc, .bool v.cl]] w fun e w' => e = .returned (.bool (f v)) ∧ Below w.heap.size w w'
def ImplRingOk (f : Rv → Bool) : Prop := ∀ (M : Rm) (v : Rv) (w : World), RIn w M v → RLe M 1048576 → RCap M → RWf v →
  Calls Tryz.prog 52 #[.agg #[.int .i64 v.cp, .int .i64 v.se, .slice M.ia M.i M.ic, .int .i64 v.nx, .slice M.sa M.s M.sc, .slice M.la M.l M.lc, .slice M.ga M.g M.gc, .bool v.cl]] w fun e w' => e = .returned (.bool (f v)) ∧ Below w.heap.size w w'
/-- What the law holds on to: the argument's variable and its own copy's. -/
structure LawR (w : World) (N : Nat) (M M' : Rm) (v : Rv) (u : World) : Prop where
  arg : BoxL w.heap.size (rC M v) u
  own : BoxL N (rC M' v) u
  cop : RIn u M' v
  below : Below w.heap.size w u
theorem LawR.keep {w : World} {N : Nat} {M M' : Rm} {v : Rv} {u u' : World} (h : LawR w N M M' v u) (hb : Below u.heap.size u u') : LawR w N M M' v u' := ⟨h.arg.keep hb, h.own.keep hb, h.cop.keep hb, bl_trans h.below hb⟩
abbrev LawRS (w : World) (N : Nat) (M M' : Rm) (v : Rv) (u : World) : Prop :=
  u.cell? ⟨w.heap.size, 0, none⟩ = some (.int .i64 v.cp) ∧ u.cell? ⟨w.heap.size, 1, none⟩ = some (.int .i64 v.se) ∧ u.cell? ⟨w.heap.size, 2, none⟩ = some (.slice M.ia M.i M.ic) ∧ u.cell? ⟨w.heap.size, 3, none⟩ = some (.int .i64 v.nx) ∧ u.cell? ⟨w.heap.size, 4, none⟩ = some (.slice M.sa M.s M.sc) ∧ u.cell? ⟨w.heap.size, 5, none⟩ = some (.slice M.la M.l M.lc) ∧ u.cell? ⟨w.heap.size, 6, none⟩ = some (.slice M.ga M.g M.gc) ∧ u.cell? ⟨w.heap.size, 7, none⟩ = some (.bool v.cl) ∧ u.cell? ⟨N, 0, none⟩ = some (.int .i64 v.cp) ∧ u.cell? ⟨N, 1, none⟩ = some (.int .i64 v.se) ∧ u.cell? ⟨N, 2, none⟩ = some (.slice M'.ia M'.i M'.ic) ∧ u.cell? ⟨N, 3, none⟩ = some (.int .i64 v.nx) ∧ u.cell? ⟨N, 4, none⟩ = some (.slice M'.sa M'.s M'.sc) ∧ u.cell? ⟨N, 5, none⟩ = some (.slice M'.la M'.l M'.lc) ∧ u.cell? ⟨N, 6, none⟩ = some (.slice M'.ga M'.g M'.gc) ∧ u.cell? ⟨N, 7, none⟩ = some (.bool v.cl) ∧ LawR w N M M' v u
theorem LawR.s {w : World} {N : Nat} {M M' : Rm} {v : Rv} {u : World} (h : LawR w N M M' v u) : LawRS w N M M' v u :=
  ⟨h.arg.cs 0 (by simp), h.arg.cs 1 (by simp), h.arg.cs 2 (by simp), h.arg.cs 3 (by simp), h.arg.cs 4 (by simp), h.arg.cs 5 (by simp), h.arg.cs 6 (by simp), h.arg.cs 7 (by simp), h.own.cs 0 (by simp), h.own.cs 1 (by simp), h.own.cs 2 (by simp), h.own.cs 3 (by simp), h.own.cs 4 (by simp), h.own.cs 5 (by simp), h.own.cs 6 (by simp), h.own.cs 7 (by simp), h⟩
theorem LawRS.law {w : World} {N : Nat} {M M' : Rm} {v : Rv} {u : World} (h : LawRS w N M M' v u) : LawR w N M M' v u := h.2.2.2.2.2.2.2.2.2.2.2.2.2.2.2.2
theorem LawRS.keep {w : World} {N : Nat} {M M' : Rm} {v : Rv} {u u' : World} (h : LawRS w N M M' v u) (hb : Below u.heap.size u u') : LawRS w N M M' v u' := (h.law.keep hb).s
theorem LawRS.drew {w : World} {N : Nat} {M M' : Rm} {v : Rv} {u : World} (h : LawRS w N M M' v u) : LawRS w N M M' v u.drew := h.keep (Below.refl _ _).drew
end Go.Proofs.YtojajaibeifhoaaGreatDoor
namespace Go.Proofs.YtojajaibeifhoaaGreatDoor
open Go.RowKit Pl Il

/-- A topic in memory: its name, its ring, and where the ring's lists lie. -/
structure Ta where
  nm : ByteArray
  M : Rm
  v : Rv
def Rm0 : Rm := ⟨none, 0, 0, none, 0, 0, [], none, 0, 0, none, 0, 0⟩
def Rv0 : Rv := ⟨0, 0, [], 0, [], [], [], false⟩
def Ta.zero : Ta := ⟨⟨#[]⟩, Rm0, Rv0⟩
def tg (xs : List Ta) (i : Nat) : Ta := xs.getD i Ta.zero
abbrev tC (x : Ta) : List Value := [.string x.nm, .int .i64 x.v.cp, .int .i64 x.v.se, .slice x.M.ia x.M.i x.M.ic, .int .i64 x.v.nx, .slice x.M.sa x.M.s x.M.sc, .slice x.M.la x.M.l x.M.lc, .slice x.M.ga x.M.g x.M.gc, .bool x.v.cl]
theorem tg_eq {l : List Ta} {i : Nat} (h : i < l.length) : tg l i = l[i] := by unfold tg; rw [List.getD_eq_getElem?_getD, List.getElem?_eq_getElem h]; rfl
theorem tg_mem {l : List Ta} {k : Nat} (h : k < l.length) : tg l k ∈ l := by rw [tg_eq h]; exact List.getElem_mem h
theorem tg_append_left {l m : List Ta} {i : Nat} (h : i < l.length) : tg (l ++ m) i = tg l i := by
  rw [tg_eq (by simp; omega), tg_eq h, List.getElem_append_left h]
theorem tg_snoc (l : List Ta) (x : Ta) : tg (l ++ [x]) l.length = x := by rw [tg_eq (by simp)]; simp
/-- The nine cells of one. -/
structure TCell (w : World) (b o : Nat) (x : Ta) : Prop where
  c0 : w.cell? ⟨b, o, none⟩ = some (.string x.nm)
  c1 : w.cell? ⟨b, o + 1, none⟩ = some (.int .i64 x.v.cp)
  c2 : w.cell? ⟨b, o + 2, none⟩ = some (.int .i64 x.v.se)
  c3 : w.cell? ⟨b, o + 3, none⟩ = some (.slice x.M.ia x.M.i x.M.ic)
  c4 : w.cell? ⟨b, o + 4, none⟩ = some (.int .i64 x.v.nx)
  c5 : w.cell? ⟨b, o + 5, none⟩ = some (.slice x.M.sa x.M.s x.M.sc)
  c6 : w.cell? ⟨b, o + 6, none⟩ = some (.slice x.M.la x.M.l x.M.lc)
  c7 : w.cell? ⟨b, o + 7, none⟩ = some (.slice x.M.ga x.M.g x.M.gc)
  c8 : w.cell? ⟨b, o + 8, none⟩ = some (.bool x.v.cl)
theorem TCell.same {w u : World} {b o : Nat} {x : Ta} (h : TCell w b o x) (he : ∀ i, i < 9 → u.cell? ⟨b, o + i, none⟩ = w.cell? ⟨b, o + i, none⟩) : TCell u b o x :=
  ⟨(he 0 (by omega)).trans h.c0, (he 1 (by omega)).trans h.c1, (he 2 (by omega)).trans h.c2, (he 3 (by omega)).trans h.c3, (he 4 (by omega)).trans h.c4, (he 5 (by omega)).trans h.c5, (he 6 (by omega)).trans h.c6, (he 7 (by omega)).trans h.c7, (he 8 (by omega)).trans h.c8⟩
theorem TCell.below {w u : World} {b o B : Nat} {x : Ta} (h : TCell w b o x) (hb : Below B w u) (hB : b < B) : TCell u b o x := h.same fun i _ => hb.cell (p := ⟨b, o + i, none⟩) hB
theorem TCell.ofSet {w : World} {b o : Nat} (x : Ta) (h : ∀ i, i < 9 → ∃ v, w.cell? ⟨b, o + i, none⟩ = some v) : TCell (setL w b o (tC x)) b o x := by
  have k := setL_same (g := b) (vs := tC x) (w := w) (o := o) (fun i hi => h i (by simpa using hi))
  exact ⟨k 0 (by simp), k 1 (by simp), k 2 (by simp), k 3 (by simp), k 4 (by simp), k 5 (by simp), k 6 (by simp), k 7 (by simp), k 8 (by simp)⟩
/-- The slice at a, of n topics, reads as xs in w. -/
structure TopAt (w : World) (a : Option Addr) (n : Nat) (xs : List Ta) : Prop where
  len : xs.length = n
  nms : ∀ x, x ∈ xs → x.nm.size ≤ maxLen
  rin : ∀ x, x ∈ xs → RIn w x.M x.v
  row : n = 0 ∨ ∃ b off, a = some ⟨b, off, none⟩ ∧ b < w.heap.size ∧ ∀ i, i < n → TCell w b (off + i * 9) (tg xs i)
theorem TopAt.keep {w w' : World} {a : Option Addr} {n : Nat} {xs : List Ta} (h : TopAt w a n xs) (hb : Below w.heap.size w w') : TopAt w' a n xs := by
  refine ⟨h.len, h.nms, fun x hx => (h.rin x hx).keep hb, ?_⟩
  rcases h.row with k | ⟨b, off, rfl, hlt, hc⟩
  · exact .inl k
  · exact .inr ⟨b, off, rfl, Nat.lt_of_lt_of_le hlt hb.size, fun i hi => (hc i hi).below hb hlt⟩
theorem TopAt.nil (w : World) (a : Option Addr) : TopAt w a 0 [] := ⟨rfl, fun p hp => (by cases hp), fun p hp => (by cases hp), .inl rfl⟩
/-- What they are, told apart from where they lie. -/
def tvs (xs : List Ta) : List (ByteArray × Rv) := xs.map fun x => (x.nm, x.v)
/-- All their rings' lists are at most k long. -/
def TLe (xs : List Ta) (k : Nat) : Prop := ∀ x, x ∈ xs → RLe x.M k
def TCap (xs : List Ta) : Prop := ∀ x, x ∈ xs → RCap x.M
theorem ROwn.setL {B : Nat} {M : Rm} {v : Rv} (g : Nat) (hg : g < B) : ∀ {vs : List Value} {w : World} {o : Nat}, ROwn B w M v → ROwn B (setL w g o vs) M v
  | [], _, _, h => h
  | x :: vs, w, o, h => by
    show ROwn B (Go.Proofs.YtojajaibeifhoaaGreatDoor.setL (w.setCell ⟨g, o, none⟩ x) g (o + 1) vs) M v
    exact ROwn.setL g hg (h.far g o hg x)
/-- A new row in block g: its first places hold ys. -/
structure FillT (w : World) (g n : Nat) (ys : List Ta) (wr : World) : Prop where
  below : Below w.heap.size w wr
  eq : g = w.heap.size
  lt : g < wr.heap.size
  le : ys.length ≤ n
  cells : ∀ j, j < n → ∀ i, i < 9 → ∃ v, wr.cell? ⟨g, j * 9 + i, none⟩ = some v
  done : ∀ j, j < ys.length → TCell wr g (j * 9) (tg ys j)
  fr : ∀ j, wr.frozen? ⟨g, j, none⟩ = false
  nms : ∀ x, x ∈ ys → x.nm.size ≤ maxLen
  own : ∀ x, x ∈ ys → ROwn (w.heap.size + 1) wr x.M x.v
theorem FillT.keep {w : World} {g n : Nat} {ys : List Ta} {wr u : World} (h : FillT w g n ys wr) (hb : Below wr.heap.size wr u) : FillT w g n ys u where
  below := bl_trans h.below hb
  eq := h.eq
  lt := Nat.lt_of_lt_of_le h.lt hb.size
  le := h.le
  cells := fun j hj i hi => by obtain ⟨v, hv⟩ := h.cells j hj i hi; exact ⟨v, by rw [hb.cell (p := ⟨g, j * 9 + i, none⟩) h.lt]; exact hv⟩
  done := fun j hj => (h.done j hj).below hb h.lt
  fr := fun j => by rw [hb.frozen (p := ⟨g, j, none⟩) h.lt]; exact h.fr j
  nms := h.nms
  own := fun x hx => (h.own x hx).keep hb
/-- One more is laid down. -/
theorem FillT.step {w : World} {g n : Nat} {ys : List Ta} {wr : World} (h : FillT w g n ys wr) (hk : ys.length < n) (x : Ta) (hx : ROwn (w.heap.size + 1) wr x.M x.v) (hn : x.nm.size ≤ maxLen) :
    FillT w g n (ys ++ [x]) (setL wr g (ys.length * 9) (tC x)) where
  below := setL_below (by rw [h.eq]; exact Nat.le_refl _) h.below
  eq := h.eq
  lt := by rw [setL_size]; exact h.lt
  le := by simp; omega
  cells := fun j hj i hi => by
    by_cases e : j = ys.length
    · subst e
      have k := setL_same (g := g) (vs := tC x) (w := wr) (o := ys.length * 9) (fun i hi => h.cells _ hj i (by simpa using hi)) i (by simpa using hi)
      exact ⟨_, k⟩
    · obtain ⟨v, hv⟩ := h.cells j hj i hi
      exact ⟨v, by rw [setL_other (by simp only [tC, List.length_cons, List.length_nil]; omega)]; exact hv⟩
  done := fun j hj => by
    simp only [List.length_append, List.length_singleton] at hj
    by_cases e : j = ys.length
    · subst e
      rw [tg_snoc]
      exact TCell.ofSet x (fun i hi => h.cells _ hk i hi)
    · rw [tg_append_left (by omega)]
      exact (h.done j (by omega)).same fun i hi => setL_other (by simp only [tC, List.length_cons, List.length_nil]; omega)
  fr := fun j => by rw [setL_fr]; exact h.fr j
  nms := fun y hy => by
    rcases List.mem_append.1 hy with hy | hy
    · exact h.nms y hy
    · obtain rfl : y = x := by simpa using hy
      exact hn
  own := fun y hy => by
    have hg : g < w.heap.size + 1 := by rw [h.eq]; omega
    rcases List.mem_append.1 hy with hy | hy
    · exact (h.own y hy).setL g hg
    · obtain rfl : y = x := by simpa using hy
      exact hx.setL g hg
theorem FillT.top {w : World} {g n : Nat} {ys : List Ta} {wr : World} (h : FillT w g n ys wr) (hl : ys.length = n) : TopAt wr (some ⟨g, 0, none⟩) n ys :=
  ⟨hl, h.nms, fun x hx => (h.own x hx).rin, .inr ⟨g, 0, rfl, h.lt, fun i hi => by rw [Nat.zero_add]; exact h.done i (by omega)⟩⟩
theorem FillT.start (w : World) (n : Nat) (t : TypeId) (z : Array Value) : FillT w w.heap.size n [] (w.alloc (.cells (madeCells z (n * 9)) t)) where
  below := bl_alloc (Below.refl _ _) _
  eq := rfl
  lt := by simp
  le := Nat.zero_le _
  cells := fun j hj i hi => by
    rw [World.cell?_alloc_new]
    have hlt : j * 9 + i < (madeCells z (n * 9)).size := by rw [size_madeCells]; omega
    exact ⟨(madeCells z (n * 9))[j * 9 + i], by rw [Array.getElem?_eq_getElem hlt]⟩
  done := fun j hj => (by simp at hj)
  fr := fun j => by simp [go_sem]
  nms := fun x hx => (by cases hx)
  own := fun x hx => (by cases hx)
end Go.Proofs.YtojajaibeifhoaaGreatDoor
namespace Go.Proofs.YtojajaibeifhoaaGreatDoor
open Go.RowKit Pl Il

theorem infoFc : (Tryz.prog.info? 156).map (fun i => (i.zero, i.size, i.bytes)) = some (some (.agg #[.int .i64 0, .int .i64 0, .string ⟨#[]⟩]), 3, 32) := by kernel_rfl
theorem mod3 (j : Nat) : j % 3 = 0 ∨ j % 3 = 1 ∨ j % 3 = 2 := by omega
/-- Terms are appended to an own row. -/
theorem append_tms (B : Nat) (v : Value) (m : Nat) (ys : List Tm) (a : Option Addr) (n cap : Nat) (ts : List Tm) (w : World) (ho : w.ownsRow B 156 3 v m (qflat ys)) (hB : B ≤ w.heap.size) (hI : TmAt w a n ts) (hn : m + n ≤ 4194304) : ∃ (v' : Value) (w' : World),
    (Builtin.append_ #[117, 117] 117 #[v, .slice a n cap]).run Tryz.prog w = .ok v' w' ∧ w'.ownsRow B 156 3 v' (m + n) (qflat (ys ++ ts)) ∧ w.grownBy w' v.ownBlock := by
  obtain ⟨i, hi, hz0, hz1, hz2⟩ := info_parts infoFc
  obtain ⟨hlen, _, h0⟩ := hI
  rcases Nat.eq_zero_or_pos n with rfl | hpos
  · have hx : ts = [] := List.length_eq_zero_iff.1 hlen
    subst hx
    have hg : w.grownBy w v.ownBlock := ⟨rfl, rfl, rfl, Nat.le_refl _, fun _ _ _ => rfl⟩
    have hform : ∃ q c, v = .slice q m c ∧ m ≤ c := by
      obtain ⟨_, ⟨rfl, rfl⟩ | ⟨g, cp, cur, rfl, _, _, hc, _⟩⟩ := id ho
      · exact ⟨_, _, rfl, Nat.le_refl _⟩
      · exact ⟨_, _, rfl, hc⟩
    obtain ⟨q, c, rfl, hmc⟩ := hform
    refine ⟨_, _, run_append_nothing w 117 117 117 156 i Tryz.underlying117 hi q m c hmc _ ?_, by rw [Nat.add_zero, List.append_nil]; exact ho, hg⟩
    rcases a with _ | ad
    · exact Src.ofNil _ Tryz.underlying117 cap
    · exact Src.ofSlice _ Tryz.underlying117 ad 0 cap [] (by simp) (fun j u h => by simp at h) (fun u h => by cases h)
  · rcases h0 with h0 | ⟨b, off, rfl, hb, hcell⟩
    · omega
    · obtain ⟨g', c', w', hr, hown, hgrow, _, _⟩ := run_append_lies (P := Tryz.prog) w 117 117 B 156 i _ 3 32 Tryz.underlying117 hi hz0 hz1 hz2 rfl (by omega) v m _ ho ⟨b, off, none⟩ n cap (qflat ts) (by rw [length_qflat, hlen])
        (fun j u h => by
          rw [Addr.add_lit]
          have hj : j < n * 3 := by
            have := (List.getElem?_eq_some_iff.1 h).1
            rw [length_qflat, hlen] at this
            exact this
          obtain ⟨q1, q2, q3⟩ := hcell (j / 3) (by omega)
          have e := qflat_at ts (j / 3) (j % 3) (by omega) (by omega)
          have ej : j / 3 * 3 + j % 3 = j := by omega
          rw [ej, h] at e
          rcases mod3 j with hm | hm | hm
          · rw [hm] at e
            rw [show off + j = off + j / 3 * 3 by omega, q1]
            simpa [qC] using e.symm
          · rw [hm] at e
            rw [show off + j = off + j / 3 * 3 + 1 by omega, q2]
            simpa [qC] using e.symm
          · rw [hm] at e
            rw [show off + j = off + j / 3 * 3 + 2 by omega, q3]
            simpa [qC] using e.symm)
        (fun u hu => by
          simp only [qflat, List.mem_flatMap, qC, List.mem_cons, List.not_mem_nil, or_false] at hu
          obtain ⟨p, _, rfl | rfl | rfl⟩ := hu <;> rfl) hpos (by unfold maxLen; omega) (by omega) hB _ rfl
      exact ⟨_, w', hr, by rw [qflat_append]; exact hown, hgrow⟩

theorem copiedF_any (a : Option Addr) (n cap : Nat) (ts : List Tm) (w : World) (hI : TmAt w a n ts) (hn : n ≤ 2097152) :
    Calls Tryz.prog 129 #[.slice a n cap] w fun e w' => ∃ a' c', e = .returned (.slice a' n c') ∧ w'.ownsRow w.heap.size 156 3 (.slice a' n c') n (qflat ts) ∧ Below w.heap.size w w' := by
  obtain ⟨v, w', hr, ho, hg⟩ := append_tms w.heap.size (.slice none 0 0) 0 [] a n cap ts w (World.ownsRow_nil _ _ _ _) (Nat.le_refl _) hI (by omega)
  rw [Nat.zero_add, List.nil_append] at ho
  have hb : Below w.heap.size w w' := (Below.refl _ _).grown hg (Nat.le_refl _) (fun k hk => by cases hk)
  obtain ⟨a', c', rfl, _, _⟩ := ownF_of ho ts rfl hI.short
  have Hr := hidOf hr
  have HO := hidOf ho
  clear hr ho hI hg
  go_enter Tryz.func129, Tryz.ntmps129
  go_wp2_with (at_builtin; refine wpList_append_run rfl _ _ 117 rfl _ _ _ rfl rfl Hr.out ?_)
  go_ret
  exact ⟨_, _, rfl, HO.out, hb⟩

theorem own_farF {B : Nat} {w : World} {v : Value} {n : Nat} {t : TypeId} {xs : List Value} (h : w.ownsRow B t 3 v n xs) (b o : Nat) (hb : b < B) (x : Value) : (w.setCell ⟨b, o, none⟩ x).ownsRow B t 3 v n xs := by
  refine h.kept (row := some b) ⟨rfl, rfl, rfl, by simp, fun k _ hk => Below.heap_setCell _ _ _ _ (by rintro rfl; exact hk rfl)⟩ ?_
  cases e : v.ownBlock with
  | none => exact .inl rfl
  | some q => exact .inr (fun e' => by cases e'; have := (h.lt _ e).1; omega)
end Go.Proofs.YtojajaibeifhoaaGreatDoor
namespace Go.Proofs.YtojajaibeifhoaaGreatDoor
open Go.RowKit Pl Il

theorem rinfoM : (Tryz.prog.info? 26).map (fun i => (i.zero, i.size, i.bytes)) = some (some (.agg #[.int .i64 0, .int .i64 0, .string ⟨#[]⟩]), 3, 32) := by kernel_rfl
theorem rinfoS : (Tryz.prog.info? 119).map (fun i => (i.zero, i.size, i.bytes)) = some (some (.agg #[.int .i64 0, .int .i64 0, .int .i64 0, .int .i64 0, .int .i64 0, .int .i64 0, .slice none 0 0]), 7, 72) := by kernel_rfl
/-- Elements of any size are appended to an own row. -/
theorem append_gen {E SL : TypeId} {z : Value} {sz by' : Nat} (hu : Tryz.prog.underlying SL = some (.slice E)) (hinf : (Tryz.prog.info? E).map (fun i => (i.zero, i.size, i.bytes)) = some (some z, sz, by')) (hzs : z.cells.size = sz) (hs0 : 0 < sz) (hby : by' ≤ 1000)
    (B m : Nat) (v : Value) (ys : List Value) (a : Option Addr) (n cap : Nat) (news : List Value) (w : World) (ho : w.ownsRow B E sz v m ys) (hB : B ≤ w.heap.size) (hl : news.length = n * sz)
    (hsrc : n = 0 ∨ ∃ b off, a = some ⟨b, off, none⟩ ∧ ∀ j u, news[j]? = some u → w.cell? ⟨b, off + j, none⟩ = some u) (h1 : ∀ u ∈ news, u.oneCell' = true) (hn : m + n ≤ 4194304) :
    ∃ (a' : Option Addr) (c' : Nat) (w' : World), (Builtin.append_ #[SL, SL] SL #[v, .slice a n cap]).run Tryz.prog w = .ok (.slice a' (m + n) c') w' ∧ w'.ownsRow B E sz (.slice a' (m + n) c') (m + n) (ys ++ news) ∧ w.grownBy w' v.ownBlock ∧
      (∀ q, (Value.slice a' (m + n) c').ownBlock = some q → v.ownBlock = some q ∨ w.heap.size ≤ q) := by
  obtain ⟨i, hi, hz0, hz1, hz2⟩ := info_parts hinf
  have hform : ∃ q c, v = .slice q m c ∧ m ≤ c := by
    obtain ⟨_, ⟨rfl, rfl⟩ | ⟨g, cp, cur, rfl, _, _, hc, _⟩⟩ := id ho
    · exact ⟨_, _, rfl, Nat.le_refl _⟩
    · exact ⟨_, _, rfl, hc⟩
  obtain ⟨av, cv, rfl, hcp⟩ := hform
  rcases Nat.eq_zero_or_pos n with rfl | hpos
  · have hx : news = [] := List.length_eq_zero_iff.1 (by simpa using hl)
    subst hx
    refine ⟨av, cv, w, run_append_nothing w SL SL SL E i hu hi av m cv hcp _ ?_, by rw [List.append_nil]; exact ho, ⟨rfl, rfl, rfl, Nat.le_refl _, fun _ _ _ => rfl⟩, fun q e => .inl e⟩
    rcases a with _ | ad
    · exact Src.ofNil _ hu cap
    · exact Src.ofSlice _ hu ad 0 cap [] (by simp) (fun j u h => by simp at h) (fun u h => by cases h)
  · rcases hsrc with h0 | ⟨b, off, rfl, hcell⟩
    · omega
    · have hby2 : (m + n) * by' ≤ 140737488355328 := Nat.le_trans (Nat.mul_le_mul hn hby) (by omega)
      obtain ⟨g', c', w', hr, hown, hgrow, hlz, _⟩ := run_append_lies (P := Tryz.prog) w SL SL B E i z sz by' hu hi hz0 hz1 hz2 hzs hs0 _ m _ ho ⟨b, off, none⟩ n cap news hl
        (fun j u h => by rw [Addr.add_lit]; exact hcell j u h) h1 hpos (by unfold maxLen; omega) hby2 hB _ rfl
      refine ⟨_, c', w', hr, hown, hgrow, fun q e => ?_⟩
      have e' : g' = q := by simpa [Value.ownBlock] using e
      subst e'
      rcases hlz with h | h
      · exact .inl h
      · right; omega
theorem one_qflat (ts : List Tm) : ∀ u ∈ qflat ts, u.oneCell' = true := fun u hu => by
  simp only [qflat, List.mem_flatMap, qC, List.mem_cons, List.not_mem_nil, or_false] at hu
  obtain ⟨p, _, rfl | rfl | rfl⟩ := hu <;> rfl
theorem TmAt.src {w : World} {a : Option Addr} {n : Nat} {ts : List Tm} (h : TmAt w a n ts) : n = 0 ∨ ∃ b off, a = some ⟨b, off, none⟩ ∧ ∀ j u, (qflat ts)[j]? = some u → w.cell? ⟨b, off + j, none⟩ = some u := by
  rcases h.row with k | ⟨b, off, rfl, _, hcell⟩
  · exact .inl k
  · refine .inr ⟨b, off, rfl, fun j u hju => ?_⟩
    have hj : j < n * 3 := by
      have := (List.getElem?_eq_some_iff.1 hju).1
      rw [length_qflat, h.len] at this
      exact this
    obtain ⟨q1, q2, q3⟩ := hcell (j / 3) (by omega)
    have e := qflat_at ts (j / 3) (j % 3) (by have := h.len; omega) (by omega)
    have ej : j / 3 * 3 + j % 3 = j := by omega
    rw [ej, hju] at e
    rcases mod3 j with hm | hm | hm
    · rw [hm] at e
      rw [show off + j = off + j / 3 * 3 by omega, q1]
      simpa [qC] using e.symm
    · rw [hm] at e
      rw [show off + j = off + j / 3 * 3 + 1 by omega, q2]
      simpa [qC] using e.symm
    · rw [hm] at e
      rw [show off + j = off + j / 3 * 3 + 2 by omega, q3]
      simpa [qC] using e.symm
/-- Messages, terms are appended. -/
theorem append_msgR (B m : Nat) (v : Value) (ys : List Tm) (a : Option Addr) (n cap : Nat) (ts : List Tm) (w : World) (ho : w.ownsRow B 26 3 v m (qflat ys)) (hB : B ≤ w.heap.size) (hI : TmAt w a n ts) (hn : m + n ≤ 4194304) :
    ∃ (a' : Option Addr) (c' : Nat) (w' : World), (Builtin.append_ #[34, 34] 34 #[v, .slice a n cap]).run Tryz.prog w = .ok (.slice a' (m + n) c') w' ∧ w'.ownsRow B 26 3 (.slice a' (m + n) c') (m + n) (qflat (ys ++ ts)) ∧ w.grownBy w' v.ownBlock ∧
      (∀ q, (Value.slice a' (m + n) c').ownBlock = some q → v.ownBlock = some q ∨ w.heap.size ≤ q) := by
  rw [qflat_append]
  exact append_gen Tryz.underlying34 rinfoM rfl (by omega) (by omega) B m v _ a n cap (qflat ts) w ho hB (by rw [length_qflat, hI.len]) hI.src (one_qflat ts) hn
theorem append_tmR (B m : Nat) (v : Value) (ys : List Tm) (a : Option Addr) (n cap : Nat) (ts : List Tm) (w : World) (ho : w.ownsRow B 156 3 v m (qflat ys)) (hB : B ≤ w.heap.size) (hI : TmAt w a n ts) (hn : m + n ≤ 4194304) :
    ∃ (a' : Option Addr) (c' : Nat) (w' : World), (Builtin.append_ #[117, 117] 117 #[v, .slice a n cap]).run Tryz.prog w = .ok (.slice a' (m + n) c') w' ∧ w'.ownsRow B 156 3 (.slice a' (m + n) c') (m + n) (qflat (ys ++ ts)) ∧ w.grownBy w' v.ownBlock ∧
      (∀ q, (Value.slice a' (m + n) c').ownBlock = some q → v.ownBlock = some q ∨ w.heap.size ≤ q) := by
  rw [qflat_append]
  exact append_gen Tryz.underlying117 infoFc rfl (by omega) (by omega) B m v _ a n cap (qflat ts) w ho hB (by rw [length_qflat, hI.len]) hI.src (one_qflat ts) hn
/-- Subscribers as a row of cells. -/
def sflat (xs : List Sa) : List Value := xs.flatMap sC
theorem length_sflat (l : List Sa) : (sflat l).length = l.length * 7 := by
  induction l with
  | nil => rfl
  | cons x l ih => simp [sflat, sC] at ih ⊢; omega
theorem sflat_at : ∀ (l : List Sa) (i r : Nat), i < l.length → r < 7 → (sflat l)[i * 7 + r]? = (sC (sg l i))[r]?
  | [], i, r, hi, _ => by simp at hi
  | x :: l, 0, r, _, hr => by
    have e : sflat (x :: l) = sC x ++ sflat l := by simp [sflat]
    rw [e, List.getElem?_append_left (by simp; omega)]
    simp [sg]
  | x :: l, i + 1, r, hi, hr => by
    have e : sflat (x :: l) = sC x ++ sflat l := by simp [sflat]
    have hc : (sC x).length = 7 := rfl
    rw [e, List.getElem?_append_right (by rw [hc]; omega), hc, show (i + 1) * 7 + r - 7 = i * 7 + r by omega, sflat_at l i r (by simpa using hi) hr]
    simp [sg]
theorem sflat_append (l m : List Sa) : sflat (l ++ m) = sflat l ++ sflat m := by simp [sflat]
theorem one_sflat (xs : List Sa) : ∀ u ∈ sflat xs, u.oneCell' = true := fun u hu => by
  simp only [sflat, List.mem_flatMap, List.mem_cons, List.not_mem_nil, or_false] at hu
  obtain ⟨p, _, rfl | rfl | rfl | rfl | rfl | rfl | rfl⟩ := hu <;> rfl
theorem SCell.at {w : World} {b o : Nat} {x : Sa} (h : SCell w b o x) {r : Nat} (hr : r < 7) : w.cell? ⟨b, o + r, none⟩ = (sC x)[r]? := by
  rcases (show r = 0 ∨ r = 1 ∨ r = 2 ∨ r = 3 ∨ r = 4 ∨ r = 5 ∨ r = 6 by omega) with rfl | rfl | rfl | rfl | rfl | rfl | rfl
  · exact h.c0
  · exact h.c1
  · exact h.c2
  · exact h.c3
  · exact h.c4
  · exact h.c5
  · exact h.c6
theorem SubAt.src {w : World} {a : Option Addr} {n : Nat} {xs : List Sa} (h : SubAt w a n xs) : n = 0 ∨ ∃ b off, a = some ⟨b, off, none⟩ ∧ ∀ j u, (sflat xs)[j]? = some u → w.cell? ⟨b, off + j, none⟩ = some u := by
  rcases h.row with k | ⟨b, off, rfl, _, hcell⟩
  · exact .inl k
  · refine .inr ⟨b, off, rfl, fun j u hju => ?_⟩
    have hj : j < n * 7 := by
      have := (List.getElem?_eq_some_iff.1 hju).1
      rw [length_sflat, h.len] at this
      exact this
    have hc := (hcell (j / 7) (by omega)).at (r := j % 7) (by omega)
    have e := sflat_at xs (j / 7) (j % 7) (by have := h.len; omega) (by omega)
    have ej : j / 7 * 7 + j % 7 = j := by omega
    rw [ej, hju] at e
    rw [show off + j = off + j / 7 * 7 + j % 7 by omega, hc, ← e]
theorem append_subR (B m : Nat) (v : Value) (ys : List Sa) (a : Option Addr) (n cap : Nat) (xs : List Sa) (w : World) (ho : w.ownsRow B 119 7 v m (sflat ys)) (hB : B ≤ w.heap.size) (hI : SubAt w a n xs) (hn : m + n ≤ 4194304) :
    ∃ (a' : Option Addr) (c' : Nat) (w' : World), (Builtin.append_ #[35, 35] 35 #[v, .slice a n cap]).run Tryz.prog w = .ok (.slice a' (m + n) c') w' ∧ w'.ownsRow B 119 7 (.slice a' (m + n) c') (m + n) (sflat (ys ++ xs)) ∧ w.grownBy w' v.ownBlock ∧
      (∀ q, (Value.slice a' (m + n) c').ownBlock = some q → v.ownBlock = some q ∨ w.heap.size ≤ q) := by
  rw [sflat_append]
  exact append_gen Tryz.underlying35 rinfoS rfl (by omega) (by omega) B m v _ a n cap (sflat xs) w ho hB (by rw [length_sflat, hI.len]) hI.src (one_sflat xs) hn
/-- What an own row of subscribers reads as. -/
theorem rowS {B : Nat} {w : World} {t : TypeId} {a : Option Addr} {n c : Nat} {xs : List Sa} (h : w.ownsRow B t 7 (.slice a n c) n (sflat xs)) : xs.length = n ∧ n ≤ c ∧ (n = 0 ∨ ∃ b, a = some ⟨b, 0, none⟩ ∧ B ≤ b ∧ b < w.heap.size ∧ (∀ o, w.frozen? ⟨b, o, none⟩ = false) ∧ ∀ i, i < n → SCell w b (0 + i * 7) (sg xs i)) := by
  have hlen : xs.length = n := by have := h.1; rw [length_sflat] at this; omega
  obtain ⟨hl, ⟨e, rfl⟩ | ⟨g, cap, cur, e, hB, hg, hc, hm, _, ht⟩⟩ := id h
  · cases e
    exact ⟨hlen, Nat.le_refl _, .inl rfl⟩
  · cases e
    have hlt : g < w.heap.size := by
      rcases Nat.lt_or_ge g w.heap.size with k | k
      · exact k
      · rw [Array.getElem?_eq_none k] at hg; cases hg
    refine ⟨hlen, hc, .inr ⟨g, rfl, hB, hlt, fun o => by simp [World.frozen?, hg], fun i hi => ?_⟩⟩
    have key : ∀ r, r < 7 → w.cell? ⟨g, i * 7 + r, none⟩ = (sC (sg xs i))[r]? := fun r hr => by
      rw [h.cellAt (i * 7 + r) (by omega), sflat_at xs i r (by omega) hr]
    rw [Nat.zero_add]
    exact ⟨key 0 (by omega), key 1 (by omega), key 2 (by omega), key 3 (by omega), key 4 (by omega), key 5 (by omega), key 6 (by omega)⟩
end Go.Proofs.YtojajaibeifhoaaGreatDoor
namespace Go.Proofs.YtojajaibeifhoaaGreatDoor
open Go.RowKit Pl Il

/-- What Join answers: the line, and the code. -/
def joinL (xs : List Int) (x : Int) : List Int × Int :=
  if !lineL xs || !clientL x then (xs, 1) else if hasL xs x then (xs, 5) else if 32 ≤ xs.length then (xs, 2) else (xs ++ [x], 0)
/-- What Leave answers: the line, and the code. -/
def leaveL (xs : List Int) (x : Int) : List Int × Int :=
  if !lineL xs then (xs, 1) else if !hasL xs x then (xs, 3) else (lessL xs x, 0)
theorem join_bad {xs : List Int} {x : Int} (h : lineL xs = false ∨ clientL x = false) : joinL xs x = (xs, 1) := by rcases h with h | h <;> simp [joinL, h]
theorem join_there {xs : List Int} {x : Int} (h1 : lineL xs = true) (h2 : clientL x = true) (h3 : hasL xs x = true) : joinL xs x = (xs, 5) := by simp [joinL, h1, h2, h3]
theorem join_full {xs : List Int} {x : Int} (h1 : lineL xs = true) (h2 : clientL x = true) (h3 : hasL xs x = false) (h4 : 32 ≤ xs.length) : joinL xs x = (xs, 2) := by simp [joinL, h1, h2, h3, h4]
theorem join_done {xs : List Int} {x : Int} (h1 : lineL xs = true) (h2 : clientL x = true) (h3 : hasL xs x = false) (h4 : ¬ 32 ≤ xs.length) : joinL xs x = (xs ++ [x], 0) := by simp only [joinL, h1, h2, h3, h4, Bool.not_true, Bool.or_self, if_false, Bool.false_eq_true]
theorem leave_bad {xs : List Int} {x : Int} (h : lineL xs = false) : leaveL xs x = (xs, 1) := by simp [leaveL, h]
theorem leave_none {xs : List Int} {x : Int} (h : lineL xs = true) (h2 : hasL xs x = false) : leaveL xs x = (xs, 3) := by simp [leaveL, h, h2]
theorem leave_done {xs : List Int} {x : Int} (h : lineL xs = true) (h2 : hasL xs x = true) : leaveL xs x = (lessL xs x, 0) := by simp [leaveL, h, h2]


end Go.Proofs.YtojajaibeifhoaaGreatDoor
namespace Go.Proofs.YtojajaibeifhoaaGreatDoor
open Go.RowKit Pl Il

/-- How many Wake wakes. -/
def wakeN (xs : List Int) (n : Int) : Nat := if n > (xs.length : Int) then xs.length else n.toNat
theorem wakeN_le (xs : List Int) (n : Int) (h : 0 ≤ n) : wakeN xs n ≤ xs.length := by
  unfold wakeN
  split <;> omega
theorem wakeN_over {xs : List Int} {n : Int} (h : n > (xs.length : Int)) : wakeN xs n = xs.length := by simp [wakeN, h]
theorem wakeN_in {xs : List Int} {n : Int} (h : ¬ n > (xs.length : Int)) : wakeN xs n = n.toNat := by simp only [wakeN, h, if_false]


theorem line_len {xs : List Int} (h : lineL xs = true) : xs.length ≤ 32 := by
  unfold lineL at h
  simp at h
  exact h.1

/-- Two lists that the call has made, apart from one another. -/
structure Both (w : World) (g1 m1 c1 : Nat) (xs : List Int) (g2 m2 c2 : Nat) (ys : List Int) (w' : World) : Prop where
  one : Owns w.heap.size w' g1 m1 c1 xs
  two : Owns w.heap.size w' g2 m2 c2 ys
  apart : g1 ≠ g2
  below : Below w.heap.size w w'
theorem both_of {w w1 w2 w3 : World} {g1 m1 c1 : Nat} {xs : List Int} {g2 m2 c2 : Nat} {ys : List Int} (h1 : Below w.heap.size w w1) (o1 : Owns w1.heap.size w2 g1 m1 c1 xs) (h2 : Below w1.heap.size w1 w2) (o2 : Owns w2.heap.size w3 g2 m2 c2 ys) (h3 : Below w2.heap.size w2 w3) :
    Both w g1 m1 c1 xs g2 m2 c2 ys w3 where
  one := owns_keep (owns_mono o1 h1.size) h3
  two := owns_mono o2 (Nat.le_trans h1.size h2.size)
  apart := by
    have a := (owns_parts o1).2.2.1
    have b := (owns_parts o2).2.1
    omega
  below := bl_trans (bl_trans h1 h2) h3




end Go.Proofs.YtojajaibeifhoaaGreatDoor
namespace Go.Proofs.YtojajaibeifhoaaGreatDoor
open Go.RowKit Pl Il

/-- The first place of x in xs, unless it has gone. -/
def placeG (xs gone : List Int) (x : Int) : Option Nat := if gone.contains x then none else xs.findIdx? (· == x)
/-- How many different ones stand in xs. -/
def dist (xs : List Int) : Nat := ((List.range xs.length).filter fun i => !hasL (xs.take i) (xs.getD i 0)).length
/-- Who stands still, of the first k. -/
def standTo (xs gone : List Int) (k : Nat) : List Int := ((List.range k).filter fun i => placeG xs gone (xs.getD i 0) == some i).map fun i => xs.getD i 0
theorem place_isSome (xs : List Int) (x : Int) : (placeG xs [] x).isSome = hasL xs x := by
  simp only [placeG, List.contains_nil, Bool.false_eq_true, if_false, hasL]
  rw [List.findIdx?_isSome]
  rw [Bool.eq_iff_iff]
  simp only [List.any_eq_true, beq_iff_eq, List.contains_eq_mem, decide_eq_true_eq]
  exact ⟨fun ⟨y, hy, e⟩ => e ▸ hy, fun h => ⟨x, h, rfl⟩⟩
theorem place_placeL (xs : List Int) (x : Int) : placeL xs x = match placeG xs [] x with | some i => (i : Int) | none => -1 := by
  simp only [placeL, placeG, List.contains_nil, Bool.false_eq_true, if_false]
  cases xs.findIdx? (· == x) <;> rfl

/-- What the map of places reads as. -/
structure Reads (D : DataW Unit) (xs gone : List Int) : Prop where
  has : ∀ x, Maps.has D (.int .i64 x) = (placeG xs gone x).isSome
  val : ∀ x i, placeG xs gone x = some i → D.atKey (.int .i64 x) (.lit (.int .i64 0)) = .lit (.int .i64 (i : Int))
  size : gone = [] → Maps.size D = dist xs
theorem Reads.empty : Reads (.map []) [] [] := ⟨fun x => by simp [Maps.has, placeG], fun x i h => by simp [placeG] at h, fun _ => rfl⟩

theorem lit_ne {x y : Int} (h : ¬ x = y) : Lit.int .i64 x ≠ Lit.int .i64 y := fun e => h (by injection e)

theorem dist_snoc (xs : List Int) (x : Int) : dist (xs ++ [x]) = dist xs + if hasL xs x then 0 else 1 := by
  unfold dist
  rw [List.length_append, List.length_singleton, List.range_succ, List.filter_append, List.length_append]
  congr 1
  · refine congrArg List.length (List.filter_congr fun i hi => ?_)
    have hi := List.mem_range.1 hi
    rw [List.take_append_of_le_length (Nat.le_of_lt hi)]
    simp [List.getD, List.getElem?_append_left hi]
  · have e : (xs ++ [x]).getD xs.length 0 = x := by simp [List.getD]
    have e2 : (xs ++ [x]).take xs.length = xs := by simp
    rw [List.filter_cons, List.filter_nil, e, e2]
    cases hasL xs x <;> simp
theorem dist_le (xs : List Int) : dist xs ≤ xs.length := by
  unfold dist
  exact Nat.le_trans (List.length_filter_le _ _) (by simp)

theorem Reads.join_new {D : DataW Unit} {xs : List Int} {x : Int} (h : Reads D xs []) (ht : Maps.Tidy D) (hx : hasL xs x = false) : Reads (D.put (.int .i64 x) (.lit (.int .i64 (xs.length : Int)))) (xs ++ [x]) [] := by
  have key : ∀ y, ¬ y = x → placeG (xs ++ [x]) [] y = placeG xs [] y := fun y hy => by
    simp only [placeG, List.contains_nil, Bool.false_eq_true, if_false]
    rw [List.findIdx?_append]
    have : [x].findIdx? (· == y) = none := by
      rw [List.findIdx?_eq_none_iff]
      intro z hz
      rw [List.mem_singleton] at hz
      subst hz
      simp only [beq_eq_false_iff_ne, ne_eq]
      exact fun e => hy e.symm
    simp [this]
  have self : placeG (xs ++ [x]) [] x = some xs.length := by
    have h0 : placeG xs [] x = none := by
      have := place_isSome xs x
      rw [hx] at this
      simpa using this
    simp only [placeG, List.contains_nil, Bool.false_eq_true, if_false] at h0 ⊢
    rw [List.findIdx?_append, h0]
    simp [List.findIdx?_cons]
  refine ⟨fun y => ?_, fun y i hi => ?_, fun _ => ?_⟩
  · by_cases e : y = x
    · subst e
      rw [Maps.has_put_same (k := .int .i64 y) ht.isMap trivial, self]; rfl
    · rw [Maps.has_put_other (lit_ne e), key y e]; exact h.has y
  · by_cases e : y = x
    · subst e
      rw [self] at hi
      injection hi with hi
      subst hi
      rw [Maps.atKey_put_same (k := .int .i64 y) ht.isMap trivial]
    · rw [Maps.atKey_put_other (lit_ne e)]
      rw [key y e] at hi
      exact h.val y i hi
  · rw [Maps.size_put ht, h.has x, place_isSome, hx, dist_snoc, hx, h.size rfl]
    simp
theorem Reads.join_old {D : DataW Unit} {xs : List Int} {x : Int} (h : Reads D xs []) (hx : hasL xs x = true) : Reads D (xs ++ [x]) [] := by
  have key : ∀ y, placeG (xs ++ [x]) [] y = placeG xs [] y := fun y => by
    by_cases e : y = x
    · subst e
      have := place_isSome xs y
      rw [hx] at this
      obtain ⟨i, hi⟩ := Option.isSome_iff_exists.1 this
      rw [hi]
      simp only [placeG, List.contains_nil, Bool.false_eq_true, if_false] at hi ⊢
      rw [List.findIdx?_append, hi]; rfl
    · simp only [placeG, List.contains_nil, Bool.false_eq_true, if_false]
      rw [List.findIdx?_append]
      have : [x].findIdx? (· == y) = none := by
        rw [List.findIdx?_eq_none_iff]
        intro z hz
        rw [List.mem_singleton] at hz
        subst hz
        simp only [beq_eq_false_iff_ne, ne_eq]
        exact fun e' => e e'.symm
      simp [this]
  refine ⟨fun y => ?_, fun y i hi => ?_, fun _ => ?_⟩
  · rw [key]; exact h.has y
  · rw [key] at hi; exact h.val y i hi
  · rw [dist_snoc, hx, h.size rfl]; simp
theorem place_gone (xs gone : List Int) (x y : Int) : placeG xs (gone ++ [x]) y = if y = x then none else placeG xs gone y := by
  unfold placeG
  by_cases e : y = x
  · subst e; simp
  · simp [e]
theorem Reads.leave {D : DataW Unit} {xs gone : List Int} {x : Int} (h : Reads D xs gone) : Reads (D.del (.int .i64 x)) xs (gone ++ [x]) := by
  refine ⟨fun y => ?_, fun y i hi => ?_, fun e => by simp at e⟩
  · rw [place_gone]
    by_cases e : y = x
    · subst e
      rw [Maps.has_del_same]; simp
    · rw [Maps.has_del_other (lit_ne e), h.has]; simp [e]
  · rw [place_gone] at hi
    by_cases e : y = x
    · subst e; simp at hi
    · rw [Maps.atKey_del_other (lit_ne e)]
      simp [e] at hi
      exact h.val y i hi

theorem stand_yes {xs gone : List Int} {k : Nat} {y : Int} (hy : xs.getD k 0 = y) (h : placeG xs gone y = some k) : standTo xs gone (k + 1) = standTo xs gone k ++ [y] := by
  unfold standTo
  rw [List.range_succ, List.filter_append, List.map_append]
  congr 1
  rw [List.filter_cons, hy, h]
  simp [List.getD] at hy
  simp [List.getD, hy]
theorem stand_no {xs gone : List Int} {k : Nat} {y : Int} (hy : xs.getD k 0 = y) (h : ¬ placeG xs gone y = some k) : standTo xs gone (k + 1) = standTo xs gone k := by
  unfold standTo
  rw [List.range_succ, List.filter_append, List.map_append]
  have : (placeG xs gone (xs.getD k 0) == some k) = false := by
    rw [hy, beq_eq_false_iff_ne]; exact h
  rw [List.filter_cons, this]
  simp
theorem stand_len (xs gone : List Int) (k : Nat) : (standTo xs gone k).length ≤ k := by
  unfold standTo
  rw [List.length_map]
  exact Nat.le_trans (List.length_filter_le _ _) (by simp)

theorem nodup_line {xs : List Int} (h : lineL xs = true) : xs.Nodup := by
  simp only [lineL, lineTo, Bool.and_eq_true, List.all_eq_true, List.mem_range] at h
  rw [List.nodup_iff_pairwise_ne, List.pairwise_iff_getElem]
  intro i j hi hj hij e
  have := (h.2 j hj).2
  have e2 : xs.getD j 0 = xs[j] := by simp [List.getD, List.getElem?_eq_getElem hj]
  rw [e2] at this
  have hm : xs[j] ∈ xs.take j := by
    rw [List.mem_take_iff_getElem]
    exact ⟨i, by omega, e⟩
  simp [hasL, hm] at this
theorem find_nodup {xs : List Int} (h : xs.Nodup) {i : Nat} (hi : i < xs.length) : xs.findIdx? (· == xs[i]) = some i := by
  rw [List.findIdx?_eq_some_iff_getElem]
  refine ⟨hi, by simp, fun j hj => ?_⟩
  intro e
  have e : xs[j]'(by omega) = xs[i] := by simpa using e
  rw [List.nodup_iff_pairwise_ne, List.pairwise_iff_getElem] at h
  exact h j i (by omega) hi hj e
theorem map_range (xs : List Int) : (List.range xs.length).map (fun i => xs.getD i 0) = xs := by
  apply List.ext_getElem
  · simp
  · intro i h1 h2
    simp [List.getD, List.getElem?_eq_getElem h2]
theorem stand_all {xs : List Int} (h : xs.Nodup) (gone : List Int) : standTo xs gone xs.length = xs.filter fun y => !gone.contains y := by
  have e : (List.range xs.length).filter (fun i => placeG xs gone (xs.getD i 0) == some i) = (List.range xs.length).filter ((fun y => !gone.contains y) ∘ fun i => xs.getD i 0) := by
    refine List.filter_congr fun i hi => ?_
    have hi := List.mem_range.1 hi
    have e : xs.getD i 0 = xs[i] := by simp [List.getD, List.getElem?_eq_getElem hi]
    simp only [Function.comp, e, placeG, find_nodup h hi]
    cases gone.contains xs[i] <;> simp
  unfold standTo
  rw [e, ← List.filter_map, map_range]
theorem stand_full {xs : List Int} (h : xs.Nodup) : standTo xs [] xs.length = xs := by
  rw [stand_all h]; simp
theorem stand_less {xs : List Int} (h : xs.Nodup) (x : Int) : standTo xs [x] xs.length = lessL xs x := by
  rw [stand_all h, lessL, h.erase_eq_filter]
  refine List.filter_congr fun y _ => ?_
  by_cases e : y = x <;> simp [e]
theorem stand_rest {xs : List Int} (h : xs.Nodup) (k : Nat) : standTo xs (xs.take k) xs.length = xs.drop k := by
  rw [stand_all h]
  have e : xs.filter (fun y => !(xs.take k).contains y) = (xs.take k ++ xs.drop k).filter (fun y => !(xs.take k).contains y) := by rw [List.take_append_drop]
  rw [e, List.filter_append, List.filter_eq_nil_iff.2 (fun y hy => by simp [hy]), List.nil_append, List.filter_eq_self.2 (fun y hy => ?_)]
  have h2 : (xs.take k ++ xs.drop k).Nodup := by rw [List.take_append_drop]; exact h
  have := (List.nodup_append.1 h2).2.2
  simp only [List.contains_eq_mem, Bool.not_eq_true', decide_eq_false_iff_not]
  exact fun hm => this y hm y hy rfl
theorem nodup_snoc {xs : List Int} (h : xs.Nodup) {x : Int} (hx : hasL xs x = false) : (xs ++ [x]).Nodup := by
  rw [List.nodup_append]
  refine ⟨h, by simp, fun a ha b hb e => ?_⟩
  rw [List.mem_singleton] at hb
  subst hb
  subst e
  simp [hasL, ha] at hx

theorem filter_len_eq {α : Type} {p : α → Bool} : ∀ {l : List α}, (l.filter p).length = l.length → ∀ x ∈ l, p x = true
  | [], _, x, hx => by cases hx
  | y :: r, h, x, hx => by
    cases hy : p y
    · rw [List.filter_cons, hy] at h
      have := List.length_filter_le p r
      simp at h
      omega
    · rw [List.filter_cons, hy] at h
      rcases List.mem_cons.1 hx with rfl | hx
      · exact hy
      · exact filter_len_eq (l := r) (by simpa using h) x hx
/-- All are clients: the line is right just if all are different. -/
theorem line_dist {xs : List Int} (h32 : xs.length ≤ 32) (hc : ∀ i, i < xs.length → clientL (xs.getD i 0) = true) : lineL xs = decide (dist xs = xs.length) := by
  rw [Bool.eq_iff_iff]
  simp only [lineL, h32, decide_true, Bool.true_and, decide_eq_true_eq]
  constructor
  · intro h
    simp only [lineTo, List.all_eq_true, List.mem_range, Bool.and_eq_true] at h
    unfold dist
    rw [List.filter_eq_self.2 (fun i hi => (h i (List.mem_range.1 hi)).2)]
    simp
  · intro h
    unfold dist at h
    have := filter_len_eq (l := List.range xs.length) (by rw [h]; simp)
    simp only [lineTo, List.all_eq_true, List.mem_range, Bool.and_eq_true]
    exact fun i hi => ⟨hc i hi, this i (List.mem_range.2 hi)⟩
end Go.Proofs.YtojajaibeifhoaaGreatDoor
namespace Go.Proofs.YtojajaibeifhoaaGreatDoor
open Go.RowKit Go.Maps Pl Il

theorem law3 : Keyed Tryz.prog 3 := int_keyed Tryz.underlying3
theorem zero3 (w : World) : (zeroValue 3).run Tryz.prog w = .ok (.int .i64 0) w := by kernel_rfl

/-- The parts of a queue in memory: its own block qb, the row of those who came (cv), the map of places (block mb, at most n entries, reading as D). -/
structure QMem (B : Nat) (w : World) (qb mb : Nat) (cv : Value) (D : DataW Unit) (n : Nat) (xs : List Int) : Prop where
  blk : w.heap[qb]? = some (.cells #[cv, .map (some mb)] 162 (0, 0))
  row : w.ownsRow B 3 1 cv xs.length (xs.map (Value.int .i64))
  map : w.ownsMap Tryz.prog 3 (plainElem Tryz.prog 3) mb n D
  ge : B ≤ qb
  ge' : B ≤ mb
structure QParts (B : Nat) (w : World) (qb mb : Nat) (cv : Value) (D : DataW Unit) (xs gone : List Int) : Prop where
  mem : QMem B w qb mb cv D xs.length xs
  rd : Reads D xs gone
/-- A queue at block qb: xs came, gone have left. -/
def QAt (B : Nat) (w : World) (qb : Nat) (xs gone : List Int) : Prop := ∃ mb cv D, QParts B w qb mb cv D xs gone

section
variable {B : Nat} {w : World} {qb mb n : Nat} {cv : Value} {D : DataW Unit} {xs gone : List Int}
theorem QMem.lt (h : QMem B w qb mb cv D n xs) : qb < w.heap.size := by
  rcases Nat.lt_or_ge qb w.heap.size with k | k
  · exact k
  · have := h.blk
    rw [Array.getElem?_eq_none k] at this; cases this
theorem QMem.size (h : QMem B w qb mb cv D n xs) : B ≤ w.heap.size := Nat.le_trans h.ge (Nat.le_of_lt h.lt)
theorem QMem.c0 (h : QMem B w qb mb cv D n xs) : w.cell? ⟨qb, 0, none⟩ = some cv := by simp [World.cell?, h.blk]
theorem QMem.c1 (h : QMem B w qb mb cv D n xs) : w.cell? ⟨qb, 1, none⟩ = some (.map (some mb)) := by simp [World.cell?, h.blk]
theorem QMem.f0 (h : QMem B w qb mb cv D n xs) : w.frozen? ⟨qb, 0, none⟩ = false := by simp [World.frozen?, h.blk]
theorem QMem.ne (h : QMem B w qb mb cv D n xs) : mb ≠ qb := by
  obtain ⟨es, clock, hb, _⟩ := h.map
  rintro rfl
  rw [h.blk] at hb; cases hb
theorem QMem.rowQ (h : QMem B w qb mb cv D n xs) : cv.ownBlock ≠ some qb := by
  intro e
  obtain ⟨_, ⟨rfl, _⟩ | ⟨g, cap, cur, rfl, _, hg, _⟩⟩ := h.row
  · cases e
  · simp [Value.ownBlock] at e
    subst e
    rw [h.blk] at hg
    simp at hg
theorem QMem.rowM (h : QMem B w qb mb cv D n xs) : cv.ownBlock ≠ some mb := by
  intro e
  obtain ⟨es, clock, hb, _⟩ := h.map
  obtain ⟨_, ⟨rfl, _⟩ | ⟨g, cap, cur, rfl, _, hg, _⟩⟩ := h.row
  · cases e
  · simp [Value.ownBlock] at e
    subst e
    rw [hb] at hg
    cases hg
theorem QMem.form (h : QMem B w qb mb cv D n xs) : ∃ a c, cv = .slice a xs.length c ∧ IntsAt w a xs.length xs := by
  obtain ⟨a, c, e, ho⟩ := own_of h.row xs rfl
  exact ⟨a, c, e, ho.ints⟩
theorem QMem.keep {w' : World} (h : QMem B w qb mb cv D n xs) (hb : Below w.heap.size w w') : QMem B w' qb mb cv D n xs := by
  have hg : w.grownBy w' none := ⟨hb.os, hb.tape, hb.output, hb.size, fun k hk _ => hb.block k hk⟩
  exact ⟨by rw [hb.block qb h.lt]; exact h.blk, h.row.kept hg (by cases cv.ownBlock <;> simp), h.map.kept hg (by simp), h.ge, h.ge'⟩
theorem QAt.keep {w' : World} (h : QAt B w qb xs gone) (hb : Below w.heap.size w w') : QAt B w' qb xs gone := by
  obtain ⟨mb, cv, D, h⟩ := h
  exact ⟨mb, cv, D, h.mem.keep hb, h.rd⟩
theorem QMem.mapped {w' : World} {D' : DataW Unit} {n' : Nat} (h : QMem B w qb mb cv D n xs) (hm : w'.ownsMap Tryz.prog 3 (plainElem Tryz.prog 3) mb n' D') (hg : w.grownBy w' (some mb)) : QMem B w' qb mb cv D' n' xs :=
  ⟨by rw [hg.block qb h.lt (by intro e; cases e; exact h.ne rfl)]; exact h.blk, h.row.kept hg (.inr h.rowM), hm, h.ge, h.ge'⟩
theorem QParts.has (h : QParts B w qb mb cv D xs gone) (x : Int) : Maps.has D (.int .i64 x) = (placeG xs gone x).isSome := h.rd.has x
theorem QParts.at (h : QParts B w qb mb cv D xs gone) {x c : Int} (hat : D.atKey (.int .i64 x) (.lit (.int .i64 0)) = .lit (.int .i64 c)) : c = ((placeG xs gone x).getD 0 : Nat) := by
  cases hp : placeG xs gone x with
  | none =>
    have := h.rd.has x
    rw [hp] at this
    rw [atKey_of_not_has this] at hat
    injection hat with hat
    injection hat with _ hat
    simp [← hat]
  | some i =>
    rw [h.rd.val x i hp] at hat
    injection hat with hat
    injection hat with _ hat
    simp [← hat]
end

end Go.Proofs.YtojajaibeifhoaaGreatDoor
namespace Go.Proofs.YtojajaibeifhoaaGreatDoor
open Go.RowKit Go.Maps Pl Il

theorem QMem.appended {B : Nat} {w w' : World} {qb mb g c n : Nat} {cv : Value} {D : DataW Unit} {xs : List Int} {x : Int} (h : QMem B w qb mb cv D n xs) (hr : w'.ownsRow B 3 1 (.slice (some ⟨g, 0, none⟩) (xs.length + 1) c) (xs.length + 1) ((xs ++ [x]).map (Value.int .i64)))
    (hg : w.grownBy w' cv.ownBlock) (hl : cv.ownBlock = some g ∨ w.heap.size ≤ g) :
    QMem B (w'.setCell ⟨qb, 0, none⟩ (.slice (some ⟨g, 0, none⟩) (xs.length + 1) c)) qb mb (.slice (some ⟨g, 0, none⟩) (xs.length + 1) c) D n (xs ++ [x]) := by
  have hq : w'.heap[qb]? = some (.cells #[cv, .map (some mb)] 162 (0, 0)) := by
    rw [hg.block qb h.lt (fun e => h.rowQ e.symm)]; exact h.blk
  have hgq : g ≠ qb := by
    rcases hl with hl | hl
    · intro e; subst e; exact h.rowQ hl
    · have := h.lt; omega
  have hm := (h.map.kept hg (fun e => h.rowM e.symm)).setCell (a := ⟨qb, 0, none⟩) h.ne (.slice (some ⟨g, 0, none⟩) (xs.length + 1) c)
  have hs : w'.grownBy (w'.setCell ⟨qb, 0, none⟩ (.slice (some ⟨g, 0, none⟩) (xs.length + 1) c)) (some qb) := ⟨rfl, rfl, rfl, by simp, fun k _ hk => Below.heap_setCell _ _ _ _ (by rintro rfl; exact hk rfl)⟩
  refine ⟨?_, ?_, hm, h.ge, h.ge'⟩
  · have hlt : qb < w'.heap.size := by
      rcases Nat.lt_or_ge qb w'.heap.size with k | k
      · exact k
      · rw [Array.getElem?_eq_none k] at hq; cases hq
    have hq' : w'.heap[qb] = .cells #[cv, .map (some mb)] 162 (0, 0) := by
      rw [Array.getElem?_eq_getElem hlt] at hq
      exact Option.some.inj hq
    simp [World.setCell, Array.getElem_modify, hlt, hq']
  · have := hr.kept hs (.inr (by simp [Value.ownBlock]; exact hgq))
    simpa using this

theorem QMem.mono {B : Nat} {w : World} {qb mb n n' : Nat} {cv : Value} {D : DataW Unit} {xs : List Int} (h : QMem B w qb mb cv D n xs) (hn : n ≤ n') : QMem B w qb mb cv D n' xs := ⟨h.blk, h.row, h.map.mono hn, h.ge, h.ge'⟩
/-- What is needed of the world at the walk's last store. -/
theorem QMem.ready {B : Nat} {w : World} {qb mb n : Nat} {cv : Value} {D : DataW Unit} {xs : List Int} (x : Int) (h : QMem B w qb mb cv D n xs) (hn : xs.length ≤ 2097152) : ∃ (g c : Nat) (w' : World),
    (Builtin.append_ #[36, 36] 36 #[cv, .slice (some ⟨w.heap.size, 0, none⟩) 1 1]).run Tryz.prog (w.alloc (.cells #[.int .i64 x] 3)) = .ok (.slice (some ⟨g, 0, none⟩) (xs.length + 1) c) w' ∧
    QMem B (w'.setCell ⟨qb, 0, none⟩ (.slice (some ⟨g, 0, none⟩) (xs.length + 1) c)) qb mb (.slice (some ⟨g, 0, none⟩) (xs.length + 1) c) D n (xs ++ [x]) ∧
    Below B w (w'.setCell ⟨qb, 0, none⟩ (.slice (some ⟨g, 0, none⟩) (xs.length + 1) c)) ∧ w'.cell? ⟨qb, 0, none⟩ = some cv ∧ w'.frozen? ⟨qb, 0, none⟩ = false := by
  obtain ⟨g, c, w', hr, ho, hg, hl⟩ := append_own1 B xs.length cv xs x w h.row h.size (by omega)
  refine ⟨g, c, w', hr, h.appended ho hg hl, ((Below.refl _ _).grown hg h.size (fun k hk => (h.row.lt k hk).1)).setCell (p := ⟨qb, 0, none⟩) h.ge _, ?_, ?_⟩
  · rw [← h.c0]; exact World.cell?_of_block (hg.block qb h.lt (fun e => h.rowQ e.symm))
  · rw [← h.f0]; exact World.frozen?_of_block (hg.block qb h.lt (fun e => h.rowQ e.symm))

theorem join_any (B qb : Nat) (xs : List Int) (x : Int) (w : World) (hQ : QAt B w qb xs []) (hx : (Lit.int .i64 x).wf = true) (hn : xs.length ≤ 2097152) :
    Calls Tryz.prog 155 #[.pointer (some ⟨qb, 0, none⟩), .int .i64 x] w fun e w' => e = .returned (.tuple #[]) ∧ QAt B w' qb (xs ++ [x]) [] ∧ Below B w w' := by
  obtain ⟨mb, cv, D, hq⟩ := hQ
  have hkey := keyOf_int_mk Tryz.underlying3 hx
  have c0 := hq.mem.c0
  have c1 := hq.mem.c1
  have hown := hq.mem.map
  have hh := hq.has x
  rw [place_isSome] at hh
  cases hhas : hasL xs x
  · rw [hhas] at hh
    obtain ⟨a, ca, rfl, _⟩ := hq.mem.form
    have hwl : (Lit.int .i64 (xs.length : Int)).wf = true := WalkArith.wf_i64 (by omega)
    obtain ⟨w1, hrun, hown1, hturn1⟩ := World.ownsMap.store (t := 160) (e := 3) hown.drew law3 Tryz.underlying160 (by unfold maxLen; omega) hkey (plainElem_int Tryz.underlying3 hwl)
    have hM1 := (hq.mem.keep (Below.refl _ w).drew).mapped hown1 hturn1.grown
    have hb1 : Below B w w1 := (Below.refl _ w).drew.grown hturn1.grown hq.mem.size (fun k hk => by cases hk; exact hq.mem.ge')
    have hrd := hq.rd.join_new (hown.tidy law3) hhas
    obtain ⟨g, c, w', hr, hP, hb, c0', f0'⟩ := hM1.ready x hn
    have d0 := hM1.c0
    have d1 := hM1.c1
    have Hr := hidOf hr
    have HP := hidOf hP
    have hb2 := hb1.trans hb
    clear hr hP hq hown1 hturn1 hM1 hb1 hb
    go_enter Tryz.func155, Tryz.ntmps155
    go_wp2_with (first
      | (at_lookup; refine wpList_lookup_own_ok_int _ rfl _ _ 160 rfl 3 3 .i64 law3 Tryz.underlying160 Tryz.underlying3 (zero3 _) mb _ D rfl hown _ _ rfl hkey ?_; intro c0 hat hwc)
      | go_in)
    go_region_with (fail)
    all_goals go_wp2_with (first
      | (at_builtin; refine wpList_append_run rfl _ _ 36 rfl _ _ _ rfl rfl Hr.out ?_)
      | go_in)
    all_goals go_end0
    all_goals exact ⟨rfl, ⟨mb, _, _, HP.out.mono (by simp), hrd⟩, hb2⟩
  · rw [hhas] at hh
    obtain ⟨g, c, w', hr, hP, hb, c0', f0'⟩ := hq.mem.ready x hn
    have hrd := hq.rd.join_old hhas
    obtain ⟨a, ca, rfl, _⟩ := hq.mem.form
    have Hr := hidOf hr
    have HP := hidOf hP
    clear hr hP hq
    go_enter Tryz.func155, Tryz.ntmps155
    go_wp2_with (first
      | (at_lookup; refine wpList_lookup_own_ok_int _ rfl _ _ 160 rfl 3 3 .i64 law3 Tryz.underlying160 Tryz.underlying3 (zero3 _) mb _ D rfl hown _ _ rfl hkey ?_; intro c0 hat hwc)
      | (at_builtin; refine wpList_append_run rfl _ _ 36 rfl _ _ _ rfl rfl Hr.out ?_)
      | go_in)
    go_end0
    exact ⟨rfl, ⟨mb, _, _, HP.out.mono (by simp), hrd⟩, hb⟩
end Go.Proofs.YtojajaibeifhoaaGreatDoor
namespace Go.Proofs.YtojajaibeifhoaaGreatDoor
open Go.RowKit Go.Maps Pl Il

theorem QAt.new (w : World) : QAt w.heap.size ((w.alloc (.map #[] 0)).alloc (.cells #[.slice none 0 0, .map (some w.heap.size)] 162 (0, 0))) (w.heap.size + 1) [] [] := by
  refine ⟨w.heap.size, .slice none 0 0, .map [], ⟨?_, ⟨rfl, .inl ⟨rfl, rfl⟩⟩, ?_, by omega, Nat.le_refl _⟩, Reads.empty⟩
  · have := heap_alloc_new (w.alloc (.map #[] 0)) (.cells #[.slice none 0 0, .map (some w.heap.size)] 162 (0, 0))
    simpa using this
  · exact (World.ownsMap_made w _ _ _).alloc _

theorem queueOf_any (a : Option Addr) (n cap : Nat) (xs : List Int) (w : World) (hI : IntsAt w a n xs) (hn : n ≤ 2097152) (hw : wfL xs) :
    Calls Tryz.prog 127 #[.slice a n cap] w fun e w' => ∃ qb, e = .returned (.pointer (some ⟨qb, 0, none⟩)) ∧ QAt w.heap.size w' qb xs [] ∧ Below w.heap.size w w' := by
  have hmm := @run_makeMap Tryz.prog
  have hS := QAt.new w
  have hbS : Below w.heap.size w ((w.alloc (.map #[] 0)).alloc (.cells #[.slice none 0 0, .map (some w.heap.size)] 162 (0, 0))) := bl_alloc (bl_alloc (Below.refl _ _) _) _
  obtain ⟨hlen, rfl | ⟨b, off, rfl, hb, hcell⟩⟩ := hI
  · have hx : xs = [] := List.length_eq_zero_iff.1 hlen
    subst hx
    go_enter Tryz.func127, Tryz.ntmps127
    go_wp2
    go_loopw [11] (fun i wr => i = .int .i64 0 ∧ QAt w.heap.size wr (w.heap.size + 1) [] [] ∧ Below w.heap.size w wr) (fun _ _ => 0)
    case atStart => exact ⟨rfl, hS, hbS⟩
    case round =>
      obtain ⟨rfl, hq, hbr⟩ := hrel
      go_wp2
      go_ret
      exact ⟨_, rfl, hq, hbr⟩
  · go_enter Tryz.func127, Tryz.ntmps127
    go_wp2
    go_loopw [11] (fun i wr => ∃ k : Nat, k ≤ n ∧ i = .int .i64 k ∧ QAt w.heap.size wr (w.heap.size + 1) (xs.take k) [] ∧ Below w.heap.size w wr) (fun i _ => n - (intOf i).toNat)
    case atStart => exact ⟨0, Nat.zero_le _, rfl, hS, hbS⟩
    case round =>
      rename_i wr
      obtain ⟨k, hk, rfl, hq, hbr⟩ := hrel
      clear hS hbS hmm
      by_cases hlt : k < n
      · have hc : wr.cell? ⟨b, off + k, none⟩ = some (.int .i64 (xs.getD k 0)) := by rw [hbr.cell (p := ⟨b, off + k, none⟩) hb]; exact hcell k hlt
        have hwk := wf_at hw (k := k) (by omega)
        have hcall := join_any w.heap.size (w.heap.size + 1) (xs.take k) (xs.getD k 0) wr hq hwk (by rw [List.length_take]; omega)
        have hst : xs.take k ++ [xs.getD k 0] = xs.take (k + 1) := by
          rw [List.take_succ_eq_append_getElem (by omega)]
          simp [List.getD, List.getElem?_eq_getElem (show k < xs.length by omega)]
        rw [hst] at hcall
        generalize xs.getD k 0 = y at hc hcall
        have HC := hidOf hcall
        clear hcell hcall hq hst
        go_wp2_with fail
        refine (HC.out).mono ?_
        rintro e w1 ⟨rfl, hq1, hb1⟩
        go_wp2
        go_roundw
        case rel => exact ⟨k + 1, by omega, by go_num, hq1, hbr.trans hb1⟩
        case measure => simp [intOf]; omega
      · obtain rfl : k = n := by omega
        clear hcell
        rw [List.take_of_length_le (by omega)] at hq
        go_wp2
        go_ret
        exact ⟨_, rfl, hq, hbr⟩

theorem line_noclient {xs : List Int} {k : Nat} {y : Int} (hk : k < xs.length) (hy : xs.getD k 0 = y) (h : clientL y = false) : lineL xs = false := line_bad hk hy (.inl h)

end Go.Proofs.YtojajaibeifhoaaGreatDoor
namespace Go.Proofs.YtojajaibeifhoaaGreatDoor
open Go.RowKit Go.Maps Pl Il

theorem QParts.look {B : Nat} {w : World} {qb mb : Nat} {cv : Value} {D : DataW Unit} {xs gone : List Int} (h : QParts B w qb mb cv D xs gone) {x : Int} (hx : (Lit.int .i64 x).wf = true) {p : Option Nat} (hp : placeG xs gone x = p) :
    (Instr.lookup 160 (.map (some mb)) (.int .i64 x) true).run Tryz.prog w = .ok (.tuple #[.int .i64 (p.getD 0 : Nat), .bool p.isSome]) w := by
  obtain ⟨v, ps, hrun, hv⟩ := h.mem.map.look_ok (t := 160) (e := 3) law3 Tryz.underlying160 (zero3 _) (plainElem_int Tryz.underlying3 (by decide)) (keyOf_int_mk Tryz.underlying3 hx)
  obtain ⟨c, rfl, hc, _⟩ := plainElem_int_inv Tryz.underlying3 hv
  rw [hrun, h.has x, h.at (congrArg Prod.fst hc), hp]

theorem append_more (B m : Nat) (v : Value) (ys : List Int) (x : Int) (w w0 : World) (hB : B = w0.heap.size) (ho : w.ownsRow B 3 1 v m (ys.map (Value.int .i64))) (hb : Below B w0 w) (hs : m + 1 ≤ 4194304) :
    ∃ (g' c' : Nat) (w' : World), (Builtin.append_ #[36, 36] 36 #[v, .slice (some ⟨w.heap.size, 0, none⟩) 1 1]).run Tryz.prog (w.alloc (.cells #[.int .i64 x] 3)) = .ok (.slice (some ⟨g', 0, none⟩) (m + 1) c') w' ∧
      w'.ownsRow B 3 1 (.slice (some ⟨g', 0, none⟩) (m + 1) c') (m + 1) ((ys ++ [x]).map (Value.int .i64)) ∧ Below B w0 w' := by
  subst hB
  obtain ⟨g, c, w', hr, ho', hg, _⟩ := append_own1 _ m v ys x w ho hb.size hs
  exact ⟨g, c, w', hr, ho', hb.grown hg hb.size (fun k hk => (ho.lt k hk).1)⟩

end Go.Proofs.YtojajaibeifhoaaGreatDoor
