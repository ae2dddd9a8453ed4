/-
  Walks of the laws' own helpers on terms: made anew, compared, weighed
  Slices of subscribers in memory: seven cells each, the last one a slic
  A variable of a struct type: its cells as a list; what leaves them alo
  Walks of the laws' own helpers on subscribers that are the same: compa
-/
import Derived.Test.YtdboaoejlkkoeaaGreatZPo0
import Derived.ChangeOld
import Derived.Deep.SlicePairs
import Derived.Laws.BytesArg
import Derived.Lib.SmallJoins
import Derived.OpenShut
import Derived.ProofKit
namespace Go.Proofs.YtdboaoejlkkoeaaGreat
open Go.RowKit Pl Il
theorem cellK {w w' : World} {a : Addr} {v : Value} (h : w.cell? a = some v) (hb : Below w.heap.size w w') : w'.cell? a = some v := by
  rw [hb.cell (p := a) (World.block_lt_of_cell? w a h)]; exact h
open Go.RowKit Pl Il
def setL (w : World) (g : Nat) : Nat → List Value → World
  | _, [] => w
  | o, v :: vs => setL (w.setCell ⟨g, o, none⟩ v) g (o + 1) vs
theorem setL_other {g : Nat} : ∀ {vs : List Value} {w : World} {o p : Nat}, (p < o ∨ o + vs.length ≤ p) → (setL w g o vs).cell? ⟨g, p, none⟩ = w.cell? ⟨g, p, none⟩
  | [], _, _, _, _ => rfl
  | v :: vs, w, o, p, h => by
    unfold setL
    simp only [List.length_cons] at h
    rw [setL_other (by omega), World.cell?_setCell_other _ _ _ _ (by intro e'; injection e' with _ e2; omega)]
theorem setL_same {g : Nat} : ∀ {vs : List Value} {w : World} {o : Nat}, (∀ i, i < vs.length → ∃ v, w.cell? ⟨g, o + i, none⟩ = some v) → ∀ i (hi : i < vs.length), (setL w g o vs).cell? ⟨g, o + i, none⟩ = some vs[i]
  | [], _, _, _, i, hi => by simp at hi
  | v :: vs, w, o, h, 0, _ => by
    unfold setL
    rw [setL_other (by left; omega)]
    obtain ⟨u, hu⟩ := h 0 (by simp)
    exact World.cell?_setCell_same _ _ _ hu
  | v :: vs, w, o, h, i + 1, hi => by
    unfold setL
    have := setL_same (g := g) (vs := vs) (w := w.setCell ⟨g, o, none⟩ v) (o := o + 1) (fun j hj => by
      obtain ⟨u, hu⟩ := h (j + 1) (by simp; omega)
      exact ⟨u, by rw [World.cell?_setCell_other _ _ _ _ (by intro e'; injection e' with _ e2; omega), show o + 1 + j = o + (j + 1) by omega]; exact hu⟩) i (by simpa using hi)
    rw [show o + 1 + i = o + (i + 1) by omega] at this
    rw [this]
    rfl
theorem setL_fr {g : Nat} : ∀ {vs : List Value} {w : World} {o : Nat} (a : Addr), (setL w g o vs).frozen? a = w.frozen? a
  | [], _, _, _ => rfl
  | v :: vs, w, o, a => by unfold setL; rw [setL_fr]; simp
theorem setL_size {g : Nat} : ∀ {vs : List Value} {w : World} {o : Nat}, (setL w g o vs).heap.size = w.heap.size
  | [], _, _ => rfl
  | v :: vs, w, o => by unfold setL; rw [setL_size]; simp
theorem setL_below {g B : Nat} (hg : B ≤ g) : ∀ {vs : List Value} {w u : World} {o : Nat}, Below B w u → Below B w (setL u g o vs)
  | [], _, _, _, h => h
  | v :: vs, w, u, o, h => by unfold setL; exact setL_below hg (h.setCell (p := ⟨g, o, none⟩) hg _)
theorem setL_block {g k : Nat} (hk : k ≠ g) : ∀ {vs : List Value} {w : World} {o : Nat}, (setL w g o vs).heap[k]? = w.heap[k]?
  | [], _, _ => rfl
  | v :: vs, w, o => by unfold setL; rw [setL_block hk, Below.heap_setCell _ _ _ _ hk]
theorem setL_grown {g : Nat} {w u : World} {o : Nat} {vs : List Value} (h : w.grownBy u (some g)) : w.grownBy (setL u g o vs) (some g) := by
  have hos : ∀ {vs : List Value} {u : World} {o : Nat}, (setL u g o vs).os = u.os ∧ (setL u g o vs).tape = u.tape ∧ (setL u g o vs).output = u.output := by
    intro vs
    induction vs with
    | nil => intro u o; exact ⟨rfl, rfl, rfl⟩
    | cons v vs ih => intro u o; unfold setL; obtain ⟨a, b, c⟩ := ih (u := u.setCell ⟨g, o, none⟩ v) (o := o + 1); exact ⟨a, b, c⟩
  obtain ⟨h1, h2, h3, h4, h5⟩ := h
  obtain ⟨e1, e2, e3⟩ := hos (vs := vs) (u := u) (o := o)
  exact ⟨e1.trans h1, e2.trans h2, e3.trans h3, by rw [setL_size]; exact h4, fun k hk hne => by rw [setL_block (by rintro rfl; exact hne rfl)]; exact h5 k hk hne⟩
structure Sb where
  id : Int
  st : Int
  cu : Int
  gt : Int
  lo : Int
  pa : Int
  fl : List Tm
structure Sa where
  s : Sb
  a : Option Addr
  n : Nat
  c : Nat
def Sa.zero : Sa := ⟨⟨0, 0, 0, 0, 0, 0, []⟩, none, 0, 0⟩
def sg (xs : List Sa) (i : Nat) : Sa := xs.getD i Sa.zero
def svs (xs : List Sa) : List Sb := xs.map (·.s)
abbrev sC (x : Sa) : List Value := [.int .i64 x.s.id, .int .i64 x.s.st, .int .i64 x.s.cu, .int .i64 x.s.gt, .int .i64 x.s.lo, .int .i64 x.s.pa, .slice x.a x.n x.c]
theorem sg_eq {l : List Sa} {i : Nat} (h : i < l.length) : sg l i = l[i] := by unfold sg; rw [List.getD_eq_getElem?_getD, List.getElem?_eq_getElem h]; rfl
theorem sg_mem {l : List Sa} {k : Nat} (h : k < l.length) : sg l k ∈ l := by rw [sg_eq h]; exact List.getElem_mem h
structure SCell (w : World) (b o : Nat) (x : Sa) : Prop where
  c0 : w.cell? ⟨b, o, none⟩ = some (.int .i64 x.s.id)
  c1 : w.cell? ⟨b, o + 1, none⟩ = some (.int .i64 x.s.st)
  c2 : w.cell? ⟨b, o + 2, none⟩ = some (.int .i64 x.s.cu)
  c3 : w.cell? ⟨b, o + 3, none⟩ = some (.int .i64 x.s.gt)
  c4 : w.cell? ⟨b, o + 4, none⟩ = some (.int .i64 x.s.lo)
  c5 : w.cell? ⟨b, o + 5, none⟩ = some (.int .i64 x.s.pa)
  c6 : w.cell? ⟨b, o + 6, none⟩ = some (.slice x.a x.n x.c)
theorem SCell.same {w u : World} {b o : Nat} {x : Sa} (h : SCell w b o x) (he : ∀ i, i < 7 → u.cell? ⟨b, o + i, none⟩ = w.cell? ⟨b, o + i, none⟩) : SCell u b o x :=
  ⟨(he 0 (by omega)).trans h.c0, (he 1 (by omega)).trans h.c1, (he 2 (by omega)).trans h.c2, (he 3 (by omega)).trans h.c3, (he 4 (by omega)).trans h.c4, (he 5 (by omega)).trans h.c5, (he 6 (by omega)).trans h.c6⟩
theorem SCell.below {w u : World} {b o B : Nat} {x : Sa} (h : SCell w b o x) (hb : Below B w u) (hB : b < B) : SCell u b o x := h.same fun i _ => hb.cell (p := ⟨b, o + i, none⟩) hB
structure SubAt (w : World) (a : Option Addr) (n : Nat) (xs : List Sa) : Prop where
  len : xs.length = n
  fil : ∀ x, x ∈ xs → TmAt w x.a x.n x.s.fl
  row : n = 0 ∨ ∃ b off, a = some ⟨b, off, none⟩ ∧ b < w.heap.size ∧ ∀ i, i < n → SCell w b (off + i * 7) (sg xs i)
theorem SubAt.keep {w w' : World} {a : Option Addr} {n : Nat} {xs : List Sa} (h : SubAt w a n xs) (hb : Below w.heap.size w w') : SubAt w' a n xs := by
  refine ⟨h.len, fun x hx => (h.fil x hx).keep hb, ?_⟩
  rcases h.row with k | ⟨b, off, rfl, hlt, hc⟩
  · exact .inl k
  · exact .inr ⟨b, off, rfl, Nat.lt_of_lt_of_le hlt hb.size, fun i hi => (hc i hi).below hb hlt⟩
theorem SubAt.nil (w : World) (a : Option Addr) : SubAt w a 0 [] := ⟨rfl, fun p hp => (by cases hp), .inl rfl⟩
theorem SubAt.lt {w : World} {a : Option Addr} {n : Nat} {xs : List Sa} (h : SubAt w a n xs) : n = 0 ∨ ∀ b off, a = some ⟨b, off, none⟩ → b < w.heap.size := by
  rcases h.row with k | ⟨b, off, rfl, hlt, hc⟩
  · exact .inl k
  · exact .inr fun b' o' e => by cases e; exact hlt
def Far (a : Option Addr) (n : Nat) (a' : Option Addr) (n' : Nat) : Prop := n = 0 ∨ n' = 0 ∨ ∀ b off b' off', a = some ⟨b, off, none⟩ → a' = some ⟨b', off', none⟩ → b ≠ b'
theorem Far.symm {a a' : Option Addr} {n n' : Nat} (h : Far a n a' n') : Far a' n' a n := by
  rcases h with h | h | h
  · exact .inr (.inl h)
  · exact .inl h
  · exact .inr (.inr fun b off b' off' e e' => (h b' off' b off e' e).symm)
structure OwnS (B : Nat) (w : World) (a : Option Addr) (n : Nat) (xs : List Sa) : Prop where
  sub : SubAt w a n xs
  own : n = 0 ∨ ∃ b off, a = some ⟨b, off, none⟩ ∧ B ≤ b ∧ ∀ o, w.frozen? ⟨b, o, none⟩ = false
  fow : ∀ x, x ∈ xs → OwnF B w x.a x.n x.s.fl
  apt : xs.Pairwise fun x y => Far x.a x.n y.a y.n
  apa : ∀ x, x ∈ xs → Far a n x.a x.n
theorem OwnS.keep {B : Nat} {w w' : World} {a : Option Addr} {n : Nat} {xs : List Sa} (h : OwnS B w a n xs) (hb : Below w.heap.size w w') : OwnS B w' a n xs := by
  refine ⟨h.sub.keep hb, ?_, fun x hx => (h.fow x hx).keep hb, h.apt, h.apa⟩
  rcases h.own with k | ⟨b, off, rfl, hB, hf⟩
  · exact .inl k
  · rcases h.sub.row with k | ⟨b', off', e, hlt, _⟩
    · exact .inl k
    · cases e
      exact .inr ⟨b, off, rfl, hB, fun o => by rw [hb.frozen (p := ⟨b, o, none⟩) hlt]; exact hf o⟩
theorem OwnS.mono {B B' : Nat} {w : World} {a : Option Addr} {n : Nat} {xs : List Sa} (h : OwnS B w a n xs) (hB : B' ≤ B) : OwnS B' w a n xs := by
  refine ⟨h.sub, ?_, fun x hx => (h.fow x hx).mono hB, h.apt, h.apa⟩
  rcases h.own with k | ⟨b, off, rfl, hb, hf⟩
  · exact .inl k
  · exact .inr ⟨b, off, rfl, Nat.le_trans hB hb, hf⟩
open Go.RowKit Pl Il
theorem bl_setB {B : Nat} {w u : World} (h : Below B w u) (N o : Nat) (hN : B ≤ N) (v : Value) : Below B w (u.setCell ⟨N, o, none⟩ v) := h.setCell (p := ⟨N, o, none⟩) hN v
structure BoxL (N : Nat) (vs : List Value) (w : World) : Prop where
  lt : N < w.heap.size
  cs : ∀ i (hi : i < vs.length), w.cell? ⟨N, i, none⟩ = some vs[i]
  fr : ∀ o, w.frozen? ⟨N, o, none⟩ = false
section
variable {N : Nat} {vs : List Value} {w w' : World}
theorem BoxL.new (w : World) (vs : List Value) (t : TypeId) : BoxL w.heap.size vs (w.alloc (.cells vs.toArray t)) :=
  ⟨by simp, fun i hi => by rw [World.cell?_alloc_new]; simp [hi], fun o => by simp [go_sem]⟩
theorem BoxL.of_block (h : BoxL N vs w) (key : w'.heap[N]? = w.heap[N]?) (hs : N < w'.heap.size) : BoxL N vs w' :=
  ⟨hs, fun i hi => by rw [← h.cs i hi]; exact World.cell?_of_block key, fun o => by rw [← h.fr o]; exact World.frozen?_of_block key⟩
theorem BoxL.below {B : Nat} (h : BoxL N vs w) (hb : Below B w w') (hN : N < B) : BoxL N vs w' := h.of_block (hb.block N hN) (Nat.lt_of_lt_of_le h.lt hb.size)
theorem BoxL.keep (h : BoxL N vs w) (hb : Below w.heap.size w w') : BoxL N vs w' := h.below hb h.lt
theorem BoxL.alloc (h : BoxL N vs w) (o : Obj) : BoxL N vs (w.alloc o) := h.keep (bl_alloc (Below.refl _ _) o)
theorem BoxL.far (h : BoxL N vs w) (M o : Nat) (hM : N ≠ M) (y : Value) : BoxL N vs (w.setCell ⟨M, o, none⟩ y) := h.of_block (Below.heap_setCell w ⟨M, o, none⟩ y N hM) (by simpa using h.lt)
theorem BoxL.grown {g : Option Nat} (h : BoxL N vs w) (hg : w.grownBy w' g) (hN : g ≠ some N) : BoxL N vs w' := h.of_block (hg.block N h.lt (fun e => hN e.symm)) (Nat.lt_of_lt_of_le h.lt hg.size)
theorem BoxL.set (h : BoxL N vs w) (i : Nat) (hi : i < vs.length) (v : Value) : BoxL N (vs.set i v) (w.setCell ⟨N, i, none⟩ v) := by
  refine ⟨by simpa using h.lt, fun j hj => ?_, fun o => by simpa using h.fr o⟩
  have hj' : j < vs.length := by simpa using hj
  by_cases e : j = i
  · subst e
    rw [World.cell?_setCell_same _ _ _ (h.cs j hj')]
    simp
  · rw [World.cell?_setCell_other _ _ _ _ (by intro e'; injection e' with _ e2; exact e e2.symm), h.cs j hj', List.getElem_set_ne (by omega)]
end
open Go.RowKit Pl Il
theorem svs_at {xs ys : List Sa} (h : svs xs = svs ys) {k : Nat} (hk : k < xs.length) : (sg ys k).s = (sg xs k).s := by
  have hl : xs.length = ys.length := by have := congrArg List.length h; simpa [svs] using this
  rw [sg_eq hk, sg_eq (by omega)]
  have h1 : (svs xs)[k]? = (svs ys)[k]? := by rw [h]
  simp only [svs, List.getElem?_map, List.getElem?_eq_getElem hk, List.getElem?_eq_getElem (show k < ys.length by omega), Option.map_some] at h1
  injection h1 with h1
  exact h1.symm
open Go.RowKit Pl Il
theorem infoMs : (Tryz.prog.info? 30).map (fun i => (i.zero, i.size, i.bytes)) = some (some (.agg #[.int .i64 0, .int .i64 0, .string ⟨#[]⟩]), 3, 32) := by kernel_rfl
theorem make_msgs (n : Nat) (hn : n ≤ 2097152) (w : World) : (Instr.makeSlice 24 (.int .i64 (n : Int)) (.int .i64 (n : Int))).run Tryz.prog w = .ok (.slice (some ⟨w.heap.size, 0, none⟩) n n) (w.alloc (.cells (madeCells (Value.agg #[.int .i64 0, .int .i64 0, .string ⟨#[]⟩]).cells (n * 3)) 30)) := by
  obtain ⟨i, hi, hz0, hz1, hz2⟩ := info_parts infoMs
  have := run_make (P := Tryz.prog) w 24 30 i (.agg #[.int .i64 0, .int .i64 0, .string ⟨#[]⟩]) Tryz.underlying24 hi hz0 .i64 .i64 (n : Int) (n : Int) (by omega) (by omega) (by rw [hz2]; omega) (by omega)
  rw [hz1] at this
  simpa using this
open Go.RowKit Pl Il
structure Rv where
  cp : Int
  se : Int
  it : List Tm
  nx : Int
  sb : List Sb
  ln : List Int
  gs : List Int
  cl : Bool
structure Rm where
  ia : Option Addr
  i : Nat
  ic : Nat
  sa : Option Addr
  s : Nat
  sc : Nat
  xs : List Sa
  la : Option Addr
  l : Nat
  lc : Nat
  ga : Option Addr
  g : Nat
  gc : Nat
abbrev rC (M : Rm) (v : Rv) : List Value := [.int .i64 v.cp, .int .i64 v.se, .slice M.ia M.i M.ic, .int .i64 v.nx, .slice M.sa M.s M.sc, .slice M.la M.l M.lc, .slice M.ga M.g M.gc, .bool v.cl]
structure RIn (w : World) (M : Rm) (v : Rv) : Prop where
  it : TmAt w M.ia M.i v.it
  sb : SubAt w M.sa M.s M.xs
  sv : svs M.xs = v.sb
  ln : IntsAt w M.la M.l v.ln
  gs : IntsAt w M.ga M.g v.gs
theorem RIn.keep {w w' : World} {M : Rm} {v : Rv} (h : RIn w M v) (hb : Below w.heap.size w w') : RIn w' M v := ⟨h.it.keep hb, h.sb.keep hb, h.sv, h.ln.keep hb, h.gs.keep hb⟩
structure RLe (M : Rm) (k : Nat) : Prop where
  i : M.i ≤ k
  s : M.s ≤ k
  f : ∀ x, x ∈ M.xs → x.n ≤ k
  l : M.l ≤ k
  g : M.g ≤ k
theorem RLe.mono {M : Rm} {k k' : Nat} (h : RLe M k) (hk : k ≤ k') : RLe M k' := ⟨Nat.le_trans h.i hk, Nat.le_trans h.s hk, fun x hx => Nat.le_trans (h.f x hx) hk, Nat.le_trans h.l hk, Nat.le_trans h.g hk⟩
theorem eqLR_self (xs : List Int) : eqL xs xs = true := by simp [eqL]
open Go.RowKit Pl Il
theorem OwnS.other {B b : Nat} {w w' : World} {a : Option Addr} {n : Nat} {xs : List Sa} (h : OwnS B w a n xs) (hg : w.grownBy w' (some b)) (hne : n = 0 ∨ ∀ b' off', a = some ⟨b', off', none⟩ → b ≠ b') (hfe : ∀ x, x ∈ xs → x.n = 0 ∨ ∀ b' off', x.a = some ⟨b', off', none⟩ → b ≠ b') : OwnS B w' a n xs := by
  refine ⟨⟨h.sub.len, fun x hx => ((h.fow x hx).other hg (hfe x hx)).tm, ?_⟩, ?_, fun x hx => (h.fow x hx).other hg (hfe x hx), h.apt, h.apa⟩
  · rcases h.sub.row with k | ⟨b1, off1, rfl, hlt, hc⟩
    · exact .inl k
    · rcases hne with k | hne
      · exact .inl k
      · have hb := hne b1 off1 rfl
        have key := hg.block b1 hlt (fun e => hb (by injection e with e; exact e.symm))
        exact .inr ⟨b1, off1, rfl, Nat.lt_of_lt_of_le hlt hg.size, fun i hi => (hc i hi).same fun j _ => World.cell?_of_block key⟩
  · rcases h.own with k | ⟨b1, off1, rfl, hB, hf⟩
    · exact .inl k
    · rcases hne with k | hne
      · exact .inl k
      · rcases h.sub.row with k | ⟨b2, off2, e, hlt, _⟩
        · exact .inl k
        · cases e
          have hb := hne b1 off1 rfl
          have key := hg.block b1 hlt (fun e => hb (by injection e with e; exact e.symm))
          exact .inr ⟨b1, off1, rfl, hB, fun o => by rw [← hf o]; exact World.frozen?_of_block key⟩
theorem OwnS.far {B : Nat} {w : World} {a : Option Addr} {n : Nat} {xs : List Sa} (h : OwnS B w a n xs) (b o : Nat) (hb : b < B) (v : Value) : OwnS B (w.setCell ⟨b, o, none⟩ v) a n xs := by
  refine h.other (b := b) ⟨rfl, rfl, rfl, by simp, fun j _ hj => Below.heap_setCell _ _ _ _ (by rintro rfl; exact hj rfl)⟩ ?_ (fun x hx => ?_)
  · rcases h.own with k | ⟨b', off', e, hB, _⟩
    · exact .inl k
    · exact .inr fun b1 o1 e1 => by rw [e] at e1; cases e1; omega
  · rcases (h.fow x hx).own with k | ⟨b', off', e, hB, _⟩
    · exact .inl k
    · exact .inr fun b1 o1 e1 => by rw [e] at e1; cases e1; omega
def Und (a : Option Addr) (n K : Nat) : Prop := n = 0 ∨ ∀ b off, a = some ⟨b, off, none⟩ → b < K
def Abv (a : Option Addr) (n K : Nat) : Prop := n = 0 ∨ ∀ b off, a = some ⟨b, off, none⟩ → K ≤ b
theorem Und.mono {a : Option Addr} {n K K' : Nat} (h : Und a n K) (hk : K ≤ K') : Und a n K' := h.imp id fun h b off e => Nat.lt_of_lt_of_le (h b off e) hk
theorem Abv.mono {a : Option Addr} {n K K' : Nat} (h : Abv a n K) (hk : K' ≤ K) : Abv a n K' := h.imp id fun h b off e => Nat.le_trans hk (h b off e)
theorem Far.mk {a a' : Option Addr} {n n' K : Nat} (h : Und a n K) (h' : Abv a' n' K) : Far a n a' n' := by
  rcases h with h | h
  · exact .inl h
  · rcases h' with h' | h'
    · exact .inr (.inl h')
    · exact .inr (.inr fun b off b' off' e e' => by have := h b off e; have := h' b' off' e'; omega)
theorem und_ints {w : World} {a : Option Addr} {n : Nat} {xs : List Int} (h : IntsAt w a n xs) : Und a n w.heap.size := by
  rcases h.row with k | ⟨b', off', e, hlt, _⟩
  · exact .inl k
  · exact .inr fun b1 o1 e1 => by rw [e] at e1; cases e1; exact hlt
def allR (M : Rm) : List (Option Addr × Nat) := (M.ia, M.i) :: (M.sa, M.s) :: (M.la, M.l) :: (M.ga, M.g) :: M.xs.map fun x => (x.a, x.n)
def RCap (M : Rm) : Prop := M.i ≤ M.ic ∧ M.s ≤ M.sc ∧ M.l ≤ M.lc ∧ M.g ≤ M.gc ∧ ∀ x, x ∈ M.xs → x.n ≤ x.c
structure ROwn (B : Nat) (w : World) (M : Rm) (v : Rv) : Prop where
  it : OwnF B w M.ia M.i v.it
  sb : OwnS B w M.sa M.s M.xs
  sv : svs M.xs = v.sb
  ln : Il.OwnAt B w M.la M.l v.ln
  gs : Il.OwnAt B w M.ga M.g v.gs
  apt : (allR M).Pairwise fun p q => Far p.1 p.2 q.1 q.2
  cap : RCap M
theorem ROwn.rin {B : Nat} {w : World} {M : Rm} {v : Rv} (h : ROwn B w M v) : RIn w M v := ⟨h.it.tm, h.sb.sub, h.sv, h.ln.ints, h.gs.ints⟩
theorem ROwn.keep {B : Nat} {w w' : World} {M : Rm} {v : Rv} (h : ROwn B w M v) (hb : Below w.heap.size w w') : ROwn B w' M v := ⟨h.it.keep hb, h.sb.keep hb, h.sv, h.ln.keep hb, h.gs.keep hb, h.apt, h.cap⟩
theorem ROwn.mono {B B' : Nat} {w : World} {M : Rm} {v : Rv} (h : ROwn B w M v) (hB : B' ≤ B) : ROwn B' w M v := ⟨h.it.mono hB, h.sb.mono hB, h.sv, h.ln.mono hB, h.gs.mono hB, h.apt, h.cap⟩
theorem ROwn.far {B : Nat} {w : World} {M : Rm} {v : Rv} (h : ROwn B w M v) (b o : Nat) (hb : b < B) (x : Value) : ROwn B (w.setCell ⟨b, o, none⟩ x) M v := ⟨h.it.far b o hb x, h.sb.far b o hb x, h.sv, h.ln.far b o hb x, h.gs.far b o hb x, h.apt, h.cap⟩
open Go.RowKit Pl Il
structure TurnL (ls : List (Option Addr × Nat)) (w w' : World) : Prop where
  os : w'.os = w.os
  tape : w'.tape = w.tape
  output : w'.output = w.output
  size : w.heap.size ≤ w'.heap.size
  block : ∀ k, k < w.heap.size → (∀ p, p ∈ ls → 0 < p.2 → ∀ off, p.1 ≠ some ⟨k, off, none⟩) → w'.heap[k]? = w.heap[k]?
theorem TurnL.refl (ls : List (Option Addr × Nat)) (w : World) : TurnL ls w w := ⟨rfl, rfl, rfl, Nat.le_refl _, fun _ _ _ => rfl⟩
theorem TurnL.trans {ls : List (Option Addr × Nat)} {w w1 w2 : World} (h : TurnL ls w w1) (h' : TurnL ls w1 w2) : TurnL ls w w2 :=
  ⟨h'.os.trans h.os, h'.tape.trans h.tape, h'.output.trans h.output, Nat.le_trans h.size h'.size, fun k hk hn => (h'.block k (Nat.lt_of_lt_of_le hk h.size) hn).trans (h.block k hk hn)⟩
theorem TurnL.mono {ls ms : List (Option Addr × Nat)} {w w' : World} (h : TurnL ls w w') (hs : ∀ p, p ∈ ls → p ∈ ms) : TurnL ms w w' :=
  ⟨h.os, h.tape, h.output, h.size, fun k hk hn => h.block k hk fun p hp => hn p (hs p hp)⟩
theorem TurnL.ofBelow {ls : List (Option Addr × Nat)} {w w' : World} (h : Below w.heap.size w w') : TurnL ls w w' := ⟨h.os, h.tape, h.output, h.size, fun k hk _ => h.block k hk⟩
theorem TurnL.ofGrown {a : Option Addr} {n b off : Nat} {w w' : World} (hn : 0 < n) (ha : a = some ⟨b, off, none⟩) (h : w.grownBy w' (some b)) : TurnL [(a, n)] w w' :=
  ⟨h.os, h.tape, h.output, h.size, fun k hk hne => h.block k hk (by
    intro e
    injection e with e
    subst e
    exact hne (a, n) (by simp) hn off ha)⟩
theorem TurnL.below {ls : List (Option Addr × Nat)} {w w' : World} {B : Nat} (h : TurnL ls w w') (hB : B ≤ w.heap.size) (hl : ∀ p, p ∈ ls → Abv p.1 p.2 B) : Below B w w' :=
  ⟨h.os, h.tape, h.output, h.size, fun k hk => h.block k (by omega) fun p hp h0 off e => by
    rcases hl p hp with q | q
    · omega
    · have := q _ _ e; omega⟩
theorem TurnL.keepB {ls : List (Option Addr × Nat)} {w w' : World} (h : TurnL ls w w') {b off n : Nat} (hb : b < w.heap.size) (hn : 0 < n) (hf : ∀ p, p ∈ ls → Far p.1 p.2 (some ⟨b, off, none⟩) n) : w'.heap[b]? = w.heap[b]? :=
  h.block b hb fun p hp h0 off' e => by
    rcases hf p hp with q | q | q
    · omega
    · omega
    · exact q b off' b off e rfl rfl
theorem TmAt.turn {ls : List (Option Addr × Nat)} {w w' : World} {a : Option Addr} {n : Nat} {ts : List Tm} (h : TmAt w a n ts) (ht : TurnL ls w w') (hf : ∀ p, p ∈ ls → Far p.1 p.2 a n) : TmAt w' a n ts := by
  refine ⟨h.len, h.short, ?_⟩
  rcases Nat.eq_zero_or_pos n with h0 | h0
  · exact .inl h0
  rcases h.row with k | ⟨b, off, rfl, hlt, hc⟩
  · exact .inl k
  · have key := ht.keepB hlt h0 hf
    refine .inr ⟨b, off, rfl, Nat.lt_of_lt_of_le hlt ht.size, fun i hi => ?_⟩
    obtain ⟨h1, h2, h3⟩ := hc i hi
    exact ⟨by rw [← h1]; exact World.cell?_of_block key, by rw [← h2]; exact World.cell?_of_block key, by rw [← h3]; exact World.cell?_of_block key⟩
theorem OwnF.turn {ls : List (Option Addr × Nat)} {B : Nat} {w w' : World} {a : Option Addr} {n : Nat} {ts : List Tm} (h : OwnF B w a n ts) (ht : TurnL ls w w') (hf : ∀ p, p ∈ ls → Far p.1 p.2 a n) : OwnF B w' a n ts := by
  refine ⟨h.tm.turn ht hf, ?_⟩
  rcases Nat.eq_zero_or_pos n with h0 | h0
  · exact .inl h0
  rcases h.own with k | ⟨b, off, rfl, hB, hfr⟩
  · exact .inl k
  rcases h.tm.row with k | ⟨b', off', e, hlt, _⟩
  · exact .inl k
  · cases e
    have key := ht.keepB hlt h0 hf
    exact .inr ⟨b, off, rfl, hB, fun o => by rw [← hfr o]; exact World.frozen?_of_block key⟩
theorem IntsAt.turn {ls : List (Option Addr × Nat)} {w w' : World} {a : Option Addr} {n : Nat} {xs : List Int} (h : IntsAt w a n xs) (ht : TurnL ls w w') (hf : ∀ p, p ∈ ls → Far p.1 p.2 a n) : IntsAt w' a n xs := by
  refine ⟨h.len, ?_⟩
  rcases Nat.eq_zero_or_pos n with h0 | h0
  · exact .inl h0
  rcases h.row with k | ⟨b, off, rfl, hlt, hc⟩
  · exact .inl k
  · have key := ht.keepB hlt h0 hf
    exact .inr ⟨b, off, rfl, Nat.lt_of_lt_of_le hlt ht.size, fun i hi => by rw [← hc i hi]; exact World.cell?_of_block key⟩
theorem Il.OwnAt.turn {ls : List (Option Addr × Nat)} {B : Nat} {w w' : World} {a : Option Addr} {n : Nat} {xs : List Int} (h : Il.OwnAt B w a n xs) (ht : TurnL ls w w') (hf : ∀ p, p ∈ ls → Far p.1 p.2 a n) : Il.OwnAt B w' a n xs := by
  refine ⟨IntsAt.turn h.ints ht hf, ?_⟩
  rcases Nat.eq_zero_or_pos n with h0 | h0
  · exact .inl h0
  rcases h.own with k | ⟨b, off, rfl, hB, hfr⟩
  · exact .inl k
  rcases h.ints.row with k | ⟨b', off', e, hlt, _⟩
  · exact .inl k
  · cases e
    have key := ht.keepB hlt h0 hf
    exact .inr ⟨b, off, rfl, hB, fun i hi => by rw [← hfr i hi]; exact World.frozen?_of_block key⟩
theorem SubAt.turn {ls : List (Option Addr × Nat)} {w w' : World} {a : Option Addr} {n : Nat} {xs : List Sa} (h : SubAt w a n xs) (ht : TurnL ls w w') (hf : ∀ p, p ∈ ls → Far p.1 p.2 a n) (hx : ∀ x, x ∈ xs → ∀ p, p ∈ ls → Far p.1 p.2 x.a x.n) : SubAt w' a n xs := by
  refine ⟨h.len, fun x hm => (h.fil x hm).turn ht (hx x hm), ?_⟩
  rcases Nat.eq_zero_or_pos n with h0 | h0
  · exact .inl h0
  rcases h.row with k | ⟨b, off, rfl, hlt, hc⟩
  · exact .inl k
  · have key := ht.keepB hlt h0 hf
    exact .inr ⟨b, off, rfl, Nat.lt_of_lt_of_le hlt ht.size, fun i hi => (hc i hi).same fun j _ => World.cell?_of_block key⟩
theorem OwnS.turn {ls : List (Option Addr × Nat)} {B : Nat} {w w' : World} {a : Option Addr} {n : Nat} {xs : List Sa} (h : OwnS B w a n xs) (ht : TurnL ls w w') (hf : ∀ p, p ∈ ls → Far p.1 p.2 a n) (hx : ∀ x, x ∈ xs → ∀ p, p ∈ ls → Far p.1 p.2 x.a x.n) : OwnS B w' a n xs := by
  refine ⟨h.sub.turn ht hf hx, ?_, fun x hm => (h.fow x hm).turn ht (hx x hm), h.apt, h.apa⟩
  rcases Nat.eq_zero_or_pos n with h0 | h0
  · exact .inl h0
  rcases h.own with k | ⟨b, off, rfl, hB, hfr⟩
  · exact .inl k
  rcases h.sub.row with k | ⟨b', off', e, hlt, _⟩
  · exact .inl k
  · cases e
    have key := ht.keepB hlt h0 hf
    exact .inr ⟨b, off, rfl, hB, fun o => by rw [← hfr o]; exact World.frozen?_of_block key⟩
end Go.Proofs.YtdboaoejlkkoeaaGreat
namespace Go.Proofs.YtdboaoejlkkoeaaGreat
open Go.ChangeShapes Go.WideShapes Go.ChangeAt Go.RowKit Go.Joins Go.Deep Il
structure SbWf (s : Sb) : Prop where
  id : (Lit.int .i64 s.id).wf = true
  st : (Lit.int .i64 s.st).wf = true
  cu : (Lit.int .i64 s.cu).wf = true
  gt : (Lit.int .i64 s.gt).wf = true
  lo : (Lit.int .i64 s.lo).wf = true
  pa : (Lit.int .i64 s.pa).wf = true
section
variable {H : Type} {enc : TypeId × Value → H} {P : Program} {w : World} {base : Nat} {spare : Nat → Bool} {held : Bool}
end
structure RWf (v : Rv) : Prop where
  cp : (Lit.int .i64 v.cp).wf = true
  se : (Lit.int .i64 v.se).wf = true
  nx : (Lit.int .i64 v.nx).wf = true
  sb : ∀ s, s ∈ v.sb → SbWf s
  ln : wfL v.ln
  gs : wfL v.gs
end Go.Proofs.YtdboaoejlkkoeaaGreat
namespace Go.Proofs.YtdboaoejlkkoeaaGreat
open Go.RowKit Pl Il
def SpecRingOk (f : Rv → Bool) : Prop := ∀ (M : Rm) (v : Rv) (w : World), RIn w M v → RLe M 1048576 → RCap M → RWf v →
  Calls Tryz.prog 24 #[.agg #[.int .i64 v.cp, .int .i64 v.se, .slice M.ia M.i M.ic, .int .i64 v.nx, .slice M.sa M.s M.sc, .slice M.la M.l M.lc, .slice M.ga M.g M.gc, .bool v.cl]] w fun e w' => e = .returned (.bool (f v)) ∧ Below w.heap.size w w'
def ImplRingOk (f : Rv → Bool) : Prop := ∀ (M : Rm) (v : Rv) (w : World), RIn w M v → RLe M 1048576 → RCap M → RWf v →
  Calls Tryz.prog 29 #[.agg #[.int .i64 v.cp, .int .i64 v.se, .slice M.ia M.i M.ic, .int .i64 v.nx, .slice M.sa M.s M.sc, .slice M.la M.l M.lc, .slice M.ga M.g M.gc, .bool v.cl]] w fun e w' => e = .returned (.bool (f v)) ∧ Below w.heap.size w w'
open Go.RowKit Pl Il
def isLet (c : UInt8) : Bool := decide (97 ≤ c.toNat) && decide (c.toNat ≤ 122)
def letL (l : List UInt8) : Bool := l.all isLet
def partB (s : ByteArray) : Bool := decide (1 ≤ s.size) && decide (s.size ≤ 10) && letL s.data.toList
theorem let_step (s : ByteArray) (k : Nat) (h : k < s.size) (hp : letL (s.data.toList.take k) = true) (hg : isLet s[k] = true) :
    letL (s.data.toList.take (k + 1)) = true := by
  rw [take_snoc s k h]; simp [letL] at hp ⊢; exact ⟨hp, hg⟩
theorem part_bad (s : ByteArray) (k : Nat) (h : k < s.size) (hg : isLet s[k] = false) : partB s = false := by
  have hm : s[k] ∈ s.data.toList := by
    have : s.data.toList[k]'(by simpa using h) = s[k] := rfl
    rw [← this]; exact List.getElem_mem _
  have : letL s.data.toList = false := by
    unfold letL
    rw [List.all_eq_false]
    exact ⟨_, hm, by simp [hg]⟩
  simp [partB, this]
theorem part_size (s : ByteArray) (h : ¬ (1 ≤ (s.size : Int) ∧ (s.size : Int) ≤ 10)) : partB s = false := by
  by_cases h1 : 1 ≤ s.size
  · have : ¬ s.size ≤ 10 := by omega
    simp [partB, this]
  · simp [partB, h1]
theorem part_all (s : ByteArray) (k : Nat) (h1 : 1 ≤ (s.size : Int)) (h2 : (s.size : Int) ≤ 10) (h : s.size ≤ k) (hp : letL (s.data.toList.take k) = true) : partB s = true := by
  have e : s.data.toList.take k = s.data.toList := List.take_of_length_le (by simpa using h)
  rw [e] at hp
  have a : 1 ≤ s.size := by omega
  have b : s.size ≤ 10 := by omega
  simp [partB, a, b, hp]
theorem let_no (c : UInt8) (h : (c.toNat : Int) < 97 ∨ 122 < (c.toNat : Int)) : isLet c = false := by
  rcases h with h | h
  · have : ¬ 97 ≤ c.toNat := by omega
    simp [isLet, this]
  · have : ¬ c.toNat ≤ 122 := by omega
    simp [isLet, this]
theorem let_yes (c : UInt8) (h1 : ¬ (c.toNat : Int) < 97) (h2 : ¬ 122 < (c.toNat : Int)) : isLet c = true := by
  have a : 97 ≤ c.toNat := by omega
  have b : c.toNat ≤ 122 := by omega
  simp [isLet, a, b]
def okTm (t : Tm) : Bool :=
  if t.1 = 1 ∨ t.1 = 2 ∨ t.1 = 3 ∨ t.1 = 8 ∨ t.1 = 9 ∨ t.1 = 10 then decide (t.2.1 = 0) && t.2.2.toList.isEmpty
  else if t.1 = 4 then decide (-999999999 ≤ t.2.1) && decide (t.2.1 ≤ 999999999) && t.2.2.toList.isEmpty
  else if t.1 = 5 then decide (1 ≤ t.2.1) && decide (t.2.1 ≤ 999999999) && t.2.2.toList.isEmpty
  else if t.1 = 6 ∨ t.1 = 7 then decide (t.2.1 = 0) && partB t.2.2
  else false
def cntM (op : Int) : Nat := if op = 8 then 1 else if op = 9 ∨ op = 10 then 2 else 0
theorem cnt_le (op : Int) : cntM op ≤ 2 := by unfold cntM; split <;> (try split) <;> omega
def takesM (t : Tm) : Int := if okTm t = true then (cntM t.1 : Int) else -1
def goN : List Tm → Nat → Option Nat
  | [], n => some n
  | t :: ts, n => if okTm t = false then none else if n < cntM t.1 then none else goN ts (n - cntM t.1 + 1)
theorem goN_cons (t : Tm) (ts : List Tm) (n : Nat) : goN (t :: ts) n = if okTm t = false then none else if n < cntM t.1 then none else goN ts (n - cntM t.1 + 1) := rfl
theorem goN_snoc : ∀ (l : List Tm) (t : Tm) (n : Nat), goN (l ++ [t]) n = (goN l n).bind fun m => if okTm t = false then none else if m < cntM t.1 then none else some (m - cntM t.1 + 1)
  | [], t, n => by simp [goN]
  | x :: l, t, n => by
    rw [List.cons_append, goN_cons, goN_cons]
    by_cases h1 : okTm x = false
    · rw [if_pos h1, if_pos h1]; rfl
    · rw [if_neg h1, if_neg h1]
      by_cases h2 : n < cntM x.1
      · rw [if_pos h2, if_pos h2]; rfl
      · rw [if_neg h2, if_neg h2]; exact goN_snoc l t _
theorem goN_append : ∀ (l l' : List Tm) (n : Nat), goN (l ++ l') n = (goN l n).bind fun m => goN l' m
  | [], l', n => by simp [goN]
  | x :: l, l', n => by
    rw [List.cons_append, goN_cons, goN_cons]
    by_cases h1 : okTm x = false
    · rw [if_pos h1, if_pos h1]; rfl
    · rw [if_neg h1, if_neg h1]
      by_cases h2 : n < cntM x.1
      · rw [if_pos h2, if_pos h2]; rfl
      · rw [if_neg h2, if_neg h2]; exact goN_append l l' _
def okF (f : List Tm) : Bool := decide (f.length ≤ 12) && (f.isEmpty || decide (goN f 0 = some 1))
theorem okF_long {f : List Tm} (h : ¬ f.length ≤ 12) : okF f = false := by simp [okF, h]
theorem okF_stop {f : List Tm} {k : Nat} (hk : k < f.length) {m : Nat} (h : goN (f.take k) 0 = some m) (hb : okTm (qg f k) = false ∨ m < cntM (qg f k).1) : okF f = false := by
  have e : f = f.take (k + 1) ++ f.drop (k + 1) := (List.take_append_drop _ _).symm
  have h1 : goN (f.take (k + 1)) 0 = none := by
    rw [take_qg hk, goN_snoc, h]
    simp only [Option.bind_some]
    rcases hb with hb | hb
    · rw [if_pos hb]
    · by_cases h1 : okTm (qg f k) = false
      · rw [if_pos h1]
      · rw [if_neg h1, if_pos hb]
  have h2 : goN f 0 = none := by
    rw [e, goN_append, h1]; rfl
  have hne : f.isEmpty = false := by
    cases f with
    | nil => simp at hk
    | cons _ _ => rfl
  simp [okF, h2, hne]
theorem goN_step {f : List Tm} {k : Nat} (hk : k < f.length) {m : Nat} (h : goN (f.take k) 0 = some m) (h1 : okTm (qg f k) = true) (h2 : ¬ m < cntM (qg f k).1) : goN (f.take (k + 1)) 0 = some (m - cntM (qg f k).1 + 1) := by
  rw [take_qg hk, goN_snoc, h]
  simp only [Option.bind_some]
  rw [if_neg (by rw [h1]; simp), if_neg h2]
theorem goN_le : ∀ (l : List Tm) (n m : Nat), goN l n = some m → m ≤ n + l.length
  | [], n, m, h => by simp [goN] at h; omega
  | x :: l, n, m, h => by
    unfold goN at h
    split at h
    · cases h
    · split at h
      · cases h
      · have := goN_le l _ _ h
        simp only [List.length_cons]
        omega
theorem goN_pos {f : List Tm} {k m : Nat} (hk : 0 < k) (hl : k ≤ f.length) (h : goN (f.take k) 0 = some m) : 1 ≤ m := by
  obtain ⟨j, rfl⟩ : ∃ j, k = j + 1 := ⟨k - 1, by omega⟩
  rw [take_qg (by omega), goN_snoc] at h
  cases e : goN (f.take j) 0 with
  | none => rw [e] at h; cases h
  | some q =>
    rw [e] at h
    simp only [Option.bind_some] at h
    split at h
    · cases h
    · split at h
      · cases h
      · simp at h; omega
theorem okF_end {f : List Tm} (h0 : f ≠ []) (hl : f.length ≤ 12) {m : Nat} (h : goN f 0 = some m) : okF f = decide ((m : Int) = 1) := by
  have hne : f.isEmpty = false := by
    cases f with
    | nil => exact absurd rfl h0
    | cons _ _ => rfl
  have : (goN f 0 = some 1) ↔ ((m : Int) = 1) := by rw [h]; simp; omega
  simp [okF, hl, hne, this]
open Go.RowKit Pl Il
def leastR (m : Int) (sb : List Sb) : Int := sb.foldl (fun a s => if s.cu < a then s.cu else a) m
theorem leastR_snoc (m : Int) (sb : List Sb) (s : Sb) : leastR m (sb ++ [s]) = if s.cu < leastR m sb then s.cu else leastR m sb := by unfold leastR; rw [List.foldl_append]; rfl
def oldR (v : Rv) : Int :=
  let l := leastR v.se v.sb
  let k := if l < v.se - v.cp then v.se - v.cp else l
  if k < 0 then 0 else k
theorem leastR_le : ∀ (sb : List Sb) (m : Int), leastR m sb ≤ m
  | [], _ => Int.le_refl _
  | s :: sb, m => by
    have h := leastR_le sb (if s.cu < m then s.cu else m)
    have e : leastR m (s :: sb) = leastR (if s.cu < m then s.cu else m) sb := rfl
    rw [e]
    split at h <;> rename_i hc
    · rw [if_pos hc]; omega
    · rw [if_neg hc]; exact h
theorem oldR_bd {v : Rv} (h0 : 0 ≤ v.se) (h1 : 1 ≤ v.cp) : 0 ≤ oldR v ∧ oldR v ≤ v.se := by
  have h := leastR_le v.sb v.se
  unfold oldR
  simp only
  split <;> split <;> omega
def atR (sb : List Sb) (id : Int) : Int := match sb.findIdx? (fun s => s.id == id) with | some i => (i : Int) | none => -1
theorem atR_at {sb : List Sb} {id : Int} {k : Nat} (hk : k < sb.length) (hn : ∀ j (hj : j < k), ¬ (sb[j]'(by omega)).id = id) (he : (sb[k]).id = id) : atR sb id = (k : Int) := by
  have : sb.findIdx? (fun s => s.id == id) = some k := by
    rw [List.findIdx?_eq_some_iff_getElem]
    exact ⟨hk, by simp [he], fun j hj => by simp [hn j hj]⟩
  unfold atR
  rw [this]
theorem atR_none {sb : List Sb} {id : Int} (hn : ∀ j (hj : j < sb.length), ¬ (sb[j]).id = id) : atR sb id = -1 := by
  have : sb.findIdx? (fun s => s.id == id) = none := by
    rw [List.findIdx?_eq_none_iff]
    intro s hs
    obtain ⟨j, hj, rfl⟩ := List.getElem_of_mem hs
    simp [hn j hj]
  unfold atR
  rw [this]
def subHead (v : Rv) (s : Sb) : Bool := decide (0 ≤ s.id ∧ s.id ≤ v.nx - 1) && decide (0 ≤ s.st) && decide (s.st ≤ s.cu) && decide (s.cu ≤ v.se) && decide (0 ≤ s.gt) && decide (0 ≤ s.lo) && decide (0 ≤ s.pa)
def subSums (s : Sb) : Bool := decide (s.gt ≤ s.cu - s.st) && decide (s.lo ≤ s.cu - s.st) && decide (s.pa ≤ s.cu - s.st) && decide (s.gt + s.lo + s.pa = s.cu - s.st)
def subR (v : Rv) (s : Sb) : Bool := subHead v s && (subSums s && okF s.fl)
theorem sg_svs {xs : List Sa} {k : Nat} (hk : k < xs.length) : (svs xs)[k]'(by simpa [svs] using hk) = (sg xs k).s := by simp only [svs, List.getElem_map]; rw [sg_eq hk]
open Go.RowKit Pl Il
set_option maxHeartbeats 2000000 in
theorem l9Oldest_any (M : Rm) (v : Rv) (w : World) (hI : RIn w M v) (hm : RLe M 2097152) (hse : 0 ≤ v.se ∧ v.se ≤ 1000000000) (hcp : 1 ≤ v.cp ∧ v.cp ≤ 16) :
  Calls Tryz.prog 91 #[.agg #[.int .i64 v.cp, .int .i64 v.se, .slice M.ia M.i M.ic, .int .i64 v.nx, .slice M.sa M.s M.sc, .slice M.la M.l M.lc, .slice M.ga M.g M.gc, .bool v.cl]] w fun e w' => e = .returned (.int .i64 (oldR v)) ∧ Below w.heap.size w w' := by
 obtain ⟨W0, hW0⟩ : ∃ W, W = w.alloc (.cells #[.int .i64 v.cp, .int .i64 v.se, .slice M.ia M.i M.ic, .int .i64 v.nx, .slice M.sa M.s M.sc, .slice M.la M.l M.lc, .slice M.ga M.g M.gc, .bool v.cl] 28) := ⟨_, rfl⟩
 have b0 : Below w.heap.size w W0 := by rw [hW0]; exact bl_alloc (Below.refl _ _) _
 have X0 : BoxL w.heap.size (rC M v) W0 := by rw [hW0]; exact BoxL.new w (rC M v) _
 have p0 := X0.cs 0 (by simp)
 have p1 := X0.cs 1 (by simp)
 have p4 := X0.cs 4 (by simp)
 simp at p0 p1 p4
 have hl := hI.sb.len
 have hlv : v.sb = svs M.xs := hI.sv.symm
 have hsn := hm.s
 have HR := hidOf (hI.sb.keep b0).row
 have HLv := hidOf hlv
 have HL := hidOf hl
 have HSe := hidOf hse
 have HCp := hidOf hcp
 have HB := hidOf b0
 clear hI hm hl hlv X0 b0 hse hcp
 go_enter Tryz.func91, Tryz.ntmps91
 go_wp2_with fail
 rw [← hW0]
 clear hW0
 go_loop [3, 4] (fun m i => ∃ k : Nat, k ≤ M.s ∧ i = .int .i64 k ∧ m = .int .i64 (leastR v.se (v.sb.take k))) (fun _ i => M.s - (intOf i).toNat)
 case atStart => exact ⟨0, Nat.zero_le _, rfl, rfl⟩
 case round =>
  obtain ⟨k, hk, rfl, rfl⟩ := hrel
  by_cases hlt : k < M.s
  ·obtain hr | ⟨b, off, ea, hb, hcell⟩ := HR.out
   ·omega
   have hc2 := (hcell k hlt).c2
   have hk1 : k < M.xs.length := by rw [HL.out]; exact hlt
   have hk2 : k < v.sb.length := by rw [HLv.out]; simpa [svs] using hk1
   have hst : v.sb.take (k + 1) = v.sb.take k ++ [(sg M.xs k).s] := by
    rw [List.take_succ_eq_append_getElem hk2]
    congr 2
    have := sg_svs hk1
    simp only [HLv.out]
    exact this
   have HSt := hidOf (leastR_snoc v.se (v.sb.take k) (sg M.xs k).s)
   rw [← hst] at HSt
   rw [ea] at p4
   generalize (sg M.xs k).s.cu = cu at hc2 HSt
   generalize leastR v.se (v.sb.take k) = m at HSt
   have hki : (k : Int) < (M.s : Int) := by omega
   clear hst hcell hk1 hk2 ea
   by_cases hcm : cu < m
   ·go_wp2
    go_round
    case rel => exact ⟨k + 1, by omega, by go_num, by rw [HSt.out, if_pos hcm]⟩
    case measure => simp [intOf]; omega
   ·go_wp2
    go_round
    case rel => exact ⟨k + 1, by omega, by go_num, by rw [HSt.out, if_neg (by omega)]⟩
    case measure => simp [intOf]; omega
  ·have e : v.sb.take k = v.sb := List.take_of_length_le (by rw [HLv.out]; simp [svs]; have := HL.out; omega)
   rw [e]
   have HO := hidOf (show oldR v = (if (if leastR v.se v.sb < v.se - v.cp then v.se - v.cp else leastR v.se v.sb) < 0 then 0 else (if leastR v.se v.sb < v.se - v.cp then v.se - v.cp else leastR v.se v.sb)) from rfl)
   generalize leastR v.se v.sb = m at HO
   have hsub : wrap64 (v.se - v.cp) = v.se - v.cp := by have h1 := HSe.out; have h2 := HCp.out; unfold wrap64; omega
   have h1 := HSe.out
   have h2 := HCp.out
   clear e
   by_cases hc : m < v.se - v.cp
   ·by_cases hz : v.se - v.cp < 0
    ·have HV := hidOf (show oldR v = 0 by rw [HO.out, if_pos hc, if_pos hz])
     go_wp2
     go_ret
     exact ⟨rint HV.out.symm, HB.out⟩
    ·have HV := hidOf (show oldR v = v.se - v.cp by rw [HO.out, if_pos hc, if_neg hz])
     go_wp2
     go_ret
     exact ⟨rint HV.out.symm, HB.out⟩
   ·by_cases hz : m < 0
    ·have HV := hidOf (show oldR v = 0 by rw [HO.out, if_neg hc, if_pos hz])
     go_wp2
     go_ret
     exact ⟨rint HV.out.symm, HB.out⟩
    ·have HV := hidOf (show oldR v = m by rw [HO.out, if_neg hc, if_neg hz])
     go_wp2
     go_ret
     exact ⟨rint HV.out.symm, HB.out⟩
set_option maxHeartbeats 2000000 in
theorem l9At_any (M : Rm) (v : Rv) (id : Int) (w : World) (hI : RIn w M v) (hm : RLe M 2097152) :
  Calls Tryz.prog 84 #[.agg #[.int .i64 v.cp, .int .i64 v.se, .slice M.ia M.i M.ic, .int .i64 v.nx, .slice M.sa M.s M.sc, .slice M.la M.l M.lc, .slice M.ga M.g M.gc, .bool v.cl], .int .i64 id] w fun e w' => e = .returned (.int .i64 (atR v.sb id)) ∧ Below w.heap.size w w' := by
 obtain ⟨W0, hW0⟩ : ∃ W, W = w.alloc (.cells #[.int .i64 v.cp, .int .i64 v.se, .slice M.ia M.i M.ic, .int .i64 v.nx, .slice M.sa M.s M.sc, .slice M.la M.l M.lc, .slice M.ga M.g M.gc, .bool v.cl] 28) := ⟨_, rfl⟩
 have b0 : Below w.heap.size w W0 := by rw [hW0]; exact bl_alloc (Below.refl _ _) _
 have X0 : BoxL w.heap.size (rC M v) W0 := by rw [hW0]; exact BoxL.new w (rC M v) _
 have p4 := X0.cs 4 (by simp)
 simp at p4
 have hl := hI.sb.len
 have hlv : v.sb = svs M.xs := hI.sv.symm
 have hsn := hm.s
 have HR := hidOf (hI.sb.keep b0).row
 have HLv := hidOf hlv
 have HL := hidOf hl
 have HB := hidOf b0
 clear hI hm hl hlv X0 b0
 go_enter Tryz.func84, Tryz.ntmps84
 go_wp2_with fail
 rw [← hW0]
 clear hW0
 go_loop [5] (fun i => ∃ k : Nat, k ≤ M.s ∧ i = .int .i64 k ∧ ∀ j, j < k → ¬ (sg M.xs j).s.id = id) (fun i => M.s - (intOf i).toNat)
 case atStart => exact ⟨0, Nat.zero_le _, rfl, fun j hj => by omega⟩
 case round =>
  obtain ⟨k, hk, rfl, hno⟩ := hrel
  have HNo := hidOf hno
  clear hno
  by_cases hlt : k < M.s
  ·obtain hr | ⟨b, off, ea, hb, hcell⟩ := HR.out
   ·omega
   have hc0 := (hcell k hlt).c0
   rw [ea] at p4
   have hki : (k : Int) < (M.s : Int) := by omega
   clear hcell ea
   obtain ⟨q, hq⟩ : ∃ q, (sg M.xs k).s.id = q := ⟨_, rfl⟩
   rw [hq] at hc0
   have HQ := hidOf hq
   clear hq
   by_cases he : q = id
   ·have he2 : (q == id) = true := by simp [he]
    have HE := hidOf he
    clear he
    go_wp2
    go_ret
    refine ⟨rint ?_, HB.out⟩
    symm
    have hk1 : k < M.xs.length := by rw [HL.out]; exact hlt
    have hk2 : k < v.sb.length := by rw [HLv.out]; simpa [svs] using hk1
    refine atR_at hk2 (fun j hj => ?_) ?_
    ·have := HNo.out j hj
     have e2 := sg_svs (xs := M.xs) (k := j) (by omega)
     simp only [HLv.out]
     rw [e2]
     exact this
    ·have e2 := sg_svs hk1
     simp only [HLv.out]
     rw [e2, HQ.out]
     exact HE.out
   ·have he2 : (q == id) = false := by simp [he]
    have HE := hidOf he
    clear he
    go_wp2
    go_round
    case rel => exact ⟨k + 1, by omega, by go_num, fun j hj => (by
     by_cases e : j = k
     ·rw [e, HQ.out]; exact HE.out
     ·exact HNo.out j (by omega))⟩
    case measure => simp [intOf]; omega
  ·go_wp2
   go_ret
   refine ⟨rint ?_, HB.out⟩
   symm
   refine atR_none (fun j hj => ?_)
   have hj1 : j < M.xs.length := by rw [HLv.out] at hj; simpa [svs] using hj
   have e2 := sg_svs hj1
   simp only [HLv.out]
   rw [e2]
   exact HNo.out j (by have := HL.out; omega)
open Go.RowKit Pl Il
theorem cellF {w w' : World} {a : Addr} {v : Value} (h : w.cell? a = some v) (hb : Below w.heap.size w w') : w'.cell? a = some v := by
  rw [hb.cell (p := a) (World.block_lt_of_cell? w a h)]; exact h
theorem inF_any (x a b : Int) (w : World) : Calls Tryz.prog 89 #[.int .i64 x, .int .i64 a, .int .i64 b] w fun e w' => e = .returned (.bool (decide (a ≤ x) && decide (x ≤ b))) ∧ w' = w := by
  go_enter Tryz.func89, Tryz.ntmps89
  go_wp2
  all_goals go_ret
  all_goals refine ⟨rbool ?_, rfl⟩
  all_goals first | (simp_all; done) | (simp_all; omega)
theorem l8Part_any (s : ByteArray) (w : World) (hs : s.size ≤ maxLen) :
    Calls Tryz.prog 177 #[.string s] w fun e w' => e = .returned (.bool (partB s)) ∧ w' = w := by
  unfold maxLen at hs
  by_cases h : 1 ≤ (s.size : Int) ∧ (s.size : Int) ≤ 10
  · have hd : (decide (1 ≤ (s.size : Int)) && decide ((s.size : Int) ≤ 10)) = true := by simp [h]
    go_enter Tryz.func177, Tryz.ntmps177
    go_wp2_with fail
    refine (inF_any _ _ _ _).mono ?_
    rintro e w1 ⟨rfl, rfl⟩
    rw [hd]
    go_wp2
    go_loop [3] (fun i => ∃ k : Nat, k ≤ s.size ∧ i = .int .i64 k ∧ letL (s.data.toList.take k) = true) (fun i => s.size - (intOf i).toNat)
    case atStart => exact ⟨0, Nat.zero_le _, rfl, rfl⟩
    case round =>
      obtain ⟨k, hk, rfl, hp⟩ := hrel
      by_cases hlt : k < s.size
      · go_wp2
        all_goals first
          | (go_ret; exact ⟨rbool (part_bad s k hlt (let_no _ (by omega))).symm, rfl⟩)
          | (go_round
             case rel => exact ⟨k + 1, by omega, by go_num, let_step s k hlt hp (let_yes _ (by omega) (by omega))⟩
             case measure => simp [intOf]; omega)
      · go_wp2
        go_ret
        exact ⟨rbool (part_all s k h.1 h.2 (by omega) hp).symm, rfl⟩
  · have hd : (decide (1 ≤ (s.size : Int)) && decide ((s.size : Int) ≤ 10)) = false := by
      rw [Bool.and_eq_false_iff]
      by_cases h1 : 1 ≤ (s.size : Int)
      · right; simp; omega
      · left; simp; omega
    have hq := part_size s h
    go_enter Tryz.func177, Tryz.ntmps177
    go_wp2_with fail
    refine (inF_any _ _ _ _).mono ?_
    rintro e w1 ⟨rfl, rfl⟩
    rw [hd]
    go_wp2
    go_ret
    first | exact ⟨rbool hq.symm, rfl⟩ | exact ⟨rfl, rfl⟩
set_option maxHeartbeats 1000000 in
theorem l8Takes_any (t : Tm) (w : World) (hs : t.2.2.size ≤ maxLen) :
    Calls Tryz.prog 151 #[.agg #[.int .i64 t.1, .int .i64 t.2.1, .string t.2.2]] w fun e w' => e = .returned (.int .i64 (takesM t)) ∧ Below w.heap.size w w' := by
  obtain ⟨op, n, s⟩ := t
  simp only at hs ⊢
  go_enter Tryz.func151, Tryz.ntmps151
  go_wp2_with (first
    | (go_at_call 177; refine (l8Part_any s _ hs).mono ?_; rintro e w1 ⟨rfl, rfl⟩)
    | (go_at_call 89; refine (inF_any _ _ _ _).mono ?_; rintro e w1 ⟨rfl, rfl⟩))
  all_goals go_ret
  all_goals refine ⟨rint ?_, bl_alloc (Below.refl _ _) _⟩
  all_goals first | (simp_all [takesM, okTm, cntM]; done) | (simp_all [takesM, okTm, cntM]; omega)
theorem takes_no {t : Tm} (h : okTm t = false) : takesM t = -1 := by simp [takesM, h]
theorem takes_yes {t : Tm} (h : okTm t = true) : takesM t = (cntM t.1 : Int) := by simp [takesM, h]
set_option maxHeartbeats 1000000 in
theorem specFilterOk_any (a : Option Addr) (n cap : Nat) (ts : List Tm) (w : World) (hI : TmAt w a n ts) (hn : n ≤ 9223372036854775807) :
  Calls Tryz.prog 94 #[.slice a n cap] w fun e w' => e = .returned (.bool (okF ts)) ∧ Below w.heap.size w w' := by
 obtain ⟨hlen, hsh, hr⟩ := hI
 by_cases h12 : 12 < (n : Int)
 ·have hq := okF_long (f := ts) (by omega)
  clear hr
  go_enter Tryz.func94, Tryz.ntmps94
  go_wp2
  go_ret
  first | exact ⟨rbool hq.symm, Below.refl _ _⟩ | exact ⟨rfl, Below.refl _ _⟩
 have HS := hidOf hsh
 have HL := hidOf hlen
 have HR := hidOf hr
 clear hsh hlen hr
 go_enter Tryz.func94, Tryz.ntmps94
 go_wp2
 go_loopw [3, 4] (fun x i wr => ∃ k m : Nat, k ≤ n ∧ i = .int .i64 k ∧ x = .int .i64 (m : Int) ∧ goN (ts.take k) 0 = some m ∧ m ≤ k ∧ Below w.heap.size w wr) (fun _ i _ => n - (intOf i).toNat)
 case atStart => exact ⟨0, 0, Nat.zero_le _, rfl, rfl, rfl, Nat.le_refl _, Below.refl _ _⟩
 case round =>
  rename_i wr
  obtain ⟨k, m, hk, rfl, rfl, hgo, hmk, hB⟩ := hrel
  have HG := hidOf hgo
  clear hgo
  by_cases hlt : k < n
  ·have hkl : k < ts.length := by rw [HL.out]; exact hlt
   obtain hr | ⟨b, off, rfl, hb, hcell⟩ := HR.out
   ·omega
   obtain ⟨q0, q1, q2⟩ := hcell k hlt
   have hc := cellF q0 hB
   have hc2 := cellF q1 hB
   have hc3 := cellF q2 hB
   have HC := fun u => hidOf (l8Takes_any (qg ts k) u (HS.out _ (qg_mem hkl)))
   have HK := hidOf hkl
   obtain ⟨z, hz⟩ : ∃ z, qg ts k = z := ⟨_, rfl⟩
   rw [hz] at hc hc2 hc3 HC
   have HZ := hidOf hz
   clear hz hcell q0 q1 q2 hkl
   go_wp2_with fail
   refine ((HC _).out).mono ?_
   rintro e w1 ⟨rfl, hb1⟩
   have hB1 := bl_trans hB hb1
   clear HC hc hc2 hc3 hb1 hB
   have hcl := cnt_le z.1
   cases hok : okTm z
   ·have HQ := hidOf (okF_stop HK.out HG.out (.inl (by rw [HZ.out]; exact hok)))
    rw [takes_no hok]
    clear hok
    go_wp2
    go_ret
    exact ⟨rbool HQ.out.symm, hB1⟩
   ·rw [takes_yes hok]
    obtain ⟨c, hc⟩ : ∃ c, cntM z.1 = c := ⟨_, rfl⟩
    rw [hc] at hcl ⊢
    have hc0 : ¬ (c : Int) < 0 := by omega
    by_cases hmc : (m : Int) < (c : Int)
    ·have HQ := hidOf (okF_stop HK.out HG.out (.inr (by rw [HZ.out, hc]; omega)))
     clear hok
     go_wp2
     go_ret
     exact ⟨rbool HQ.out.symm, hB1⟩
    ·have HQ := hidOf (goN_step HK.out HG.out (by rw [HZ.out]; exact hok) (by rw [HZ.out, hc]; omega))
     rw [HZ.out, hc] at HQ
     clear hok
     go_wp2
     go_roundw
     case rel => exact ⟨k + 1, m - c + 1, by omega, by go_num, by go_num, HQ.out, by omega, hB1⟩
     case measure => simp [intOf]; omega
  ·obtain rfl : k = n := by omega
   have hg : goN ts 0 = some m := by
    have := HG.out
    rwa [List.take_of_length_le (by rw [HL.out]; exact Nat.le_refl _)] at this
   by_cases h0 : k = 0
   ·subst h0
    have hx : ts = [] := List.length_eq_zero_iff.1 HL.out
    subst hx
    have hm0 : m = 0 := by omega
    subst hm0
    go_wp2
    go_ret
    exact ⟨rfl, hB⟩
   ·have hq := okF_end (f := ts) (by rintro rfl; have := HL.out; simp at this; omega) (by have := HL.out; omega) hg
    have hk0 : ((k : Int) == 0) = false := by simp; omega
    have HQ := hidOf hq
    clear hq hg
    by_cases hm1 : (m : Int) = 1
    ·have e1 : ((m : Int) == 1) = true := by simp [hm1]
     go_wp2
     go_ret
     exact ⟨rbool (by rw [HQ.out]; simp [hm1]), hB⟩
    ·have e1 : ((m : Int) == 1) = false := by simp [hm1]
     go_wp2
     go_ret
     exact ⟨rbool (by rw [HQ.out]; simp [hm1]), hB⟩
open Go.RowKit Pl Il
theorem l1InS_any (x a b : Int) (w : World) : Calls Tryz.prog 89 #[.int .i64 x, .int .i64 a, .int .i64 b] w fun e w' => e = .returned (.bool (decide (a ≤ x ∧ x ≤ b))) ∧ w' = w := by
  by_cases h1 : a ≤ x
  · by_cases h2 : x ≤ b
    all_goals
      go_enter Tryz.func89, Tryz.ntmps89
      go_wp2
      go_ret
      exact ⟨by simp [h1, h2], rfl⟩
  · go_enter Tryz.func89, Tryz.ntmps89
    go_wp2
    go_ret
    refine ⟨?_, rfl⟩
    have h2 : decide (a ≤ x) = false := by simp only [decide_eq_false_iff_not]; omega
    simp only [h2, Bool.false_and]
    rfl
set_option maxHeartbeats 4000000 in
theorem l9SubOk_any (M : Rm) (v : Rv) (x : Sa) (w : World) (hF : TmAt w x.a x.n x.s.fl) (hn : x.n ≤ 2097152) (hse : 0 ≤ v.se ∧ v.se ≤ 1000000000) (hnx : 0 ≤ v.nx ∧ v.nx ≤ 1000000000) :
  Calls Tryz.prog 90 #[.agg #[.int .i64 v.cp, .int .i64 v.se, .slice M.ia M.i M.ic, .int .i64 v.nx, .slice M.sa M.s M.sc, .slice M.la M.l M.lc, .slice M.ga M.g M.gc, .bool v.cl], .agg #[.int .i64 x.s.id, .int .i64 x.s.st, .int .i64 x.s.cu, .int .i64 x.s.gt, .int .i64 x.s.lo, .int .i64 x.s.pa, .slice x.a x.n x.c]] w fun e w' => e = .returned (.bool (subR v x.s)) ∧ Below w.heap.size w w' := by
 obtain ⟨⟨i, t, u, g, o, p, fl⟩, fa, fn, fc⟩ := x
 simp only at hF hn ⊢
 have hB : Below w.heap.size w ((w.alloc (.cells #[.int .i64 v.cp, .int .i64 v.se, .slice M.ia M.i M.ic, .int .i64 v.nx, .slice M.sa M.s M.sc, .slice M.la M.l M.lc, .slice M.ga M.g M.gc, .bool v.cl] 28)).alloc (.cells #[.int .i64 i, .int .i64 t, .int .i64 u, .int .i64 g, .int .i64 o, .int .i64 p, .slice fa fn fc] 41)) := bl_alloc (bl_alloc (Below.refl _ _) _) _
 have HF := hidOf (hF.keep hB)
 have HB := hidOf hB
 have hwn : wrap64 (v.nx - 1) = v.nx - 1 := by unfold wrap64; omega
 clear hF hB
 by_cases h0 : 0 ≤ i ∧ i ≤ v.nx - 1
 case neg =>
  have HV := hidOf (show subR v ⟨i, t, u, g, o, p, fl⟩ = false by
   unfold subR subHead subSums
   simp only [Bool.and_eq_false_iff, decide_eq_false_iff_not]
   omega)
  have hd : decide (0 ≤ i ∧ i ≤ v.nx - 1) = false := by simp only [decide_eq_false_iff_not]; exact h0
  go_enter Tryz.func90, Tryz.ntmps90
  go_wp2_with (go_at_call 89; refine (l1InS_any _ _ _ _).mono ?_; rintro e w' ⟨rfl, rfl⟩; rw [hd])
  go_ret
  exact ⟨rbool HV.out.symm, HB.out⟩
 by_cases h1 : ¬ t < 0
 case neg =>
  have HV := hidOf (show subR v ⟨i, t, u, g, o, p, fl⟩ = false by
   unfold subR subHead subSums
   simp only [Bool.and_eq_false_iff, decide_eq_false_iff_not]
   omega)
  have hd : decide (0 ≤ i ∧ i ≤ v.nx - 1) = true := by simp [h0]
  go_enter Tryz.func90, Tryz.ntmps90
  go_wp2_with (go_at_call 89; refine (l1InS_any _ _ _ _).mono ?_; rintro e w' ⟨rfl, rfl⟩; rw [hd])
  go_ret
  exact ⟨rbool HV.out.symm, HB.out⟩
 by_cases h2 : ¬ u < t
 case neg =>
  have HV := hidOf (show subR v ⟨i, t, u, g, o, p, fl⟩ = false by
   unfold subR subHead subSums
   simp only [Bool.and_eq_false_iff, decide_eq_false_iff_not]
   omega)
  have hd : decide (0 ≤ i ∧ i ≤ v.nx - 1) = true := by simp [h0]
  go_enter Tryz.func90, Tryz.ntmps90
  go_wp2_with (go_at_call 89; refine (l1InS_any _ _ _ _).mono ?_; rintro e w' ⟨rfl, rfl⟩; rw [hd])
  go_ret
  exact ⟨rbool HV.out.symm, HB.out⟩
 by_cases h3 : ¬ v.se < u
 case neg =>
  have HV := hidOf (show subR v ⟨i, t, u, g, o, p, fl⟩ = false by
   unfold subR subHead subSums
   simp only [Bool.and_eq_false_iff, decide_eq_false_iff_not]
   omega)
  have hd : decide (0 ≤ i ∧ i ≤ v.nx - 1) = true := by simp [h0]
  go_enter Tryz.func90, Tryz.ntmps90
  go_wp2_with (go_at_call 89; refine (l1InS_any _ _ _ _).mono ?_; rintro e w' ⟨rfl, rfl⟩; rw [hd])
  go_ret
  exact ⟨rbool HV.out.symm, HB.out⟩
 by_cases h4 : ¬ g < 0
 case neg =>
  have HV := hidOf (show subR v ⟨i, t, u, g, o, p, fl⟩ = false by
   unfold subR subHead subSums
   simp only [Bool.and_eq_false_iff, decide_eq_false_iff_not]
   omega)
  have hd : decide (0 ≤ i ∧ i ≤ v.nx - 1) = true := by simp [h0]
  go_enter Tryz.func90, Tryz.ntmps90
  go_wp2_with (go_at_call 89; refine (l1InS_any _ _ _ _).mono ?_; rintro e w' ⟨rfl, rfl⟩; rw [hd])
  go_ret
  exact ⟨rbool HV.out.symm, HB.out⟩
 by_cases h5 : ¬ o < 0
 case neg =>
  have HV := hidOf (show subR v ⟨i, t, u, g, o, p, fl⟩ = false by
   unfold subR subHead subSums
   simp only [Bool.and_eq_false_iff, decide_eq_false_iff_not]
   omega)
  have hd : decide (0 ≤ i ∧ i ≤ v.nx - 1) = true := by simp [h0]
  go_enter Tryz.func90, Tryz.ntmps90
  go_wp2_with (go_at_call 89; refine (l1InS_any _ _ _ _).mono ?_; rintro e w' ⟨rfl, rfl⟩; rw [hd])
  go_ret
  exact ⟨rbool HV.out.symm, HB.out⟩
 by_cases h6 : ¬ p < 0
 case neg =>
  have HV := hidOf (show subR v ⟨i, t, u, g, o, p, fl⟩ = false by
   unfold subR subHead subSums
   simp only [Bool.and_eq_false_iff, decide_eq_false_iff_not]
   omega)
  have hd : decide (0 ≤ i ∧ i ≤ v.nx - 1) = true := by simp [h0]
  go_enter Tryz.func90, Tryz.ntmps90
  go_wp2_with (go_at_call 89; refine (l1InS_any _ _ _ _).mono ?_; rintro e w' ⟨rfl, rfl⟩; rw [hd])
  go_ret
  exact ⟨rbool HV.out.symm, HB.out⟩
 by_cases h7 : g ≤ u - t
 case neg =>
  have HV := hidOf (show subR v ⟨i, t, u, g, o, p, fl⟩ = false by
   unfold subR subHead subSums
   simp only [Bool.and_eq_false_iff, decide_eq_false_iff_not]
   omega)
  have hd : decide (0 ≤ i ∧ i ≤ v.nx - 1) = true := by simp [h0]
  have hw1 : wrap64 (u - t) = u - t := by unfold wrap64; omega
  go_enter Tryz.func90, Tryz.ntmps90
  go_wp2_with (go_at_call 89; refine (l1InS_any _ _ _ _).mono ?_; rintro e w' ⟨rfl, rfl⟩; rw [hd])
  go_ret
  exact ⟨rbool HV.out.symm, HB.out⟩
 by_cases h8 : o ≤ u - t
 case neg =>
  have HV := hidOf (show subR v ⟨i, t, u, g, o, p, fl⟩ = false by
   unfold subR subHead subSums
   simp only [Bool.and_eq_false_iff, decide_eq_false_iff_not]
   omega)
  have hd : decide (0 ≤ i ∧ i ≤ v.nx - 1) = true := by simp [h0]
  have hw1 : wrap64 (u - t) = u - t := by unfold wrap64; omega
  go_enter Tryz.func90, Tryz.ntmps90
  go_wp2_with (go_at_call 89; refine (l1InS_any _ _ _ _).mono ?_; rintro e w' ⟨rfl, rfl⟩; rw [hd])
  go_ret
  exact ⟨rbool HV.out.symm, HB.out⟩
 by_cases h9 : p ≤ u - t
 case neg =>
  have HV := hidOf (show subR v ⟨i, t, u, g, o, p, fl⟩ = false by
   unfold subR subHead subSums
   simp only [Bool.and_eq_false_iff, decide_eq_false_iff_not]
   omega)
  have hd : decide (0 ≤ i ∧ i ≤ v.nx - 1) = true := by simp [h0]
  have hw1 : wrap64 (u - t) = u - t := by unfold wrap64; omega
  go_enter Tryz.func90, Tryz.ntmps90
  go_wp2_with (go_at_call 89; refine (l1InS_any _ _ _ _).mono ?_; rintro e w' ⟨rfl, rfl⟩; rw [hd])
  go_ret
  exact ⟨rbool HV.out.symm, HB.out⟩
 by_cases h10 : g + o + p = u - t
 case neg =>
  have HV := hidOf (show subR v ⟨i, t, u, g, o, p, fl⟩ = false by
   unfold subR subHead subSums
   simp only [Bool.and_eq_false_iff, decide_eq_false_iff_not]
   omega)
  have hq : (g + o + p == u - t) = false := by simp [h10]
  have hd : decide (0 ≤ i ∧ i ≤ v.nx - 1) = true := by simp [h0]
  have hw1 : wrap64 (u - t) = u - t := by unfold wrap64; omega
  have hw2 : wrap64 (g + o) = g + o := by unfold wrap64; omega
  have hw3 : wrap64 (g + o + p) = g + o + p := by unfold wrap64; omega
  go_enter Tryz.func90, Tryz.ntmps90
  go_wp2_with (go_at_call 89; refine (l1InS_any _ _ _ _).mono ?_; rintro e w' ⟨rfl, rfl⟩; rw [hd])
  go_ret
  exact ⟨rbool HV.out.symm, HB.out⟩
 have hd : decide (0 ≤ i ∧ i ≤ v.nx - 1) = true := by simp [h0]
 have hw1 : wrap64 (u - t) = u - t := by unfold wrap64; omega
 have hw2 : wrap64 (g + o) = g + o := by unfold wrap64; omega
 have hw3 : wrap64 (g + o + p) = g + o + p := by unfold wrap64; omega
 have hq : (g + o + p == u - t) = true := by simp [h10]
 have HV := hidOf (show subR v ⟨i, t, u, g, o, p, fl⟩ = okF fl by
  have e1 : subHead v ⟨i, t, u, g, o, p, fl⟩ = true := by
   unfold subHead
   simp only [Bool.and_eq_true, decide_eq_true_eq]
   omega
  have e2 : subSums ⟨i, t, u, g, o, p, fl⟩ = true := by
   unfold subSums
   simp only [Bool.and_eq_true, decide_eq_true_eq]
   omega
  unfold subR
  rw [e1, e2]
  rfl)
 clear h10
 go_enter Tryz.func90, Tryz.ntmps90
 go_wp2_with (go_at_call 89; refine (l1InS_any _ _ _ _).mono ?_; rintro e w' ⟨rfl, rfl⟩; rw [hd])
 refine (specFilterOk_any fa fn fc fl _ HF.out (by omega)).mono ?_
 rintro e w1 ⟨rfl, hb1⟩
 have hB1 := bl_trans HB.out hb1
 clear hb1
 go_wp2
 go_ret
 exact ⟨rbool HV.out.symm, hB1⟩
end Go.Proofs.YtdboaoejlkkoeaaGreat
