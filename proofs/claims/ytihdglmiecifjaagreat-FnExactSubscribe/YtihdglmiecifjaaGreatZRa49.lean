/-
  One subscriber more: in a body; what Subscribe answers.
-/
import Derived.Test.YtihdglmiecifjaaGreatZRa30
namespace Go.Proofs.YtihdglmiecifjaaGreat
open Go.RowKit Go.Maps Pl Il

/-- Where the new one begins. -/
def fromR (v : Rv) (back : Bool) : Int := if back = true then oldR v else v.se
def newS (v : Rv) (start : Int) (f : List Tm) : Sb := ⟨v.nx, start, start, 0, 0, 0, f⟩
def sbsV (v : Rv) (f : List Tm) (back : Bool) : Rv := ⟨v.cp, v.se, v.it, v.nx + 1, v.sb ++ [newS v (fromR v back) f], v.ln, v.gs, v.cl⟩
def sbsC (v : Rv) (f : List Tm) : Int := if okR restR v = true ∧ okF f = true then (if v.cl = true then 6 else if 12 ≤ v.sb.length ∨ 1000000000 ≤ v.nx then 2 else 0) else 1
def sbsR (v : Rv) (f : List Tm) (back : Bool) : Rv := if sbsC v f = 0 then sbsV v f back else v
def sbsI (v : Rv) (f : List Tm) : Int := if sbsC v f = 0 then v.nx else -1
/-- A ring, a number and a code are handed back. -/
def RgI (w : World) (v : Rv) (i c : Int) (e : Ending) (w' : World) : Prop := ∃ M : Rm, e = .returned (.tuple #[.agg #[.int .i64 v.cp, .int .i64 v.se, .slice M.ia M.i M.ic, .int .i64 v.nx, .slice M.sa M.s M.sc, .slice M.la M.l M.lc, .slice M.ga M.g M.gc, .bool v.cl], .int .i64 i, .int .i64 c]) ∧ ROwn w.heap.size w' M v ∧ RLe M 2097152 ∧ Below w.heap.size w w'
def RgIS (w : World) (v : Rv) (i c : Int) (e : Ending) (w' : World) : Prop := ∃ M : Rm, e = .returned (.tuple #[.agg #[.int .i64 v.cp, .int .i64 v.se, .slice M.ia M.i M.ic, .int .i64 v.nx, .slice M.sa M.s M.sc, .slice M.la M.l M.lc, .slice M.ga M.g M.gc, .bool v.cl], .int .i64 i, .int .i64 c]) ∧ RRow w.heap.size w' M v ∧ RLe M 2097152 ∧ Below w.heap.size w w'
theorem RgIS.weak {w : World} {v : Rv} {i c : Int} {e : Ending} {w' : World} (h : RgIS w v i c e w') : RgI w v i c e w' := by
  obtain ⟨M, he, hr, h1⟩ := h
  exact ⟨M, he, hr.own, h1⟩
def SbsDone (F : Nat) : Prop := ∀ (M : Rm) (v : Rv) (a : Option Addr) (n cap : Nat) (ts : List Tm) (back : Bool) (w : World), RIn w M v → RLe M 1048576 → RCap M → RWf v → TmAt w a n ts → n ≤ 1048576 →
  Calls Tryz.prog F #[.agg #[.int .i64 v.cp, .int .i64 v.se, .slice M.ia M.i M.ic, .int .i64 v.nx, .slice M.sa M.s M.sc, .slice M.la M.l M.lc, .slice M.ga M.g M.gc, .bool v.cl], .slice a n cap, .bool back] w fun e w' => RgI w (sbsR v ts back) (sbsI v ts) (sbsC v ts) e w'
def SbsDoneS (F : Nat) : Prop := ∀ (M : Rm) (v : Rv) (a : Option Addr) (n cap : Nat) (ts : List Tm) (back : Bool) (w : World), RIn w M v → RLe M 1048576 → RCap M → RWf v → TmAt w a n ts → n ≤ 1048576 →
  Calls Tryz.prog F #[.agg #[.int .i64 v.cp, .int .i64 v.se, .slice M.ia M.i M.ic, .int .i64 v.nx, .slice M.sa M.s M.sc, .slice M.la M.l M.lc, .slice M.ga M.g M.gc, .bool v.cl], .slice a n cap, .bool back] w fun e w' => RgIS w (sbsR v ts back) (sbsI v ts) (sbsC v ts) e w'
/-- The next number of a body. -/
theorem RBody.next {B b : Nat} {A : Na} {P : Nat → Tm} {f : Nat} {v : Rv} {sa : Option Addr} {s sc : Nat} {ys : List Sa} {w : World} (h : RBody B b A P f v sa s sc ys w) (k : Int) : RBody B b A P f { v with nx := k } sa s sc ys (w.setCell ⟨b, 56, none⟩ (.int .i64 k)) := by
  have ot : ∀ o, o ≠ 56 → (w.setCell ⟨b, 56, none⟩ (.int .i64 k)).cell? ⟨b, o, none⟩ = w.cell? ⟨b, o, none⟩ := fun o ho => World.cell?_setCell_other _ _ _ _ (by intro e; cases e; exact ho rfl)
  have gs := grown_setC w b 56 (.int .i64 k)
  have one : ∀ {t z : Nat} {u : Value} {n : Nat} {xs : List Value}, w.ownsRow B t z u n xs → u.ownBlock ≠ some b → (w.setCell ⟨b, 56, none⟩ (.int .i64 k)).ownsRow B t z u n xs := fun hr h2 => rowG hr gs (fun q e => by injection e with e; rw [← e]; exact h2)
  refine ⟨⟨by simpa using h.wst.lt, h.wst.ge, by rw [ot 0 (by omega)]; exact h.wst.c0, by rw [ot 1 (by omega)]; exact h.wst.c1, fun o => by simpa using h.wst.fr o, ⟨one h.wst.rows.one h.wst.ne1, one h.wst.rows.two h.wst.ne2, h.wst.rows.ne⟩, h.wst.ne1, h.wst.ne2⟩, ⟨?_, fun j hj => ?_⟩, by rw [ot 2 (by omega)]; exact h.c2, by rw [ot _ (by omega)]; exact h.fst, by rw [ot _ (by omega)]; exact h.nxt, World.cell?_setCell_same _ _ _ h.c56, by rw [ot 57 (by omega)]; exact h.c57, by rw [ot 58 (by omega)]; exact h.c58, ⟨one h.srow.sb h.nb.1, fun x hx => one (h.srow.fl x hx) (h.nb.2 x hx), h.srow.fls, h.srow.apt⟩, h.sv, h.its, h.sh, h.se, h.few, h.nb, h.ap⟩
  · obtain ⟨cur1, t1, hc1, hs1⟩ := h.rnd.blk
    exact ⟨cur1.setIfInBounds 56 (.int .i64 k), t1, heap_setCell_same w b 56 cur1 t1 _ hc1, by simpa using hs1⟩
  · obtain ⟨h1, h2, h3⟩ := h.rnd.pl j hj
    exact ⟨by rw [ot _ (by omega)]; exact h1, by rw [ot _ (by omega)]; exact h2, by rw [ot _ (by omega)]; exact h3⟩
/-- A subscriber more in a body. -/
theorem RBody.push {B b : Nat} {A : Na} {P : Nat → Tm} {f : Nat} {v : Rv} {sa a' : Option Addr} {s sc c' : Nat} {ys : List Sa} {x : Sa} {u w' : World} (h : RBody B b A P f v sa s sc ys u) (hx : u.ownsRow B 132 3 (.slice x.a x.n x.c) x.n (qflat x.s.fl)) (hxs : ∀ p, p ∈ x.s.fl → p.2.2.size ≤ maxLen)
    (hxb : ∀ q, (Value.slice x.a x.n x.c).ownBlock = some q → q ≠ b ∧ (Value.slice sa s sc).ownBlock ≠ some q ∧ (∀ y, y ∈ ys → (Value.slice y.a y.n y.c).ownBlock ≠ some q) ∧ (Value.slice A.a A.n A.c).ownBlock ≠ some q ∧ (Value.slice A.a' A.n' A.c').ownBlock ≠ some q)
    (ho : w'.ownsRow B 41 7 (.slice a' (s + 1) c') (s + 1) (sflat (ys ++ [x]))) (hg : u.grownBy w' (Value.slice sa s sc).ownBlock) (hl : ∀ q, (Value.slice a' (s + 1) c').ownBlock = some q → (Value.slice sa s sc).ownBlock = some q ∨ u.heap.size ≤ q) :
    RBody B b A P f { v with sb := v.sb ++ [x.s] } a' (s + 1) c' (ys ++ [x]) (w'.setCell ⟨b, 57, none⟩ (.slice a' (s + 1) c')) := by
  have hblt := h.wst.lt
  have hkb : w'.heap[b]? = u.heap[b]? := hg.block b h.wst.lt (fun e => h.nb.1 e.symm)
  have c1 : ∀ j, w'.cell? ⟨b, j, none⟩ = u.cell? ⟨b, j, none⟩ := fun j => World.cell?_of_block hkb
  have ct : ∀ j, j ≠ 57 → (w'.setCell ⟨b, 57, none⟩ (.slice a' (s + 1) c')).cell? ⟨b, j, none⟩ = u.cell? ⟨b, j, none⟩ := fun j hj => by rw [World.cell?_setCell_other _ _ _ _ (by intro e; cases e; exact hj rfl), c1]
  have gs := grown_setC w' b 57 (.slice a' (s + 1) c')
  have two : ∀ {t z : Nat} {r : Value} {n : Nat} {xs : List Value}, u.ownsRow B t z r n xs → (∀ q, r.ownBlock = some q → (Value.slice sa s sc).ownBlock ≠ some q) → r.ownBlock ≠ some b → (w'.setCell ⟨b, 57, none⟩ (.slice a' (s + 1) c')).ownsRow B t z r n xs := fun hr h1 h2 =>
    rowG (rowG hr hg (fun q e e' => h1 q e' e)) gs (fun q e => by injection e with e; rw [← e]; exact h2)
  have ha := h.srow.apt
  unfold Apt at ha
  rw [List.pairwise_cons] at ha
  have nb' : (Value.slice a' (s + 1) c').ownBlock ≠ some b := fun e => by
    rcases hl b e with k | k
    · exact h.nb.1 k
    · omega
  -- what lay there apart from the old list is apart from the new one
  have nw : ∀ q, q < u.heap.size → (Value.slice sa s sc).ownBlock ≠ some q → (Value.slice a' (s + 1) c').ownBlock ≠ some q := fun q hq hn e => by
    rcases hl q e with k | k
    · exact hn k
    · omega
  refine ⟨⟨?_, h.wst.ge, by rw [ct 0 (by omega)]; exact h.wst.c0, by rw [ct 1 (by omega)]; exact h.wst.c1, fun o => ?_, ⟨two h.wst.rows.one (fun q e => (h.ap q (.inl e)).1) h.wst.ne1, two h.wst.rows.two (fun q e => (h.ap q (.inr e)).1) h.wst.ne2, h.wst.rows.ne⟩, h.wst.ne1, h.wst.ne2⟩, ⟨?_, fun j hj => ?_⟩, by rw [ct 2 (by omega)]; exact h.c2, by rw [ct _ (by omega)]; exact h.fst, by rw [ct _ (by omega)]; exact h.nxt, by rw [ct 56 (by omega)]; exact h.c56, World.cell?_setCell_same _ _ _ (by rw [c1]; exact h.c57), by rw [ct 58 (by omega)]; exact h.c58, ⟨rowG ho gs (fun q e => by injection e with e; rw [← e]; exact nb'), fun y hy => ?_, fun y hy => ?_, ?_⟩, ?_, h.its, h.sh, h.se, h.few, ⟨nb', fun y hy => ?_⟩, fun q hq => ⟨?_, fun y hy => ?_⟩⟩
  · have := hg.size; simp; omega
  · obtain ⟨cur1, t1, hc1, _⟩ := h.rnd.blk
    simp [World.frozen?, heap_setCell_same w' b 57 cur1 t1 _ (by rw [hkb]; exact hc1)]
  · obtain ⟨cur1, t1, hc1, hs1⟩ := h.rnd.blk
    exact ⟨cur1.setIfInBounds 57 (.slice a' (s + 1) c'), t1, heap_setCell_same w' b 57 cur1 t1 _ (by rw [hkb]; exact hc1), by simpa using hs1⟩
  · obtain ⟨h1, h2, h3⟩ := h.rnd.pl j hj
    exact ⟨by rw [ct _ (by omega)]; exact h1, by rw [ct _ (by omega)]; exact h2, by rw [ct _ (by omega)]; exact h3⟩
  · rcases List.mem_append.1 hy with hy | hy
    · exact two (h.srow.fl y hy) (fun q e e' => ha.1 _ (List.mem_map.2 ⟨y, hy, rfl⟩) q e' e) (h.nb.2 y hy)
    · obtain rfl : y = x := by simpa using hy
      exact two hx (fun q e => (hxb q e).2.1) (fun e => (hxb b e).1 rfl)
  · rcases List.mem_append.1 hy with hy | hy
    · exact h.srow.fls y hy
    · obtain rfl : y = x := by simpa using hy
      exact hxs
  · unfold Apt
    rw [List.pairwise_cons, List.map_append, List.pairwise_append]
    refine ⟨fun y hy => ?_, ha.2, by simp, fun p hp r hr q e e' => ?_⟩
    · intro q e e'
      rcases List.mem_append.1 hy with hy | hy
      · obtain ⟨z, hz, rfl⟩ := List.mem_map.1 hy
        exact nw q (row_lt (h.srow.fl z hz) e').2 (fun k => ha.1 _ (List.mem_map.2 ⟨z, hz, rfl⟩) q k e') e
      · obtain rfl : y = (Value.slice x.a x.n x.c).ownBlock := by simpa using hy
        exact nw q (row_lt hx e').2 (hxb q e').2.1 e
    · obtain ⟨z, hz, rfl⟩ := List.mem_map.1 hp
      obtain rfl : r = (Value.slice x.a x.n x.c).ownBlock := by simpa using hr
      exact (hxb q e').2.2.1 z hz e
  · have := h.sv
    simp only [svs, List.map_append, List.map_cons, List.map_nil] at this ⊢
    rw [this]
  · rcases List.mem_append.1 hy with hy | hy
    · exact h.nb.2 y hy
    · obtain rfl : y = x := by simpa using hy
      exact fun e => (hxb b e).1 rfl
  · refine nw q ?_ (h.ap q hq).1
    rcases hq with e | e
    · exact (row_lt h.wst.rows.one e).2
    · exact (row_lt h.wst.rows.two e).2
  · rcases List.mem_append.1 hy with hy | hy
    · exact (h.ap q hq).2 y hy
    · obtain rfl : y = x := by simpa using hy
      intro e
      rcases hq with k | k
      · exact (hxb q e).2.2.2.1 k
      · exact (hxb q e).2.2.2.2 k
end Go.Proofs.YtihdglmiecifjaaGreat
