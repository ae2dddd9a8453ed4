/-
  A ring as rows: more told, nobody waiting, closed. What a ring, a list and a code handed back are.
-/
import Derived.Test.YtihdglmiecifjaaGreatZRa19
namespace Go.Proofs.YtihdglmiecifjaaGreat
open Go.RowKit Pl Il

theorem BoxL.grownO {N : Nat} {vs : List Value} {w w' : World} {g : Option Nat} (h : BoxL N vs w) (hg : w.grownBy w' g) (hn : g ≠ some N) : BoxL N vs w' :=
  h.of_block (hg.block N h.lt fun e => hn e.symm) (Nat.lt_of_lt_of_le h.lt hg.size)
theorem RRow.shut {B : Nat} {w : World} {M : Rm} {v : Rv} (h : RRow B w M v) (b : Bool) : RRow B w M { v with cl := b } := ⟨h.it, h.its, h.sb, h.fl, h.fls, h.sv, h.ln, h.gs, h.apt⟩
/-- Nobody waits. -/
theorem RRow.noLine {B : Nat} {w : World} {M : Rm} {v : Rv} (h : RRow B w M v) : RRow B w { M with la := none, l := 0, lc := 0 } { v with ln := [] } := by
  have hA : AptP _ _ _ _ _ := apt_iff.1 h.apt
  have nb : ∀ b, (Value.slice none 0 0).ownBlock = some b → False := fun b e => by simp [Value.ownBlock] at e
  exact ⟨h.it, h.its, h.sb, h.fl, h.fls, h.sv, ⟨rfl, .inl ⟨rfl, rfl⟩⟩, h.gs, apt_iff.2 ⟨hA.is, fun b _ e' => nb b e', hA.ig, hA.ix, fun b _ e' => nb b e', hA.sg, hA.sx, fun b e _ => nb b e, fun x _ b e _ => nb b e, hA.gx, hA.xx⟩⟩
/-- More are told. -/
theorem RRow.growG {B : Nat} {w w' : World} {M : Rm} {v : Rv} {a' : Option Addr} {n' c' : Nat} {xs : List Int} (h : RRow B w M v) (ho : w'.ownsRow B 3 1 (.slice a' n' c') n' (intsV xs)) (hg : w.grownBy w' (Value.slice M.ga M.g M.gc).ownBlock)
    (hl : ∀ q, (Value.slice a' n' c').ownBlock = some q → (Value.slice M.ga M.g M.gc).ownBlock = some q ∨ w.heap.size ≤ q) : RRow B w' { M with ga := a', g := n', gc := c' } { v with gs := xs } := by
  have hA : AptP _ _ _ _ _ := apt_iff.1 h.apt
  have lt : ∀ {z : Option Nat}, z ∈ blkR M → ∀ q, z = some q → q < w.heap.size := fun hz q e => (h.blk q (by rw [← e]; exact hz)).2
  have inX : ∀ y, y ∈ M.xs.map (fun x => (Value.slice x.a x.n x.c).ownBlock) → y ∈ blkR M := fun y hy => by
    unfold blkR
    exact List.mem_cons_of_mem _ (List.mem_cons_of_mem _ (List.mem_cons_of_mem _ (List.mem_cons_of_mem _ hy)))
  have nw : ∀ {z : Option Nat}, (∀ b, z = some b → (Value.slice M.ga M.g M.gc).ownBlock ≠ some b) → z ∈ blkR M → ∀ b, z = some b → (Value.slice a' n' c').ownBlock ≠ some b := fun hz hin b ez e => by
    rcases hl b e with k | k
    · exact hz b ez k
    · have := lt hin b ez; omega
  have swap : ∀ {y z : Option Nat}, (∀ b, y = some b → z ≠ some b) → ∀ b, z = some b → y ≠ some b := fun hyz b e e' => hyz b e' e
  refine ⟨rowG h.it hg (swap hA.ig), h.its, rowG h.sb hg (swap hA.sg), fun x hx => rowG (h.fl x hx) hg (hA.gx _ (List.mem_map.2 ⟨x, hx, rfl⟩)), h.fls, h.sv, rowG h.ln hg (swap hA.lg), ho, apt_iff.2 ⟨hA.is, hA.il, nw hA.ig (by simp [blkR]), hA.ix, hA.sl, nw hA.sg (by simp [blkR]), hA.sx, nw hA.lg (by simp [blkR]), hA.lx, fun x hx => swap (nw (swap (hA.gx x hx)) (inX x hx)), hA.xx⟩⟩
/-- A ring, a list of whom is told, and a code were handed back. -/
def RgT (w : World) (v : Rv) (told : List Int) (c : Int) (e : Ending) (w' : World) : Prop := ∃ (M : Rm) (a : Option Addr) (n k : Nat), e = .returned (.tuple #[.agg #[.int .i64 v.cp, .int .i64 v.se, .slice M.ia M.i M.ic, .int .i64 v.nx, .slice M.sa M.s M.sc, .slice M.la M.l M.lc, .slice M.ga M.g M.gc, .bool v.cl], .slice a n k, .int .i64 c]) ∧ ROwn w.heap.size w' M v ∧ RLe M 2097152 ∧ Il.OwnAt w.heap.size w' a n told ∧ n ≤ 2097152 ∧ (∀ p, p ∈ allR M → Far p.1 p.2 a n) ∧ Below w.heap.size w w'
def RgTS (w : World) (v : Rv) (told : List Int) (c : Int) (e : Ending) (w' : World) : Prop := ∃ (M : Rm) (a : Option Addr) (n k : Nat), e = .returned (.tuple #[.agg #[.int .i64 v.cp, .int .i64 v.se, .slice M.ia M.i M.ic, .int .i64 v.nx, .slice M.sa M.s M.sc, .slice M.la M.l M.lc, .slice M.ga M.g M.gc, .bool v.cl], .slice a n k, .int .i64 c]) ∧ RRow w.heap.size w' M v ∧ RLe M 2097152 ∧ Il.OwnAt w.heap.size w' a n told ∧ n ≤ 2097152 ∧ (∀ p, p ∈ allR M → Far p.1 p.2 a n) ∧ Below w.heap.size w w'
theorem RgTS.weak {w : World} {v : Rv} {t : List Int} {c : Int} {e : Ending} {w' : World} (h : RgTS w v t c e w') : RgT w v t c e w' := by
  obtain ⟨M, a, n, k, he, hr, h1⟩ := h
  exact ⟨M, a, n, k, he, hr.own, h1⟩
/-- All who wait are told, and it is closed. -/
def shutR (v : Rv) : Rv := ⟨v.cp, v.se, v.it, v.nx, v.sb, [], v.gs ++ v.ln, true⟩
def cloR (v : Rv) : Rv := if okR restR v = true then (if v.cl = true then v else shutR v) else v
def cloT (v : Rv) : List Int := if okR restR v = true then (if v.cl = true then [] else v.ln) else []
def cloC (v : Rv) : Int := if okR restR v = true then (if v.cl = true then 6 else 0) else 1
def CloseDone (F : Nat) : Prop := ∀ (M : Rm) (v : Rv) (w : World), RIn w M v → RLe M 1048576 → RCap M → RWf v →
  Calls Tryz.prog F #[.agg #[.int .i64 v.cp, .int .i64 v.se, .slice M.ia M.i M.ic, .int .i64 v.nx, .slice M.sa M.s M.sc, .slice M.la M.l M.lc, .slice M.ga M.g M.gc, .bool v.cl]] w fun e w' => RgT w (cloR v) (cloT v) (cloC v) e w'
def CloseDoneS (F : Nat) : Prop := ∀ (M : Rm) (v : Rv) (w : World), RIn w M v → RLe M 1048576 → RCap M → RWf v →
  Calls Tryz.prog F #[.agg #[.int .i64 v.cp, .int .i64 v.se, .slice M.ia M.i M.ic, .int .i64 v.nx, .slice M.sa M.s M.sc, .slice M.la M.l M.lc, .slice M.ga M.g M.gc, .bool v.cl]] w fun e w' => RgTS w (cloR v) (cloT v) (cloC v) e w'
end Go.Proofs.YtihdglmiecifjaaGreat
