/-
  The specification's Unwait.
  Rings under a marking of another one; what a law on a ring handed back holds on to.
  A ring as rows: more told, nobody waiting, closed. What a ring, a list and a code handed back are.
  What a law on a ring handed back and a list told holds on to besides.
  The program's lists once more: a copy, Leave and Wake, each list that is handed back a row of its own.
-/
import Derived.Test.YtpiknjkdojalpaaGreatZSn16
import Derived.Test.YtpiknjkdojalpaaGreatZSn18
import Derived.Deep.CutRange
import Derived.Test.YtpiknjkdojalpaaGreatZSn11
import Derived.Test.YtpiknjkdojalpaaGreatZSn13
namespace Go.Proofs.YtpiknjkdojalpaaGreat
open Go.RowKit Pl Il

/-- A ring and a code were handed back. -/
def RgP (w : World) (v : Rv) (c : Int) (e : Ending) (w' : World) : Prop := ∃ M : Rm, e = .returned (.tuple #[.agg #[.int .i64 v.cp, .int .i64 v.se, .slice M.ia M.i M.ic, .int .i64 v.nx, .slice M.sa M.s M.sc, .slice M.la M.l M.lc, .slice M.ga M.g M.gc, .bool v.cl], .int .i64 c]) ∧ ROwn w.heap.size w' M v ∧ RLe M 2097152 ∧ Below w.heap.size w w'
/-- Who waits or was told is there no more. -/
def goneR (v : Rv) (id : Int) : Rv := ⟨v.cp, v.se, v.it, v.nx, v.sb, lessL v.ln id, lessL v.gs id, v.cl⟩
def unwR (v : Rv) (id : Int) : Rv := if okR restR v = true then (if (hasL v.ln id || hasL v.gs id) = true then goneR v id else v) else v
def unwC (v : Rv) (id : Int) : Int := if okR restR v = true then (if (hasL v.ln id || hasL v.gs id) = true then 0 else 3) else 1
def UnwaitDone (F : Nat) : Prop := ∀ (M : Rm) (v : Rv) (id : Int) (w : World), RIn w M v → RLe M 1048576 → RCap M → RWf v → (Lit.int .i64 id).wf = true →
  Calls Tryz.prog F #[.agg #[.int .i64 v.cp, .int .i64 v.se, .slice M.ia M.i M.ic, .int .i64 v.nx, .slice M.sa M.s M.sc, .slice M.la M.l M.lc, .slice M.ga M.g M.gc, .bool v.cl], .int .i64 id] w fun e w' => RgP w (unwR v id) (unwC v id) e w'
/-- A list of it is another one. -/
theorem RRow.line {B : Nat} {w' : World} {M : Rm} {v : Rv} {g m c : Nat} {xs : List Int} (h : RRow B w' M v) (ho : w'.ownsRow B 3 1 (.slice (some ⟨g, 0, none⟩) m c) m (intsV xs)) (hn : some g ∉ blkR M) : RRow B w' { M with la := some ⟨g, 0, none⟩, l := m, lc := c } { v with ln := xs } := by
  have hA : AptP _ _ _ _ _ := apt_iff.1 h.apt
  have nin : ∀ {z : Option Nat}, z ∈ blkR M → z ≠ some g := fun hz e => hn (by rw [← e]; exact hz)
  have gb : ∀ b, (Value.slice (some ⟨g, 0, none⟩) m c).ownBlock = some b → g = b := fun b e => by simpa [Value.ownBlock] using e
  have inX : ∀ y, y ∈ M.xs.map (fun x => (Value.slice x.a x.n x.c).ownBlock) → y ∈ blkR M := fun y hy => by
    unfold blkR
    exact List.mem_cons_of_mem _ (List.mem_cons_of_mem _ (List.mem_cons_of_mem _ (List.mem_cons_of_mem _ hy)))
  refine ⟨h.it, h.its, h.sb, h.fl, h.fls, h.sv, ho, h.gs, apt_iff.2 ⟨hA.is, fun b e e' => ?_, hA.ig, hA.ix, fun b e e' => ?_, hA.sg, hA.sx, fun b e e' => ?_, fun x hx b e e' => ?_, hA.gx, hA.xx⟩⟩
  · exact nin (z := (Value.slice M.ia M.i M.ic).ownBlock) (by simp [blkR]) (by rw [gb b e']; exact e)
  · exact nin (z := (Value.slice M.sa M.s M.sc).ownBlock) (by simp [blkR]) (by rw [gb b e']; exact e)
  · exact nin (z := (Value.slice M.ga M.g M.gc).ownBlock) (by simp [blkR]) (by rw [gb b e]; exact e')
  · exact nin (inX x hx) (by rw [gb b e]; exact e')
theorem RRow.grants {B : Nat} {w' : World} {M : Rm} {v : Rv} {g m c : Nat} {xs : List Int} (h : RRow B w' M v) (ho : w'.ownsRow B 3 1 (.slice (some ⟨g, 0, none⟩) m c) m (intsV xs)) (hn : some g ∉ blkR M) : RRow B w' { M with ga := some ⟨g, 0, none⟩, g := m, gc := c } { v with gs := xs } := by
  have hA : AptP _ _ _ _ _ := apt_iff.1 h.apt
  have nin : ∀ {z : Option Nat}, z ∈ blkR M → z ≠ some g := fun hz e => hn (by rw [← e]; exact hz)
  have gb : ∀ b, (Value.slice (some ⟨g, 0, none⟩) m c).ownBlock = some b → g = b := fun b e => by simpa [Value.ownBlock] using e
  have inX : ∀ y, y ∈ M.xs.map (fun x => (Value.slice x.a x.n x.c).ownBlock) → y ∈ blkR M := fun y hy => by
    unfold blkR
    exact List.mem_cons_of_mem _ (List.mem_cons_of_mem _ (List.mem_cons_of_mem _ (List.mem_cons_of_mem _ hy)))
  refine ⟨h.it, h.its, h.sb, h.fl, h.fls, h.sv, h.ln, ho, apt_iff.2 ⟨hA.is, hA.il, fun b e e' => ?_, hA.ix, hA.sl, fun b e e' => ?_, hA.sx, fun b e e' => ?_, hA.lx, fun x hx b e e' => ?_, hA.xx⟩⟩
  · exact nin (z := (Value.slice M.ia M.i M.ic).ownBlock) (by simp [blkR]) (by rw [gb b e']; exact e)
  · exact nin (z := (Value.slice M.sa M.s M.sc).ownBlock) (by simp [blkR]) (by rw [gb b e']; exact e)
  · exact nin (z := (Value.slice M.la M.l M.lc).ownBlock) (by simp [blkR]) (by rw [gb b e']; exact e)
  · exact nin (inX x hx) (by rw [gb b e]; exact e')
theorem lessL_len (xs : List Int) (x : Int) : (lessL xs x).length ≤ xs.length := by
  unfold lessL
  exact List.length_erase_le
end Go.Proofs.YtpiknjkdojalpaaGreat
namespace Go.Proofs.YtpiknjkdojalpaaGreat
open Go.RowKit Pl Il

theorem RIn.turn {ls : List (Option Addr × Nat)} {w w' : World} {M : Rm} {v : Rv} (h : RIn w M v) (ht : TurnL ls w w') (hf : ∀ p, p ∈ ls → ∀ q, q ∈ allR M → Far p.1 p.2 q.1 q.2) : RIn w' M v :=
  ⟨h.it.turn ht fun p hp => hf p hp (M.ia, M.i) (by simp [allR]), h.sb.turn ht (fun p hp => hf p hp (M.sa, M.s) (by simp [allR])) (fun x hx p hp => hf p hp (x.a, x.n) (by
    unfold allR
    exact List.mem_cons_of_mem _ (List.mem_cons_of_mem _ (List.mem_cons_of_mem _ (List.mem_cons_of_mem _ (List.mem_map.2 ⟨x, hx, rfl⟩)))))), h.sv, IntsAt.turn h.ln ht fun p hp => hf p hp (M.la, M.l) (by simp [allR]), IntsAt.turn h.gs ht fun p hp => hf p hp (M.ga, M.g) (by simp [allR])⟩
theorem ROwn.turn {ls : List (Option Addr × Nat)} {B : Nat} {w w' : World} {M : Rm} {v : Rv} (h : ROwn B w M v) (ht : TurnL ls w w') (hf : ∀ p, p ∈ ls → ∀ q, q ∈ allR M → Far p.1 p.2 q.1 q.2) : ROwn B w' M v :=
  ⟨h.it.turn ht fun p hp => hf p hp (M.ia, M.i) (by simp [allR]), h.sb.turn ht (fun p hp => hf p hp (M.sa, M.s) (by simp [allR])) (fun x hx p hp => hf p hp (x.a, x.n) (by
    unfold allR
    exact List.mem_cons_of_mem _ (List.mem_cons_of_mem _ (List.mem_cons_of_mem _ (List.mem_cons_of_mem _ (List.mem_map.2 ⟨x, hx, rfl⟩)))))), h.sv, Il.OwnAt.turn h.ln ht fun p hp => hf p hp (M.la, M.l) (by simp [allR]), Il.OwnAt.turn h.gs ht fun p hp => hf p hp (M.ga, M.g) (by simp [allR]), h.apt⟩
theorem BoxL.turnA {N K : Nat} {vs : List Value} {ls : List (Option Addr × Nat)} {w w' : World} (h : BoxL N vs w) (ht : TurnL ls w w') (hk : N < K) (hn : ∀ p, p ∈ ls → Abv p.1 p.2 K) : BoxL N vs w' :=
  h.of_block (ht.block N h.lt fun p hp h0 off e => by
    rcases hn p hp with q | q
    · omega
    · have := q _ _ e; omega) (Nat.lt_of_lt_of_le h.lt ht.size)
theorem abv_ints {B : Nat} {w : World} {a : Option Addr} {n : Nat} {xs : List Int} (h : Il.OwnAt B w a n xs) : Abv a n B := by
  rcases h.own with k | ⟨b', off', e, hB, _⟩
  · exact .inl k
  · exact .inr fun b1 o1 e1 => by rw [e] at e1; cases e1; exact hB
theorem OwnS.abv {B : Nat} {w : World} {a : Option Addr} {n : Nat} {xs : List Sa} (h : OwnS B w a n xs) : Abv a n B := by
  rcases h.own with k | ⟨b', off', e, hB, _⟩
  · exact .inl k
  · exact .inr fun b1 o1 e1 => by rw [e] at e1; cases e1; exact hB
theorem ROwn.abv {B : Nat} {w : World} {M : Rm} {v : Rv} (h : ROwn B w M v) : ∀ p, p ∈ allR M → Abv p.1 p.2 B := fun p hp => by
  unfold allR at hp
  simp only [List.mem_cons, List.mem_map] at hp
  rcases hp with rfl | rfl | rfl | rfl | ⟨x, hx, rfl⟩
  · exact h.it.abv
  · exact h.sb.abv
  · exact abv_ints h.ln
  · exact abv_ints h.gs
  · exact (h.sb.fow x hx).abv
/-- What the law's drawn region holds on to. -/
structure LawX (w : World) (N : Nat) (M M' : Rm) (v : Rv) (u0 u : World) : Prop where
  arg : BoxL w.heap.size (rC M v) u
  own : BoxL N (rC M' v) u
  cop : RIn u M' v
  below : Below w.heap.size w u
  since : Below u0.heap.size u0 u
theorem LawX.keep {w : World} {N : Nat} {M M' : Rm} {v : Rv} {u0 u u' : World} (h : LawX w N M M' v u0 u) (hb : Below u.heap.size u u') : LawX w N M M' v u0 u' := ⟨h.arg.keep hb, h.own.keep hb, h.cop.keep hb, bl_trans h.below hb, bl_trans h.since hb⟩
abbrev LawXS (w : World) (N : Nat) (M M' : Rm) (v : Rv) (u0 u : World) : Prop :=
  u.cell? ⟨w.heap.size, 0, none⟩ = some (.int .i64 v.cp) ∧ u.cell? ⟨w.heap.size, 1, none⟩ = some (.int .i64 v.se) ∧ u.cell? ⟨w.heap.size, 2, none⟩ = some (.slice M.ia M.i M.ic) ∧ u.cell? ⟨w.heap.size, 3, none⟩ = some (.int .i64 v.nx) ∧ u.cell? ⟨w.heap.size, 4, none⟩ = some (.slice M.sa M.s M.sc) ∧ u.cell? ⟨w.heap.size, 5, none⟩ = some (.slice M.la M.l M.lc) ∧ u.cell? ⟨w.heap.size, 6, none⟩ = some (.slice M.ga M.g M.gc) ∧ u.cell? ⟨w.heap.size, 7, none⟩ = some (.bool v.cl) ∧ u.cell? ⟨N, 0, none⟩ = some (.int .i64 v.cp) ∧ u.cell? ⟨N, 1, none⟩ = some (.int .i64 v.se) ∧ u.cell? ⟨N, 2, none⟩ = some (.slice M'.ia M'.i M'.ic) ∧ u.cell? ⟨N, 3, none⟩ = some (.int .i64 v.nx) ∧ u.cell? ⟨N, 4, none⟩ = some (.slice M'.sa M'.s M'.sc) ∧ u.cell? ⟨N, 5, none⟩ = some (.slice M'.la M'.l M'.lc) ∧ u.cell? ⟨N, 6, none⟩ = some (.slice M'.ga M'.g M'.gc) ∧ u.cell? ⟨N, 7, none⟩ = some (.bool v.cl) ∧ LawX w N M M' v u0 u
theorem LawX.s {w : World} {N : Nat} {M M' : Rm} {v : Rv} {u0 u : World} (h : LawX w N M M' v u0 u) : LawXS w N M M' v u0 u :=
  ⟨h.arg.cs 0 (by simp), h.arg.cs 1 (by simp), h.arg.cs 2 (by simp), h.arg.cs 3 (by simp), h.arg.cs 4 (by simp), h.arg.cs 5 (by simp), h.arg.cs 6 (by simp), h.arg.cs 7 (by simp), h.own.cs 0 (by simp), h.own.cs 1 (by simp), h.own.cs 2 (by simp), h.own.cs 3 (by simp), h.own.cs 4 (by simp), h.own.cs 5 (by simp), h.own.cs 6 (by simp), h.own.cs 7 (by simp), h⟩
theorem LawXS.law {w : World} {N : Nat} {M M' : Rm} {v : Rv} {u0 u : World} (h : LawXS w N M M' v u0 u) : LawX w N M M' v u0 u := h.2.2.2.2.2.2.2.2.2.2.2.2.2.2.2.2
theorem LawXS.keep {w : World} {N : Nat} {M M' : Rm} {v : Rv} {u0 u u' : World} (h : LawXS w N M M' v u0 u) (hb : Below u.heap.size u u') : LawXS w N M M' v u0 u' := (h.law.keep hb).s
theorem LawXS.drew {w : World} {N : Nat} {M M' : Rm} {v : Rv} {u0 u : World} (h : LawXS w N M M' v u0 u) : LawXS w N M M' v u0 u.drew := h.keep (Below.refl _ _).drew
end Go.Proofs.YtpiknjkdojalpaaGreat
namespace Go.Proofs.YtpiknjkdojalpaaGreat
open Go.RowKit Pl Il

theorem BoxL.grownO {N : Nat} {vs : List Value} {w w' : World} {g : Option Nat} (h : BoxL N vs w) (hg : w.grownBy w' g) (hn : g ≠ some N) : BoxL N vs w' :=
  h.of_block (hg.block N h.lt fun e => hn e.symm) (Nat.lt_of_lt_of_le h.lt hg.size)
theorem RRow.shut {B : Nat} {w : World} {M : Rm} {v : Rv} (h : RRow B w M v) (b : Bool) : RRow B w M { v with cl := b } := ⟨h.it, h.its, h.sb, h.fl, h.fls, h.sv, h.ln, h.gs, h.apt⟩
/-- Nobody waits. -/
theorem RRow.noLine {B : Nat} {w : World} {M : Rm} {v : Rv} (h : RRow B w M v) : RRow B w { M with la := none, l := 0, lc := 0 } { v with ln := [] } := by
  have hA : AptP _ _ _ _ _ := apt_iff.1 h.apt
  have nb : ∀ b, (Value.slice none 0 0).ownBlock = some b → False := fun b e => by simp [Value.ownBlock] at e
  exact ⟨h.it, h.its, h.sb, h.fl, h.fls, h.sv, ⟨rfl, .inl ⟨rfl, rfl⟩⟩, h.gs, apt_iff.2 ⟨hA.is, fun b _ e' => nb b e', hA.ig, hA.ix, fun b _ e' => nb b e', hA.sg, hA.sx, fun b e _ => nb b e, fun x _ b e _ => nb b e, hA.gx, hA.xx⟩⟩
/-- More are told. -/
theorem RRow.growG {B : Nat} {w w' : World} {M : Rm} {v : Rv} {a' : Option Addr} {n' c' : Nat} {xs : List Int} (h : RRow B w M v) (ho : w'.ownsRow B 3 1 (.slice a' n' c') n' (intsV xs)) (hg : w.grownBy w' (Value.slice M.ga M.g M.gc).ownBlock)
    (hl : ∀ q, (Value.slice a' n' c').ownBlock = some q → (Value.slice M.ga M.g M.gc).ownBlock = some q ∨ w.heap.size ≤ q) : RRow B w' { M with ga := a', g := n', gc := c' } { v with gs := xs } := by
  have hA : AptP _ _ _ _ _ := apt_iff.1 h.apt
  have lt : ∀ {z : Option Nat}, z ∈ blkR M → ∀ q, z = some q → q < w.heap.size := fun hz q e => (h.blk q (by rw [← e]; exact hz)).2
  have inX : ∀ y, y ∈ M.xs.map (fun x => (Value.slice x.a x.n x.c).ownBlock) → y ∈ blkR M := fun y hy => by
    unfold blkR
    exact List.mem_cons_of_mem _ (List.mem_cons_of_mem _ (List.mem_cons_of_mem _ (List.mem_cons_of_mem _ hy)))
  have nw : ∀ {z : Option Nat}, (∀ b, z = some b → (Value.slice M.ga M.g M.gc).ownBlock ≠ some b) → z ∈ blkR M → ∀ b, z = some b → (Value.slice a' n' c').ownBlock ≠ some b := fun hz hin b ez e => by
    rcases hl b e with k | k
    · exact hz b ez k
    · have := lt hin b ez; omega
  have swap : ∀ {y z : Option Nat}, (∀ b, y = some b → z ≠ some b) → ∀ b, z = some b → y ≠ some b := fun hyz b e e' => hyz b e' e
  refine ⟨rowG h.it hg (swap hA.ig), h.its, rowG h.sb hg (swap hA.sg), fun x hx => rowG (h.fl x hx) hg (hA.gx _ (List.mem_map.2 ⟨x, hx, rfl⟩)), h.fls, h.sv, rowG h.ln hg (swap hA.lg), ho, apt_iff.2 ⟨hA.is, hA.il, nw hA.ig (by simp [blkR]), hA.ix, hA.sl, nw hA.sg (by simp [blkR]), hA.sx, nw hA.lg (by simp [blkR]), hA.lx, fun x hx => swap (nw (swap (hA.gx x hx)) (inX x hx)), hA.xx⟩⟩
/-- A ring, a list of whom is told, and a code were handed back. -/
def RgT (w : World) (v : Rv) (told : List Int) (c : Int) (e : Ending) (w' : World) : Prop := ∃ (M : Rm) (a : Option Addr) (n k : Nat), e = .returned (.tuple #[.agg #[.int .i64 v.cp, .int .i64 v.se, .slice M.ia M.i M.ic, .int .i64 v.nx, .slice M.sa M.s M.sc, .slice M.la M.l M.lc, .slice M.ga M.g M.gc, .bool v.cl], .slice a n k, .int .i64 c]) ∧ ROwn w.heap.size w' M v ∧ RLe M 2097152 ∧ Il.OwnAt w.heap.size w' a n told ∧ n ≤ 2097152 ∧ (∀ p, p ∈ allR M → Far p.1 p.2 a n) ∧ Below w.heap.size w w'
/-- All who wait are told, and it is closed. -/
def shutR (v : Rv) : Rv := ⟨v.cp, v.se, v.it, v.nx, v.sb, [], v.gs ++ v.ln, true⟩
def cloR (v : Rv) : Rv := if okR restR v = true then (if v.cl = true then v else shutR v) else v
def cloT (v : Rv) : List Int := if okR restR v = true then (if v.cl = true then [] else v.ln) else []
def cloC (v : Rv) : Int := if okR restR v = true then (if v.cl = true then 6 else 0) else 1
def CloseDone (F : Nat) : Prop := ∀ (M : Rm) (v : Rv) (w : World), RIn w M v → RLe M 1048576 → RCap M → RWf v →
  Calls Tryz.prog F #[.agg #[.int .i64 v.cp, .int .i64 v.se, .slice M.ia M.i M.ic, .int .i64 v.nx, .slice M.sa M.s M.sc, .slice M.la M.l M.lc, .slice M.ga M.g M.gc, .bool v.cl]] w fun e w' => RgT w (cloR v) (cloT v) (cloC v) e w'
end Go.Proofs.YtpiknjkdojalpaaGreat
namespace Go.Proofs.YtpiknjkdojalpaaGreat
open Go.RowKit Pl Il

theorem cntR_le {M : Rm} (hm : RLe M 2097152) (hl : M.xs.length = M.s) : cntR M ≤ 1000000000000000 := by
  have h := cntS_le (xs := M.xs) (K := 2097152) hm.f M.xs.length
  rw [List.take_length] at h
  have h1 : M.xs.length * (6 + 3 * 2097152) ≤ 2097152 * (6 + 3 * 2097152) := Nat.mul_le_mul (by rw [hl]; exact hm.s) (Nat.le_refl _)
  have h2 := hm.i
  have h3 := hm.l
  have h4 := hm.g
  unfold cntR
  omega
theorem eqL_selfT (xs : List Int) : eqL xs xs = true := by simp [eqL]
end Go.Proofs.YtpiknjkdojalpaaGreat
namespace Go.Proofs.YtpiknjkdojalpaaGreat
open Go.RowKit Go.Maps Pl Il

theorem copied_row (a : Option Addr) (n cap : Nat) (xs : List Int) (w : World) (hI : IntsAt w a n xs) (hn : n ≤ 2097152) :
    Calls Tryz.prog 109 #[.slice a n cap] w fun e w' => ∃ a' c', e = .returned (.slice a' n c') ∧ w'.ownsRow w.heap.size 3 1 (.slice a' n c') n (intsV xs) ∧ Below w.heap.size w w' := by
  obtain ⟨v, w', hr, ho, hb⟩ := copied_run a n cap xs w hI hn
  obtain ⟨a', c', rfl, hO⟩ := own_of ho xs rfl
  have Hr := hidOf hr
  have HO := hidOf ho
  clear hr ho hI
  go_enter Tryz.func109, Tryz.ntmps109
  go_wp2_with (at_builtin; refine wpList_append_run rfl _ _ 26 rfl _ _ _ rfl rfl Hr.out ?_)
  go_ret
  exact ⟨a', c', rfl, HO.out, hb⟩
end Go.Proofs.YtpiknjkdojalpaaGreat
