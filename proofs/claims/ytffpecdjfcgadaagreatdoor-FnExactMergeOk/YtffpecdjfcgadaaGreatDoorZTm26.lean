/-
  A ring that a call has made: its lists are rows of their own.
-/
import Derived.Test.YtffpecdjfcgadaaGreatDoorZTm25
import Derived.Test.YtffpecdjfcgadaaGreatDoorZTm24
import Derived.Test.YtffpecdjfcgadaaGreatDoorZTm14
namespace Go.Proofs.YtffpecdjfcgadaaGreatDoor
open Go.RowKit Pl Il

/-- The blocks of a ring's lists. -/
def blkR (M : Rm) : List (Option Nat) := (Value.slice M.ia M.i M.ic).ownBlock :: (Value.slice M.sa M.s M.sc).ownBlock :: (Value.slice M.la M.l M.lc).ownBlock :: (Value.slice M.ga M.g M.gc).ownBlock :: M.xs.map fun x => (Value.slice x.a x.n x.c).ownBlock
/-- They are apart. -/
def Apt (ls : List (Option Nat)) : Prop := ls.Pairwise fun p q => ∀ b, p = some b → q ≠ some b
structure RRow (B : Nat) (w : World) (M : Rm) (v : Rv) : Prop where
  it : w.ownsRow B 94 3 (.slice M.ia M.i M.ic) M.i (qflat v.it)
  its : ∀ p, p ∈ v.it → p.2.2.size ≤ maxLen
  sb : w.ownsRow B 90 7 (.slice M.sa M.s M.sc) M.s (sflat M.xs)
  fl : ∀ x, x ∈ M.xs → w.ownsRow B 145 3 (.slice x.a x.n x.c) x.n (qflat x.s.fl)
  fls : ∀ x, x ∈ M.xs → ∀ p, p ∈ x.s.fl → p.2.2.size ≤ maxLen
  sv : svs M.xs = v.sb
  ln : w.ownsRow B 3 1 (.slice M.la M.l M.lc) M.l (intsV v.ln)
  gs : w.ownsRow B 3 1 (.slice M.ga M.g M.gc) M.g (intsV v.gs)
  apt : Apt (blkR M)
theorem rowG {B : Nat} {w w' : World} {t : TypeId} {s : Nat} {v : Value} {n : Nat} {xs : List Value} (h : w.ownsRow B t s v n xs) {g : Option Nat} (hg : w.grownBy w' g) (hne : ∀ q, g = some q → v.ownBlock ≠ some q) : w'.ownsRow B t s v n xs := by
  refine h.kept (row := g) hg ?_
  cases e : v.ownBlock with
  | none => exact .inl rfl
  | some q => exact .inr (fun e' => hne q e'.symm (by rw [e]))
theorem rowM {B B' : Nat} {w : World} {t : TypeId} {s : Nat} {v : Value} {n : Nat} {xs : List Value} (h : w.ownsRow B t s v n xs) (hb : B' ≤ B) : w.ownsRow B' t s v n xs := by
  obtain ⟨hl, hn | ⟨g, cap, cur, rfl, hB, hg, hr⟩⟩ := h
  · exact ⟨hl, .inl hn⟩
  · exact ⟨hl, .inr ⟨g, cap, cur, rfl, Nat.le_trans hb hB, hg, hr⟩⟩
theorem grown_setC (w : World) (N o : Nat) (x : Value) : w.grownBy (w.setCell ⟨N, o, none⟩ x) (some N) := ⟨rfl, rfl, rfl, by simp, fun k _ hk => Below.heap_setCell _ _ _ _ (by rintro rfl; exact hk rfl)⟩
theorem RRow.mono {B B' : Nat} {w : World} {M : Rm} {v : Rv} (h : RRow B w M v) (hb : B' ≤ B) : RRow B' w M v := ⟨rowM h.it hb, h.its, rowM h.sb hb, fun x hx => rowM (h.fl x hx) hb, h.fls, h.sv, rowM h.ln hb, rowM h.gs hb, h.apt⟩
theorem RRow.keep {B : Nat} {w w' : World} {M : Rm} {v : Rv} (h : RRow B w M v) (hb : Below w.heap.size w w') : RRow B w' M v := ⟨ownsRow_keep h.it hb, h.its, ownsRow_keep h.sb hb, fun x hx => ownsRow_keep (h.fl x hx) hb, h.fls, h.sv, ownsRow_keep h.ln hb, ownsRow_keep h.gs hb, h.apt⟩
/-- Another block has turned. -/
theorem RRow.grown {B : Nat} {w w' : World} {M : Rm} {v : Rv} (h : RRow B w M v) {N : Nat} (hg : w.grownBy w' (some N)) (hn : some N ∉ blkR M) : RRow B w' M v := by
  have key : ∀ {u : Value}, u.ownBlock ∈ blkR M → ∀ q, some N = some q → u.ownBlock ≠ some q := fun {u} hu q e e' => by
    injection e with e
    subst e
    rw [e'] at hu
    exact hn hu
  exact ⟨rowG h.it hg (key (by simp [blkR])), h.its, rowG h.sb hg (key (by simp [blkR])), fun x hx => rowG (h.fl x hx) hg (key (by
    unfold blkR
    exact List.mem_cons_of_mem _ (List.mem_cons_of_mem _ (List.mem_cons_of_mem _ (List.mem_cons_of_mem _ (List.mem_map.2 ⟨x, hx, rfl⟩)))))), h.fls, h.sv, rowG h.ln hg (key (by simp [blkR])), rowG h.gs hg (key (by simp [blkR])), h.apt⟩
theorem row_lt {B : Nat} {w : World} {t : TypeId} {s : Nat} {v : Value} {n : Nat} {xs : List Value} (h : w.ownsRow B t s v n xs) {q : Nat} (e : v.ownBlock = some q) : B ≤ q ∧ q < w.heap.size := by
  obtain ⟨_, ⟨rfl, _⟩ | ⟨g, cap, cur, rfl, hB, hg, _⟩⟩ := h
  · simp [Value.ownBlock] at e
  · have e' : g = q := by simpa [Value.ownBlock] using e
    subst e'
    refine ⟨hB, ?_⟩
    rcases Nat.lt_or_ge g w.heap.size with k | k
    · exact k
    · rw [Array.getElem?_eq_none k] at hg; cases hg
theorem RRow.blk {B : Nat} {w : World} {M : Rm} {v : Rv} (h : RRow B w M v) : ∀ q, some q ∈ blkR M → B ≤ q ∧ q < w.heap.size := fun q hq => by
  unfold blkR at hq
  simp only [List.mem_cons, List.mem_map] at hq
  rcases hq with e | e | e | e | ⟨x, hx, e⟩
  · exact row_lt h.it e.symm
  · exact row_lt h.sb e.symm
  · exact row_lt h.ln e.symm
  · exact row_lt h.gs e.symm
  · exact row_lt (h.fl x hx) e
theorem RRow.out {B : Nat} {w : World} {M : Rm} {v : Rv} (h : RRow B w M v) {N : Nat} (hN : N < B) : some N ∉ blkR M := fun hm => by have := (h.blk N hm).1; omega
theorem RRow.new {B : Nat} {w : World} {M : Rm} {v : Rv} (h : RRow B w M v) {N : Nat} (hN : w.heap.size ≤ N) : some N ∉ blkR M := fun hm => by have := (h.blk N hm).2; omega
theorem far_blk {a a' : Option Addr} {n n' c c' : Nat} (h : ∀ b, (Value.slice a n c).ownBlock = some b → (Value.slice a' n' c').ownBlock ≠ some b) : Far a n a' n' :=
  .inr (.inr fun b off b' off' e e' hb => by
    subst e e' hb
    exact h b rfl rfl)
theorem apt_far {M : Rm} (h : Apt (blkR M)) : (allR M).Pairwise fun p q => Far p.1 p.2 q.1 q.2 := by
  unfold Apt blkR at h
  unfold allR
  simp only [List.pairwise_cons, List.mem_cons, List.mem_map, List.pairwise_map] at h ⊢
  obtain ⟨hi, hs, hl, hg, hx⟩ := h
  refine ⟨?_, ?_, ?_, ?_, hx.imp fun h => far_blk h⟩
  · rintro p (rfl | rfl | rfl | ⟨x, hm, rfl⟩)
    · exact far_blk (hi _ (.inl rfl))
    · exact far_blk (hi _ (.inr (.inl rfl)))
    · exact far_blk (hi _ (.inr (.inr (.inl rfl))))
    · exact far_blk (hi _ (.inr (.inr (.inr ⟨x, hm, rfl⟩))))
  · rintro p (rfl | rfl | ⟨x, hm, rfl⟩)
    · exact far_blk (hs _ (.inl rfl))
    · exact far_blk (hs _ (.inr (.inl rfl)))
    · exact far_blk (hs _ (.inr (.inr ⟨x, hm, rfl⟩)))
  · rintro p (rfl | ⟨x, hm, rfl⟩)
    · exact far_blk (hl _ (.inl rfl))
    · exact far_blk (hl _ (.inr ⟨x, hm, rfl⟩))
  · rintro p ⟨x, hm, rfl⟩
    exact far_blk (hg _ ⟨x, hm, rfl⟩)
theorem rfarW {M : Rm} (h : (allR M).Pairwise fun p q => Far p.1 p.2 q.1 q.2) : (M.xs.Pairwise fun x y => Far x.a x.n y.a y.n) ∧ ∀ x, x ∈ M.xs → Far M.sa M.s x.a x.n := by
  unfold allR at h
  simp only [List.pairwise_cons, List.mem_cons, List.mem_map, List.pairwise_map] at h
  obtain ⟨_, hs, _, _, hx⟩ := h
  exact ⟨hx, fun x hm => hs _ (.inr (.inr ⟨x, hm, rfl⟩))⟩
theorem RRow.cap {B : Nat} {w : World} {M : Rm} {v : Rv} (h : RRow B w M v) : RCap M := by
  have f3 : ∀ {t : TypeId} {s : Nat} {a : Option Addr} {n c : Nat} {ys : List Value}, w.ownsRow B t s (.slice a n c) n ys → n ≤ c := fun {t s a n c ys} hh => by
    obtain ⟨_, ⟨e, rfl⟩ | ⟨g, cap, cur, e, _, _, hc, _⟩⟩ := hh
    · cases e; exact Nat.le_refl _
    · cases e; exact hc
  exact ⟨f3 h.it, f3 h.sb, f3 h.ln, f3 h.gs, fun x hx => f3 (h.fl x hx)⟩
theorem RRow.own {B : Nat} {w : World} {M : Rm} {v : Rv} (h : RRow B w M v) : ROwn B w M v := by
  have hA := apt_far h.apt
  have hF := rfarW hA
  obtain ⟨a0, c0, e0, _, hit⟩ := ownF_of h.it v.it rfl h.its
  cases e0
  have hfl : ∀ x, x ∈ M.xs → OwnF B w x.a x.n x.s.fl := fun x hx => by
    obtain ⟨a1, c1, e1, _, h1⟩ := ownF_of (h.fl x hx) x.s.fl rfl (h.fls x hx)
    cases e1
    exact h1
  obtain ⟨hl, _, hr⟩ := rowS h.sb
  refine ⟨hit, ⟨⟨hl, fun x hx => (hfl x hx).tm, ?_⟩, ?_, hfl, hF.1, hF.2⟩, h.sv, (row_own h.ln).1, (row_own h.gs).1, hA, h.cap⟩
  · rcases hr with k | ⟨b, e, _, hlt, _, hc⟩
    · exact .inl k
    · exact .inr ⟨b, 0, e, hlt, hc⟩
  · rcases hr with k | ⟨b, e, hB, _, hf, _⟩
    · exact .inl k
    · exact .inr ⟨b, 0, e, hB, hf⟩
/-- The blocks, one by one. -/
structure AptP (i s l g : Option Nat) (xs : List (Option Nat)) : Prop where
  is : ∀ b, i = some b → s ≠ some b
  il : ∀ b, i = some b → l ≠ some b
  ig : ∀ b, i = some b → g ≠ some b
  ix : ∀ x, x ∈ xs → ∀ b, i = some b → x ≠ some b
  sl : ∀ b, s = some b → l ≠ some b
  sg : ∀ b, s = some b → g ≠ some b
  sx : ∀ x, x ∈ xs → ∀ b, s = some b → x ≠ some b
  lg : ∀ b, l = some b → g ≠ some b
  lx : ∀ x, x ∈ xs → ∀ b, l = some b → x ≠ some b
  gx : ∀ x, x ∈ xs → ∀ b, g = some b → x ≠ some b
  xx : xs.Pairwise fun p q => ∀ b, p = some b → q ≠ some b
theorem apt_iff {i s l g : Option Nat} {xs : List (Option Nat)} : Apt (i :: s :: l :: g :: xs) ↔ AptP i s l g xs := by
  unfold Apt
  simp only [List.pairwise_cons, List.mem_cons]
  constructor
  · rintro ⟨hi, hs, hl, hg, hx⟩
    exact ⟨hi _ (.inl rfl), hi _ (.inr (.inl rfl)), hi _ (.inr (.inr (.inl rfl))), fun x h => hi _ (.inr (.inr (.inr h))), hs _ (.inl rfl), hs _ (.inr (.inl rfl)), fun x h => hs _ (.inr (.inr h)), hl _ (.inl rfl), fun x h => hl _ (.inr h), hg, hx⟩
  · intro h
    refine ⟨?_, ?_, ?_, h.gx, h.xx⟩
    · rintro p (rfl | rfl | rfl | hp)
      · exact h.is
      · exact h.il
      · exact h.ig
      · exact h.ix p hp
    · rintro p (rfl | rfl | hp)
      · exact h.sl
      · exact h.sg
      · exact h.sx p hp
    · rintro p (rfl | hp)
      · exact h.lg
      · exact h.lx p hp
/-- One subscriber more. -/
theorem RRow.push {B : Nat} {u w' : World} {M : Rm} {v : Rv} {x : Sa} {a' : Option Addr} {c' : Nat} (h : RRow B u M v) (hx : u.ownsRow B 145 3 (.slice x.a x.n x.c) x.n (qflat x.s.fl)) (hxs : ∀ p, p ∈ x.s.fl → p.2.2.size ≤ maxLen)
    (hxb : ∀ q, (Value.slice x.a x.n x.c).ownBlock = some q → some q ∉ blkR M) (ho : w'.ownsRow B 90 7 (.slice a' (M.s + 1) c') (M.s + 1) (sflat (M.xs ++ [x]))) (hg : u.grownBy w' (Value.slice M.sa M.s M.sc).ownBlock)
    (hl : ∀ q, (Value.slice a' (M.s + 1) c').ownBlock = some q → (Value.slice M.sa M.s M.sc).ownBlock = some q ∨ u.heap.size ≤ q) :
    RRow B w' { M with sa := a', s := M.s + 1, sc := c', xs := M.xs ++ [x] } { v with sb := v.sb ++ [x.s] } := by
  have hA : AptP _ _ _ _ _ := apt_iff.1 h.apt
  have nsub : ∀ {z : Option Nat}, (∀ b, (Value.slice M.sa M.s M.sc).ownBlock = some b → z ≠ some b) → ∀ q, (Value.slice M.sa M.s M.sc).ownBlock = some q → z ≠ some q := fun hz q e => hz q e
  have xin : (Value.slice M.sa M.s M.sc).ownBlock ∈ blkR M := by simp [blkR]
  have xs1 : ∀ q, (Value.slice M.sa M.s M.sc).ownBlock = some q → (Value.slice x.a x.n x.c).ownBlock ≠ some q := fun q e e' => hxb q e' (by rw [← e]; exact xin)
  have lt : ∀ q, some q ∈ blkR M → q < u.heap.size := fun q hq => (h.blk q hq).2
  have inI : (Value.slice M.ia M.i M.ic).ownBlock ∈ blkR M := by simp [blkR]
  have inL : (Value.slice M.la M.l M.lc).ownBlock ∈ blkR M := by simp [blkR]
  have inG : (Value.slice M.ga M.g M.gc).ownBlock ∈ blkR M := by simp [blkR]
  have inX : ∀ y, y ∈ M.xs → (Value.slice y.a y.n y.c).ownBlock ∈ blkR M := fun y hy => by
    unfold blkR
    exact List.mem_cons_of_mem _ (List.mem_cons_of_mem _ (List.mem_cons_of_mem _ (List.mem_cons_of_mem _ (List.mem_map.2 ⟨y, hy, rfl⟩))))
  -- the new row is apart from what was apart from the old one and lay there
  have nw : ∀ {z : Option Nat}, (∀ b, (Value.slice M.sa M.s M.sc).ownBlock = some b → z ≠ some b) → (∀ q, z = some q → q < u.heap.size) → ∀ b, (Value.slice a' (M.s + 1) c').ownBlock = some b → z ≠ some b := fun hz hlt b e ez => by
    rcases hl b e with k | k
    · exact hz b k ez
    · have := hlt b ez; omega
  have xlt : ∀ q, (Value.slice x.a x.n x.c).ownBlock = some q → q < u.heap.size := fun q e => (row_lt hx e).2
  refine ⟨rowG h.it hg (fun q e => fun e' => hA.is q e' e), h.its, ho, fun y hy => ?_, fun y hy => ?_, ?_, rowG h.ln hg (fun q e => hA.sl q e), rowG h.gs hg (fun q e => hA.sg q e), ?_⟩
  · rcases List.mem_append.1 hy with hy | hy
    · exact rowG (h.fl y hy) hg (fun q e => hA.sx _ (List.mem_map.2 ⟨y, hy, rfl⟩) q e)
    · obtain rfl : y = x := by simpa using hy
      exact rowG hx hg xs1
  · rcases List.mem_append.1 hy with hy | hy
    · exact h.fls y hy
    · obtain rfl : y = x := by simpa using hy
      exact hxs
  · have := h.sv
    simp only [svs, List.map_append, List.map_cons, List.map_nil] at this ⊢
    rw [this]
  · refine apt_iff.2 ?_
    simp only [List.map_append, List.map_cons, List.map_nil]
    have sp : ∀ {z : Option Nat} {P : Option Nat → Prop}, (∀ y, y ∈ M.xs.map (fun x => (Value.slice x.a x.n x.c).ownBlock) → P y) → P (Value.slice x.a x.n x.c).ownBlock → ∀ y, y ∈ M.xs.map (fun x => (Value.slice x.a x.n x.c).ownBlock) ++ [(Value.slice x.a x.n x.c).ownBlock] → P y := fun h1 h2 y hy => by
      rcases List.mem_append.1 hy with hy | hy
      · exact h1 y hy
      · rw [List.mem_singleton.1 hy]; exact h2
    refine ⟨fun b e e' => nw (z := (Value.slice M.ia M.i M.ic).ownBlock) (fun q k k' => hA.is q k' k) (fun q k => lt q (by rw [← k]; exact inI)) b e' e, hA.il, hA.ig, sp (z := none) hA.ix (fun b e e' => hxb b e' (by rw [← e]; exact inI)), nw hA.sl (fun q k => lt q (by rw [← k]; exact inL)), nw hA.sg (fun q k => lt q (by rw [← k]; exact inG)), sp (z := none) (fun y hy => nw (hA.sx y hy) (fun q k => by
      obtain ⟨y', hm, rfl⟩ := List.mem_map.1 hy
      exact lt q (by rw [← k]; exact inX y' hm))) (nw xs1 xlt), hA.lg, sp (z := none) hA.lx (fun b e e' => hxb b e' (by rw [← e]; exact inL)), sp (z := none) hA.gx (fun b e e' => hxb b e' (by rw [← e]; exact inG)), ?_⟩
    rw [List.pairwise_append]
    refine ⟨hA.xx, by simp, fun p hp q hq b e e' => ?_⟩
    rw [List.mem_singleton.1 hq] at e'
    obtain ⟨y', hm, rfl⟩ := List.mem_map.1 hp
    exact hxb b e' (by rw [← e]; exact inX y' hm)
end Go.Proofs.YtffpecdjfcgadaaGreatDoor
