/-
  A list of topics that a call has made: a row of its own, each ring's lists rows of their own.
  A list of topics that is one's own: what a marking leaves of it.
  Walks of the laws' own helpers on slices of topics: marked, and held.
  The laws' markTopicS.
  The laws' heldTopicS.
-/
import Derived.Test.YtojajaibeifhoaaGreatDoorZTo15
import Derived.Test.YtojajaibeifhoaaGreatDoorZTo17
import Derived.Test.YtojajaibeifhoaaGreatDoorZTo13
namespace Go.Proofs.YtojajaibeifhoaaGreatDoor
open Go.RowKit Pl Il

/-- Topics as a row of cells. -/
def tflat (xs : List Ta) : List Value := xs.flatMap tC
theorem length_tflat (l : List Ta) : (tflat l).length = l.length * 9 := by
  induction l with
  | nil => rfl
  | cons x l ih => simp [tflat, tC] at ih ⊢; omega
theorem tflat_at : ∀ (l : List Ta) (i r : Nat), i < l.length → r < 9 → (tflat l)[i * 9 + r]? = (tC (tg l i))[r]?
  | [], i, r, hi, _ => by simp at hi
  | x :: l, 0, r, _, hr => by
    have e : tflat (x :: l) = tC x ++ tflat l := by simp [tflat]
    rw [e, List.getElem?_append_left (by simp; omega)]
    simp [tg]
  | x :: l, i + 1, r, hi, hr => by
    have e : tflat (x :: l) = tC x ++ tflat l := by simp [tflat]
    have hc : (tC x).length = 9 := rfl
    rw [e, List.getElem?_append_right (by rw [hc]; omega), hc, show (i + 1) * 9 + r - 9 = i * 9 + r by omega, tflat_at l i r (by simpa using hi) hr]
    simp [tg]
theorem tflat_append (l m : List Ta) : tflat (l ++ m) = tflat l ++ tflat m := by simp [tflat]
theorem one_tflat (xs : List Ta) : ∀ u ∈ tflat xs, u.oneCell' = true := fun u hu => by
  simp only [tflat, List.mem_flatMap, List.mem_cons, List.not_mem_nil, or_false] at hu
  obtain ⟨p, _, rfl | rfl | rfl | rfl | rfl | rfl | rfl | rfl | rfl⟩ := hu <;> rfl
theorem TCell.at {w : World} {b o : Nat} {x : Ta} (h : TCell w b o x) {r : Nat} (hr : r < 9) : w.cell? ⟨b, o + r, none⟩ = (tC x)[r]? := by
  rcases (show r = 0 ∨ r = 1 ∨ r = 2 ∨ r = 3 ∨ r = 4 ∨ r = 5 ∨ r = 6 ∨ r = 7 ∨ r = 8 by omega) with rfl | rfl | rfl | rfl | rfl | rfl | rfl | rfl | rfl
  · exact h.c0
  · exact h.c1
  · exact h.c2
  · exact h.c3
  · exact h.c4
  · exact h.c5
  · exact h.c6
  · exact h.c7
  · exact h.c8
theorem TopAt.src {w : World} {a : Option Addr} {n : Nat} {xs : List Ta} (h : TopAt w a n xs) : n = 0 ∨ ∃ b off, a = some ⟨b, off, none⟩ ∧ ∀ j u, (tflat xs)[j]? = some u → w.cell? ⟨b, off + j, none⟩ = some u := by
  rcases h.row with k | ⟨b, off, rfl, _, hcell⟩
  · exact .inl k
  · refine .inr ⟨b, off, rfl, fun j u hju => ?_⟩
    have hj : j < n * 9 := by
      have h2 := (List.getElem?_eq_some_iff.1 hju).1
      rw [length_tflat, h.len] at h2
      exact h2
    have e := tflat_at xs (j / 9) (j % 9) (by rw [h.len]; omega) (by omega)
    rw [show j / 9 * 9 + j % 9 = j by omega] at e
    have c := (hcell (j / 9) (by omega)).at (r := j % 9) (by omega)
    rw [show off + j / 9 * 9 + j % 9 = off + j by omega, ← e, hju] at c
    exact c
theorem infoTr : (Tryz.prog.info? 40).map (fun i => (i.zero, i.size, i.bytes)) = some (some (.agg #[.string ⟨#[]⟩, .int .i64 0, .int .i64 0, .slice none 0 0, .int .i64 0, .slice none 0 0, .slice none 0 0, .slice none 0 0, .bool false]), 9, 144) := by kernel_rfl
/-- Topics are appended. -/
theorem append_topR (B m : Nat) (v : Value) (ys : List Ta) (a : Option Addr) (n cap : Nat) (xs : List Ta) (w : World) (ho : w.ownsRow B 40 9 v m (tflat ys)) (hB : B ≤ w.heap.size) (hl : xs.length = n) (hI : n = 0 ∨ ∃ b off, a = some ⟨b, off, none⟩ ∧ ∀ j u, (tflat xs)[j]? = some u → w.cell? ⟨b, off + j, none⟩ = some u) (hn : m + n ≤ 4194304) :
    ∃ (a' : Option Addr) (c' : Nat) (w' : World), (Builtin.append_ #[24, 24] 24 #[v, .slice a n cap]).run Tryz.prog w = .ok (.slice a' (m + n) c') w' ∧ w'.ownsRow B 40 9 (.slice a' (m + n) c') (m + n) (tflat (ys ++ xs)) ∧ w.grownBy w' v.ownBlock ∧
      (∀ q, (Value.slice a' (m + n) c').ownBlock = some q → v.ownBlock = some q ∨ w.heap.size ≤ q) := by
  rw [tflat_append]
  exact append_gen Tryz.underlying24 infoTr rfl (by omega) (by omega) B m v _ a n cap (tflat xs) w ho hB (by rw [length_tflat, hl]) hI (one_tflat xs) hn
/-- The blocks of the rings' lists. -/
def blkT (xs : List Ta) : List (Option Nat) := xs.flatMap fun x => blkR x.M
theorem blkT_append (l m : List Ta) : blkT (l ++ m) = blkT l ++ blkT m := by simp [blkT]
theorem mem_blkT {xs : List Ta} {z : Option Nat} : z ∈ blkT xs ↔ ∃ x, x ∈ xs ∧ z ∈ blkR x.M := by simp [blkT]
structure TRow (B : Nat) (w : World) (a : Option Addr) (n c : Nat) (xs : List Ta) : Prop where
  row : w.ownsRow B 40 9 (.slice a n c) n (tflat xs)
  nms : ∀ x, x ∈ xs → x.nm.size ≤ maxLen
  rr : ∀ x, x ∈ xs → RRow B w x.M x.v
  la : ∀ q, (Value.slice a n c).ownBlock = some q → some q ∉ blkT xs
  apt : Apt (blkT xs)
section
variable {B : Nat} {w w' : World} {a : Option Addr} {n c : Nat} {xs : List Ta}
theorem TRow.len (h : TRow B w a n c xs) : xs.length = n := by have h1 := h.row.1; rw [length_tflat] at h1; omega
theorem TRow.keep (h : TRow B w a n c xs) (hb : Below w.heap.size w w') : TRow B w' a n c xs := ⟨ownsRow_keep h.row hb, h.nms, fun x hx => (h.rr x hx).keep hb, h.la, h.apt⟩
theorem TRow.mono {B' : Nat} (h : TRow B w a n c xs) (hb : B' ≤ B) : TRow B' w a n c xs := ⟨rowM h.row hb, h.nms, fun x hx => (h.rr x hx).mono hb, h.la, h.apt⟩
theorem TRow.blk (h : TRow B w a n c xs) : ∀ q, some q ∈ blkT xs → B ≤ q ∧ q < w.heap.size := fun q hq => by
  obtain ⟨x, hx, hm⟩ := mem_blkT.1 hq
  exact (h.rr x hx).blk q hm
/-- A block that is none of theirs has turned. -/
theorem RRow.grownW {M : Rm} {v : Rv} (h : RRow B w M v) {g : Option Nat} (hg : w.grownBy w' g) (hn : ∀ q, g = some q → some q ∉ blkR M) : RRow B w' M v := by
  have key : ∀ {u : Value}, u.ownBlock ∈ blkR M → ∀ q, g = some q → u.ownBlock ≠ some q := fun {u} hu q e e' => by
    rw [e'] at hu
    exact hn q e hu
  exact ⟨rowG h.it hg (key (by simp [blkR])), h.its, rowG h.sb hg (key (by simp [blkR])), fun x hx => rowG (h.fl x hx) hg (key (by
    unfold blkR
    exact List.mem_cons_of_mem _ (List.mem_cons_of_mem _ (List.mem_cons_of_mem _ (List.mem_cons_of_mem _ (List.mem_map.2 ⟨x, hx, rfl⟩)))))), h.fls, h.sv, rowG h.ln hg (key (by simp [blkR])), rowG h.gs hg (key (by simp [blkR])), h.apt⟩
theorem TRow.grown (h : TRow B w a n c xs) {g : Option Nat} (hg : w.grownBy w' g) (h1 : ∀ q, g = some q → (Value.slice a n c).ownBlock ≠ some q) (h2 : ∀ q, g = some q → some q ∉ blkT xs) : TRow B w' a n c xs :=
  ⟨rowG h.row hg h1, h.nms, fun x hx => (h.rr x hx).grownW hg (fun q e hm => h2 q e (mem_blkT.2 ⟨x, hx, hm⟩)), h.la, h.apt⟩
/-- One more, with a ring of its own. -/
theorem TRow.push (h : TRow B w a n c xs) {x : Ta} {a' : Option Addr} {c' : Nat} (hx : RRow B w x.M x.v) (hnm : x.nm.size ≤ maxLen) (hxl : ∀ q, some q ∈ blkR x.M → (Value.slice a n c).ownBlock ≠ some q) (hxt : ∀ q, some q ∈ blkR x.M → some q ∉ blkT xs)
    (ho : w'.ownsRow B 40 9 (.slice a' (n + 1) c') (n + 1) (tflat (xs ++ [x]))) (hg : w.grownBy w' (Value.slice a n c).ownBlock) (hl : ∀ q, (Value.slice a' (n + 1) c').ownBlock = some q → (Value.slice a n c).ownBlock = some q ∨ w.heap.size ≤ q) :
    TRow B w' a' (n + 1) c' (xs ++ [x]) := by
  refine ⟨ho, fun y hy => ?_, fun y hy => ?_, fun q e hm => ?_, ?_⟩
  · rcases List.mem_append.1 hy with hy | hy
    · exact h.nms y hy
    · rw [List.mem_singleton.1 hy]; exact hnm
  · rcases List.mem_append.1 hy with hy | hy
    · exact (h.rr y hy).grownW hg (fun q e hm => h.la q e (mem_blkT.2 ⟨y, hy, hm⟩))
    · rw [List.mem_singleton.1 hy]
      exact hx.grownW hg (fun q e hm => hxl q hm e)
  · rw [blkT_append] at hm
    rcases List.mem_append.1 hm with hm | hm
    · rcases hl q e with k | k
      · exact h.la q k hm
      · have := (h.blk q hm).2; omega
    · have hm' : some q ∈ blkR x.M := by
        obtain ⟨y, hy, hm2⟩ := mem_blkT.1 hm
        rw [List.mem_singleton.1 hy] at hm2; exact hm2
      rcases hl q e with k | k
      · exact hxl q hm' k
      · have := (hx.blk q hm').2; omega
  · rw [blkT_append]
    have e1 : blkT [x] = blkR x.M := by simp [blkT]
    rw [e1]
    unfold Apt
    rw [List.pairwise_append]
    refine ⟨h.apt, hx.apt, fun p hp q hq b ep eq => ?_⟩
    subst ep
    rw [eq] at hq
    exact hxt b hq hp
theorem TRow.top (h : TRow B w a n c xs) : TopAt w a n xs := by
  refine ⟨h.len, h.nms, fun x hx => (h.rr x hx).own.rin, ?_⟩
  obtain ⟨hl, ⟨e, k⟩ | ⟨g, cap, cur, e, hB, hg, hc, hm, hs, ht⟩⟩ := h.row
  · have hn : n = 0 := by injection e
    exact .inl hn
  · injection e with e1 e2 e3
    have hn := h.len
    refine .inr ⟨g, 0, e1, ?_, fun i hi => ?_⟩
    · rcases Nat.lt_or_ge g w.heap.size with k | k
      · exact k
      · rw [Array.getElem?_eq_none k] at hg; cases hg
    · have at' : ∀ r, r < 9 → w.cell? ⟨g, i * 9 + r, none⟩ = (tC (tg xs i))[r]? := fun r hr => by
        rw [cell_of_row w g (i * 9 + r) cur _ (0, 0) hg, ← tflat_at xs i r (by omega) hr, ← ht, List.getElem?_take_of_lt (by omega), Array.getElem?_toList]
      rw [Nat.zero_add]
      exact ⟨at' 0 (by omega), at' 1 (by omega), at' 2 (by omega), at' 3 (by omega), at' 4 (by omega), at' 5 (by omega), at' 6 (by omega), at' 7 (by omega), at' 8 (by omega)⟩
end
end Go.Proofs.YtojajaibeifhoaaGreatDoor
namespace Go.Proofs.YtojajaibeifhoaaGreatDoor
open Go.RowKit Pl Il

/-- The slice at a, of n topics: nobody else holds it from B on, and all its lists lie apart. -/
structure OwnT (B : Nat) (w : World) (a : Option Addr) (n : Nat) (xs : List Ta) : Prop where
  top : TopAt w a n xs
  own : n = 0 ∨ ∃ b off, a = some ⟨b, off, none⟩ ∧ B ≤ b ∧ ∀ o, w.frozen? ⟨b, o, none⟩ = false
  row : ∀ x, x ∈ xs → ROwn B w x.M x.v
  apa : ∀ x, x ∈ xs → ∀ p, p ∈ allR x.M → Far a n p.1 p.2
  apt : xs.Pairwise fun x y => ∀ p, p ∈ allR x.M → ∀ q, q ∈ allR y.M → Far p.1 p.2 q.1 q.2
theorem OwnT.keep {B : Nat} {w w' : World} {a : Option Addr} {n : Nat} {xs : List Ta} (h : OwnT B w a n xs) (hb : Below w.heap.size w w') : OwnT B w' a n xs := by
  refine ⟨h.top.keep hb, ?_, fun x hx => (h.row x hx).keep hb, h.apa, h.apt⟩
  rcases h.top.row with k | ⟨b', off', e, hlt, _⟩
  · exact .inl k
  · rcases h.own with k | ⟨b, off, rfl, hB, hf⟩
    · exact .inl k
    · cases e
      exact .inr ⟨b', off', rfl, hB, fun o => by rw [hb.frozen (p := ⟨b', o, none⟩) hlt]; exact hf o⟩
theorem OwnT.mono {B B' : Nat} {w : World} {a : Option Addr} {n : Nat} {xs : List Ta} (h : OwnT B w a n xs) (hB : B' ≤ B) : OwnT B' w a n xs :=
  ⟨h.top, h.own.imp id fun ⟨b, off, e, hb, hf⟩ => ⟨b, off, e, Nat.le_trans hB hb, hf⟩, fun x hx => (h.row x hx).mono hB, h.apa, h.apt⟩
/-- A topic with marks in it. -/
def mkMt (k : Nat) (M : Rm) : Rm := { M with xs := mkSs (k + 3 + 3 * M.i + 1) M.xs }
def mkVt (k : Nat) (M : Rm) : Rv := ⟨((k + 1 : Nat) : Int), ((k + 2 : Nat) : Int), marksF (k + 3) M.i, ((k + 3 + 3 * M.i : Nat) : Int), svs (mkSs (k + 3 + 3 * M.i + 1) M.xs), marks ((k + 3 + 3 * M.i + 1 + cntS M.xs : Nat) : Int) M.l, marks ((k + 3 + 3 * M.i + 1 + cntS M.xs + M.l : Nat) : Int) M.g, ((k + 3 + 3 * M.i + 1 + cntS M.xs + M.l + M.g : Nat) : Int) % 3 == 0⟩
def mkTa (k : Nat) (x : Ta) : Ta := ⟨mkT k, mkMt k x.M, mkVt k x.M⟩
def cntTp (M : Rm) : Nat := 5 + 3 * M.i + cntS M.xs + M.l + M.g
def cntT (xs : List Ta) : Nat := xs.foldl (fun a x => a + cntTp x.M) 0
theorem foldl_cntT (xs : List Ta) : ∀ a : Nat, xs.foldl (fun a x => a + cntTp x.M) a = a + cntT xs := by
  induction xs with
  | nil => intro a; simp [cntT]
  | cons x xs ih =>
    intro a
    unfold cntT
    rw [List.foldl_cons, List.foldl_cons, ih, ih]
    omega
theorem cntT_next {xs : List Ta} {i : Nat} (h : i < xs.length) : cntT (xs.take (i + 1)) = cntT (xs.take i) + cntTp (tg xs i).M := by
  rw [List.take_succ_eq_append_getElem h, ← tg_eq h]
  unfold cntT
  rw [List.foldl_append]
  rfl
theorem cntTp_le {M : Rm} (h : RLe M 1048576) (hl : M.xs.length = M.s) : cntTp M ≤ 3298546417669 := by
  have h1 := h.i
  have h2 := h.s
  have h3 := h.l
  have h4 := h.g
  have hc := cntS_le h.f M.xs.length
  rw [List.take_length, hl] at hc
  unfold cntTp
  omega
theorem cntT_le {xs : List Ta} {K : Nat} (h : ∀ x, x ∈ xs → cntTp x.M ≤ K) : ∀ i : Nat, cntT (xs.take i) ≤ i * K
  | 0 => by simp [cntT]
  | i + 1 => by
    have ih := cntT_le h i
    rw [Nat.succ_mul]
    rcases Nat.lt_or_ge i xs.length with hi | hi
    · rw [cntT_next hi]
      have := h _ (tg_mem hi)
      omega
    · rw [List.take_of_length_le (by omega)]
      rw [List.take_of_length_le hi] at ih
      omega
/-- The first m are marked. -/
def mkTT (k m : Nat) (xs : List Ta) : List Ta := (List.range xs.length).map fun i => if i < m then mkTa (k + cntT (xs.take i)) (tg xs i) else tg xs i
def mkTs (k : Nat) (xs : List Ta) : List Ta := mkTT k xs.length xs
theorem mkTT_len (k m : Nat) (xs : List Ta) : (mkTT k m xs).length = xs.length := by simp [mkTT]
theorem mkTT_get {k m : Nat} {xs : List Ta} {i : Nat} (h : i < xs.length) : tg (mkTT k m xs) i = if i < m then mkTa (k + cntT (xs.take i)) (tg xs i) else tg xs i := by
  rw [tg_eq (by rw [mkTT_len]; exact h)]
  simp [mkTT]
theorem mkTs_get {k : Nat} {xs : List Ta} {i : Nat} (h : i < xs.length) : tg (mkTs k xs) i = mkTa (k + cntT (xs.take i)) (tg xs i) := by
  unfold mkTs
  rw [mkTT_get h, if_pos h]
theorem mkTT_zero (k : Nat) (xs : List Ta) : mkTT k 0 xs = xs := by
  refine List.ext_getElem (mkTT_len _ _ _) fun i h1 h2 => ?_
  rw [← tg_eq h1, ← tg_eq h2, mkTT_get h2]
  simp
theorem allR_mkt (k : Nat) (M : Rm) : allR (mkMt k M) = allR M := by
  unfold allR mkMt
  simp only [mkSs_maps]
theorem mkTT_all {k m : Nat} {xs : List Ta} {i : Nat} (h : i < xs.length) : allR (tg (mkTT k m xs) i).M = allR (tg xs i).M := by
  rw [mkTT_get h]
  split
  · exact allR_mkt _ _
  · rfl
theorem mkTT_next {k m : Nat} {xs : List Ta} {i : Nat} (h : i < xs.length) (hn : i ≠ m) : tg (mkTT k (m + 1) xs) i = tg (mkTT k m xs) i := by
  rw [mkTT_get h, mkTT_get h]
  by_cases h1 : i < m
  · rw [if_pos (by omega), if_pos h1]
  · rw [if_neg (by omega), if_neg h1]
theorem farT {xs : List Ta} (h : xs.Pairwise fun x y => ∀ p, p ∈ allR x.M → ∀ q, q ∈ allR y.M → Far p.1 p.2 q.1 q.2) {i j : Nat} (hi : i < xs.length) (hj : j < xs.length) (hne : i ≠ j) : ∀ p, p ∈ allR (tg xs i).M → ∀ q, q ∈ allR (tg xs j).M → Far p.1 p.2 q.1 q.2 := by
  rw [List.pairwise_iff_getElem] at h
  rw [tg_eq hi, tg_eq hj]
  intro p hp q hq
  rcases Nat.lt_or_ge i j with k | k
  · exact h i j hi hj k p hp q hq
  · exact (h j i hj hi (by omega) q hq p hp).symm
/-- All blocks of a list of topics. -/
def allT (xs : List Ta) : List (Option Addr × Nat) := xs.flatMap fun x => allR x.M
theorem mem_allT {xs : List Ta} {p : Option Addr × Nat} : p ∈ allT xs ↔ ∃ x, x ∈ xs ∧ p ∈ allR x.M := by simp [allT]
/-- One topic was marked. -/
theorem OwnT.mark {B : Nat} {wr u : World} {b off n k m : Nat} {xs : List Ta} (h : OwnT B wr (some ⟨b, off, none⟩) n (mkTT k m xs)) (hm : m < n) (hb : b < wr.heap.size) (hnm : (mkT (k + cntT (xs.take m))).size ≤ maxLen)
    (hR : ROwn B u (mkMt (k + cntT (xs.take m)) (tg xs m).M) (mkVt (k + cntT (xs.take m)) (tg xs m).M)) (hT : TurnL ((some ⟨b, off, none⟩, n) :: allR (tg xs m).M) wr u)
    (hO : ∀ p, p < off + m * 9 ∨ off + m * 9 + 9 ≤ p → u.cell? ⟨b, p, none⟩ = wr.cell? ⟨b, p, none⟩) (hX : TCell u b (off + m * 9) (mkTa (k + cntT (xs.take m)) (tg xs m))) (hf : ∀ o, u.frozen? ⟨b, o, none⟩ = false) :
    OwnT B u (some ⟨b, off, none⟩) n (mkTT k (m + 1) xs) ∧ TurnL ((some ⟨b, off, none⟩, n) :: allT xs) wr u := by
  have hl : xs.length = n := by have := h.top.len; rwa [mkTT_len] at this
  have hmx : m < xs.length := by omega
  have mem : ∀ y, y ∈ mkTT k (m + 1) xs → ∃ i, i < n ∧ y = tg (mkTT k (m + 1) xs) i := fun y hy => by
    obtain ⟨i, hi, rfl⟩ := List.getElem_of_mem hy
    exact ⟨i, by rw [mkTT_len] at hi; omega, (tg_eq hi).symm⟩
  have old : ∀ i, i < n → tg (mkTT k m xs) i ∈ mkTT k m xs := fun i hi => tg_mem (by rw [mkTT_len]; omega)
  have row : ∀ i, i < n → ROwn B u (tg (mkTT k (m + 1) xs) i).M (tg (mkTT k (m + 1) xs) i).v := fun i hi => by
    have hix : i < xs.length := by omega
    by_cases e : i = m
    · subst e
      rw [mkTT_get hix, if_pos (by omega)]
      exact hR
    · rw [mkTT_next hix e]
      refine (h.row _ (old i hi)).turn hT fun p hp q hq => ?_
      rcases List.mem_cons.1 hp with rfl | hp
      · exact h.apa _ (old i hi) q hq
      · have := farT h.apt (i := m) (j := i) (by rw [mkTT_len]; exact hmx) (by rw [mkTT_len]; exact hix) (fun e' => e e'.symm)
        exact this p (by rw [mkTT_all hmx]; exact hp) q hq
  have cells : ∀ i, i < n → TCell u b (off + i * 9) (tg (mkTT k (m + 1) xs) i) := fun i hi => by
    have hix : i < xs.length := by omega
    by_cases e : i = m
    · subst e
      rw [mkTT_get hix, if_pos (by omega)]
      exact hX
    · rw [mkTT_next hix e]
      rcases h.top.row with h0 | ⟨b', off', e', _, hc⟩
      · omega
      cases e'
      exact (hc i hi).same fun j hj => hO _ (by omega)
  have hB : B ≤ b := by
    rcases h.own with h0 | ⟨b', off', e, hB, _⟩
    · omega
    · cases e; exact hB
  refine ⟨⟨⟨by rw [mkTT_len]; exact hl, fun y hy => ?_, fun y hy => ?_, .inr ⟨b, off, rfl, Nat.lt_of_lt_of_le hb hT.size, cells⟩⟩, .inr ⟨b, off, rfl, hB, hf⟩, fun y hy => ?_, fun y hy p hp => ?_, ?_⟩, hT.mono fun p hp => ?_⟩
  · obtain ⟨i, hi, rfl⟩ := mem y hy
    have hix : i < xs.length := by omega
    by_cases e : i = m
    · subst e
      rw [mkTT_get hix, if_pos (by omega)]
      exact hnm
    · rw [mkTT_next hix e]
      exact h.top.nms _ (old i hi)
  · obtain ⟨i, hi, rfl⟩ := mem y hy
    exact (row i hi).rin
  · obtain ⟨i, hi, rfl⟩ := mem y hy
    exact row i hi
  · obtain ⟨i, hi, rfl⟩ := mem y hy
    have hix : i < xs.length := by omega
    rw [mkTT_all hix] at hp
    exact h.apa _ (old i hi) p (by rw [mkTT_all hix]; exact hp)
  · rw [List.pairwise_iff_getElem]
    intro i j hi hj hij p hp q hq
    rw [mkTT_len] at hi hj
    rw [← tg_eq (by rw [mkTT_len]; exact hi), mkTT_all hi] at hp
    rw [← tg_eq (by rw [mkTT_len]; exact hj), mkTT_all hj] at hq
    exact farT h.apt (i := i) (j := j) (by rw [mkTT_len]; exact hi) (by rw [mkTT_len]; exact hj) (by omega) p (by rw [mkTT_all hi]; exact hp) q (by rw [mkTT_all hj]; exact hq)
  · rcases List.mem_cons.1 hp with rfl | hp
    · simp
    · exact List.mem_cons_of_mem _ (mem_allT.2 ⟨_, tg_mem hmx, hp⟩)
/-- The nine cells from o on in block b hold vs, the others are as in wr. -/
structure TB (wr u : World) (b o : Nat) (vs : List Value) : Prop where
  lt : b < u.heap.size
  fr : ∀ p, u.frozen? ⟨b, p, none⟩ = false
  cs : ∀ i (hi : i < vs.length), u.cell? ⟨b, o + i, none⟩ = some vs[i]
  oth : ∀ p, p < o ∨ o + vs.length ≤ p → u.cell? ⟨b, p, none⟩ = wr.cell? ⟨b, p, none⟩
section
variable {wr u u' : World} {b o : Nat} {vs : List Value}
theorem TB.of_block (h : TB wr u b o vs) (key : u'.heap[b]? = u.heap[b]?) (hs : b < u'.heap.size) : TB wr u' b o vs :=
  ⟨hs, fun p => by rw [← h.fr p]; exact World.frozen?_of_block key, fun i hi => by rw [← h.cs i hi]; exact World.cell?_of_block key, fun p hp => by rw [← h.oth p hp]; exact World.cell?_of_block key⟩
theorem TB.turn {ls : List (Option Addr × Nat)} {off n : Nat} (h : TB wr u b o vs) (ht : TurnL ls u u') (hn : 0 < n) (hf : ∀ p, p ∈ ls → Far p.1 p.2 (some ⟨b, off, none⟩) n) : TB wr u' b o vs :=
  h.of_block (ht.keepB h.lt hn hf) (Nat.lt_of_lt_of_le h.lt ht.size)
theorem TB.keep (h : TB wr u b o vs) (hb : Below u.heap.size u u') : TB wr u' b o vs := h.of_block (hb.block b h.lt) (Nat.lt_of_lt_of_le h.lt hb.size)
theorem TB.set (h : TB wr u b o vs) (i : Nat) (hi : i < vs.length) (v : Value) : TB wr (u.setCell ⟨b, o + i, none⟩ v) b o (vs.set i v) := by
  refine ⟨by simpa using h.lt, fun p => by simpa using h.fr p, fun j hj => ?_, fun p hp => ?_⟩
  · have hj' : j < vs.length := by simpa using hj
    by_cases e : j = i
    · subst e
      rw [World.cell?_setCell_same _ _ _ (h.cs j hj')]
      simp
    · rw [World.cell?_setCell_other _ _ _ _ (by intro e'; injection e' with _ e2; omega), h.cs j hj', List.getElem_set_ne (by omega)]
  · rw [List.length_set] at hp
    rw [World.cell?_setCell_other _ _ _ _ (by intro e'; injection e' with _ e2; omega), h.oth p hp]
end
end Go.Proofs.YtojajaibeifhoaaGreatDoor
namespace Go.Proofs.YtojajaibeifhoaaGreatDoor
open Go.RowKit Pl Il

theorem TB.tcell {wr u : World} {b o : Nat} {x : Ta} (h : TB wr u b o (tC x)) : TCell u b o x :=
  ⟨h.cs 0 (by simp), h.cs 1 (by simp), h.cs 2 (by simp), h.cs 3 (by simp), h.cs 4 (by simp), h.cs 5 (by simp), h.cs 6 (by simp), h.cs 7 (by simp), h.cs 8 (by simp)⟩
theorem TCell.tb {w : World} {b o : Nat} {x : Ta} (h : TCell w b o x) (hb : b < w.heap.size) (hf : ∀ p, w.frozen? ⟨b, p, none⟩ = false) : TB w w b o (tC x) :=
  ⟨hb, hf, fun i hi => by rw [h.at (show i < 9 by simpa using hi)]; exact List.getElem?_eq_getElem hi, fun _ _ => rfl⟩
theorem mem_farB {b off n : Nat} {M : Rm} (h : ∀ p, p ∈ allR M → Far (some ⟨b, off, none⟩) n p.1 p.2) : ∀ p, p ∈ allR M → Far p.1 p.2 (some ⟨b, off, none⟩) n := fun p hp => (h p hp).symm
/-- What is at hand while a topic is marked: the lists that are not yet marked, and those that are. -/
structure TMk (B : Nat) (wr u : World) (b off n : Nat) (o : Nat) (M : Rm) (vs : List Value) (it : List Tm) (xs : List Sa) (ln gs : List Int) : Prop where
  tb : TB wr u b o vs
  it : OwnF B u M.ia M.i it
  sb : OwnS B u M.sa M.s xs
  ln : Il.OwnAt B u M.la M.l ln
  gs : Il.OwnAt B u M.ga M.g gs
  tl : TurnL ((some ⟨b, off, none⟩, n) :: allR M) wr u
section
variable {B : Nat} {wr u u' : World} {b off n o : Nat} {M : Rm} {vs : List Value} {it it' : List Tm} {xs xs' : List Sa} {ln gs ln' gs' : List Int}
theorem TMk.keep (h : TMk B wr u b off n o M vs it xs ln gs) (hb : Below u.heap.size u u') : TMk B wr u' b off n o M vs it xs ln gs :=
  ⟨h.tb.keep hb, h.it.keep hb, h.sb.keep hb, h.ln.keep hb, h.gs.keep hb, h.tl.trans (TurnL.ofBelow hb)⟩
theorem TMk.set (h : TMk B wr u b off n o M vs it xs ln gs) (hn : 0 < n) (ha : ∀ p, p ∈ allR M → Far (some ⟨b, off, none⟩) n p.1 p.2) (hx : ∀ x, x ∈ xs → Far (some ⟨b, off, none⟩) n x.a x.n) (i : Nat) (hi : i < vs.length) (v : Value) : TMk B wr (u.setCell ⟨b, o + i, none⟩ v) b off n o M (vs.set i v) it xs ln gs := by
  have t : TurnL [(some ⟨b, off, none⟩, n)] u (u.setCell ⟨b, o + i, none⟩ v) := TurnL.ofGrown hn rfl (setL_grown (vs := [v]) (o := o + i) ⟨rfl, rfl, rfl, Nat.le_refl _, fun _ _ _ => rfl⟩)
  exact ⟨h.tb.set i hi v, h.it.turn t (mem_singleF (ha (M.ia, M.i) (by simp [allR]))), h.sb.turn t (mem_singleF (ha (M.sa, M.s) (by simp [allR]))) (fun x hm => mem_singleF (hx x hm)), Il.OwnAt.turn h.ln t (mem_singleF (ha (M.la, M.l) (by simp [allR]))), Il.OwnAt.turn h.gs t (mem_singleF (ha (M.ga, M.g) (by simp [allR]))), h.tl.trans (t.mono fun p hp => by rw [List.mem_singleton.1 hp]; simp)⟩
theorem TMk.msgs (h : TMk B wr u b off n o M vs it xs ln gs) (hn : 0 < n) (ha : ∀ p, p ∈ allR M → Far (some ⟨b, off, none⟩) n p.1 p.2) (hF : RFar M) (hx : xs.map (fun x => (x.a, x.n)) = M.xs.map fun x => (x.a, x.n)) (hi : OwnF B u' M.ia M.i it') (ht : TurnF M.ia M.i u u') : TMk B wr u' b off n o M vs it' xs ln gs := by
  have t := TurnL.ofF ht
  have hx' : ∀ x, x ∈ xs → Far M.ia M.i x.a x.n := fun x hm => by
    have : (x.a, x.n) ∈ M.xs.map fun x => (x.a, x.n) := by rw [← hx]; exact List.mem_map.2 ⟨x, hm, rfl⟩
    obtain ⟨y, hy, e⟩ := List.mem_map.1 this
    have e1 : y.a = x.a := congrArg Prod.fst e
    have e2 : y.n = x.n := congrArg Prod.snd e
    rw [← e1, ← e2]
    exact hF.ix y hy
  exact ⟨h.tb.turn t hn (mem_singleF (ha (M.ia, M.i) (by simp [allR])).symm), hi, h.sb.turn t (mem_singleF hF.is) (fun x hm => mem_singleF (hx' x hm)), Il.OwnAt.turn h.ln t (mem_singleF hF.il), Il.OwnAt.turn h.gs t (mem_singleF hF.ig), h.tl.trans (t.mono fun p hp => by rw [List.mem_singleton.1 hp]; simp [allR])⟩
theorem TMk.subs (h : TMk B wr u b off n o M vs it M.xs ln gs) (hn : 0 < n) (ha : ∀ p, p ∈ allR M → Far (some ⟨b, off, none⟩) n p.1 p.2) (hF : RFar M) (hs : OwnS B u' M.sa M.s xs') (t : TurnL ((M.sa, M.s) :: M.xs.map fun x => (x.a, x.n)) u u') : TMk B wr u' b off n o M vs it xs' ln gs := by
  have inS : ∀ p, p ∈ ((M.sa, M.s) :: M.xs.map fun x => (x.a, x.n)) → p ∈ allR M := fun p hp => by
    rcases List.mem_cons.1 hp with rfl | hp
    · simp [allR]
    · unfold allR
      exact List.mem_cons_of_mem _ (List.mem_cons_of_mem _ (List.mem_cons_of_mem _ (List.mem_cons_of_mem _ hp)))
  exact ⟨h.tb.turn t hn (fun p hp => (ha p (inS p hp)).symm), h.it.turn t (mem_subsF hF.is.symm fun x hx => (hF.ix x hx).symm), hs, Il.OwnAt.turn h.ln t (mem_subsF hF.sl fun x hx => (hF.lx x hx).symm), Il.OwnAt.turn h.gs t (mem_subsF hF.sg fun x hx => (hF.gx x hx).symm), h.tl.trans (t.mono fun p hp => List.mem_cons_of_mem _ (inS p hp))⟩
theorem TMk.lns {k : Nat} (h : TMk B wr u b off n o M vs it (mkSs k M.xs) ln gs) (hn : 0 < n) (ha : ∀ p, p ∈ allR M → Far (some ⟨b, off, none⟩) n p.1 p.2) (hF : RFar M) (hl : Il.OwnAt B u' M.la M.l ln') (t : TurnL [(M.la, M.l)] u u') : TMk B wr u' b off n o M vs it (mkSs k M.xs) ln' gs :=
  ⟨h.tb.turn t hn (mem_singleF (ha (M.la, M.l) (by simp [allR])).symm), h.it.turn t (mem_singleF hF.il.symm), h.sb.turn t (mem_singleF hF.sl.symm) (fun y hy => mem_singleF (mkSs_far (fun x hx => hF.lx x hx) y hy)), hl, Il.OwnAt.turn h.gs t (mem_singleF hF.lg), h.tl.trans (t.mono fun p hp => by rw [List.mem_singleton.1 hp]; simp [allR])⟩
theorem TMk.grs {k : Nat} (h : TMk B wr u b off n o M vs it (mkSs k M.xs) ln gs) (hn : 0 < n) (ha : ∀ p, p ∈ allR M → Far (some ⟨b, off, none⟩) n p.1 p.2) (hF : RFar M) (hl : Il.OwnAt B u' M.ga M.g gs') (t : TurnL [(M.ga, M.g)] u u') : TMk B wr u' b off n o M vs it (mkSs k M.xs) ln gs' :=
  ⟨h.tb.turn t hn (mem_singleF (ha (M.ga, M.g) (by simp [allR])).symm), h.it.turn t (mem_singleF hF.ig.symm), h.sb.turn t (mem_singleF hF.sg.symm) (fun y hy => mem_singleF (mkSs_far (fun x hx => hF.gx x hx) y hy)), Il.OwnAt.turn h.ln t (mem_singleF hF.lg.symm), hl, h.tl.trans (t.mono fun p hp => by rw [List.mem_singleton.1 hp]; simp [allR])⟩
end
end Go.Proofs.YtojajaibeifhoaaGreatDoor
namespace Go.Proofs.YtojajaibeifhoaaGreatDoor
open Go.RowKit Pl Il

theorem sub_farT {b off n : Nat} {M : Rm} (ha : ∀ p, p ∈ allR M → Far (some ⟨b, off, none⟩) n p.1 p.2) : ∀ x, x ∈ M.xs → Far (some ⟨b, off, none⟩) n x.a x.n := fun x hx => ha (x.a, x.n) (by
  unfold allR
  exact List.mem_cons_of_mem _ (List.mem_cons_of_mem _ (List.mem_cons_of_mem _ (List.mem_cons_of_mem _ (List.mem_map.2 ⟨x, hx, rfl⟩)))))
theorem cap_mkt (k : Nat) {M : Rm} (h : RCap M) : RCap (mkMt k M) := by
  have h1 := cap_mk (k + 4) h
  have e : mkMt k M = mkM (k + 4) M := by
    unfold mkMt mkM
    rw [show k + 3 + 3 * M.i + 1 = k + 4 + 3 * M.i by omega]
  rw [e]
  exact h1
set_option maxRecDepth 100000 in
set_option maxHeartbeats 4000000 in
theorem markTopicS_any (B : Nat) (a : Option Addr) (n cap : Nat) (xs : List Ta) (k : Nat) (w : World) (hO : OwnT B w a n xs) (hn : n ≤ 1048576) (hf : TLe xs 1048576) (k0 : 0 < k) (k1 : k ≤ 1000000000) :
    Calls Tryz.prog 25 #[.slice a n cap, .int .i64 (k : Int)] w fun e w' => e = .returned (.int .i64 ((k + cntT xs : Nat) : Int)) ∧ OwnT B w' a n (mkTs k xs) ∧ TurnL ((a, n) :: allT xs) w w' := by
  have hl := hO.top.len
  have HL := hidOf hl
  have HF := hidOf hf
  have HCt := hidOf (fun i => cntT_le (xs := xs) (K := 3298546417669) (fun x hx => cntTp_le (hf x hx) (hO.row x hx).sb.sub.len) i)
  rcases Nat.eq_zero_or_pos n with h0 | hpos
  · subst h0
    have hx : xs = [] := List.length_eq_zero_iff.1 hl
    subst hx
    have HO := hidOf hO
    clear hO hl
    go_enter Tryz.func25, Tryz.ntmps25
    go_wp2
    go_loop [1, 5] (fun x i => x = .int .i64 (k : Int) ∧ i = .int .i64 0) (fun _ _ => 0)
    case atStart => exact ⟨rfl, rfl⟩
    case round =>
      obtain ⟨rfl, rfl⟩ := hrel
      go_wp2
      go_ret
      exact ⟨rint (by simp [cntT]), HO.out, TurnL.refl _ _⟩
  obtain hr | ⟨b, off, rfl, hb, hcell⟩ := hO.top.row
  · omega
  have HS := hidOf (show OwnT B w (some ⟨b, off, none⟩) n (mkTT k 0 xs) by rw [mkTT_zero]; exact hO)
  clear hO hcell hb hl hf
  go_enter Tryz.func25, Tryz.ntmps25
  go_wp2_with fail
  go_loopw [1, 5] (fun x i wr => ∃ m : Nat, m ≤ n ∧ i = .int .i64 m ∧ x = .int .i64 ((k + cntT (xs.take m) : Nat) : Int) ∧ OwnT B wr (some ⟨b, off, none⟩) n (mkTT k m xs) ∧ TurnL ((some ⟨b, off, none⟩, n) :: allT xs) w wr) (fun _ i _ => n - (intOf i).toNat)
  case atStart => exact ⟨0, Nat.zero_le _, rfl, by simp [cntT], HS.out, TurnL.refl _ _⟩
  case round =>
    rename World => wr
    obtain ⟨m, hm, rfl, rfl, hM, hT⟩ := hrel
    clear HS
    have HT := hidOf hT
    by_cases hlt : m < n
    · have hmx : m < xs.length := by rw [HL.out]; exact hlt
      have hc := HCt.out m
      have hle := HF.out _ (tg_mem hmx)
      have HNx := hidOf (cntT_next hmx)
      obtain hr | ⟨b', off', e, hb, hcell⟩ := hM.top.row
      · omega
      cases e
      have hfr : ∀ o, wr.frozen? ⟨b, o, none⟩ = false := by
        rcases hM.own with h0 | ⟨b', off', e, _, hf⟩
        · omega
        · cases e; exact hf
      have e0 := mkTT_get (k := k) (m := m) hmx
      rw [if_neg (by omega)] at e0
      have hmm : tg (mkTT k m xs) m ∈ mkTT k m xs := tg_mem (by rw [mkTT_len]; exact hmx)
      have hR := hM.row _ hmm
      have hA := hM.apa _ hmm
      have hX := hcell m hlt
      rw [e0] at hR hA hX
      have HSt := hidOf (fun (u : World) => OwnT.mark (u := u) hM hlt hb)
      obtain ⟨K, hK⟩ : ∃ K, k + cntT (xs.take m) = K := ⟨_, rfl⟩
      rw [hK] at HSt ⊢
      have hK0 : 0 < K ∧ K ≤ 3500000000000000000 := by omega
      have HKn := hidOf (show k + cntT (xs.take (m + 1)) = K + cntTp (tg xs m).M by rw [HNx.out, ← hK]; omega)
      obtain ⟨x, hx⟩ : ∃ x, tg xs m = x := ⟨_, rfl⟩
      rw [hx] at HSt hR hA hX hle HKn
      have hl := hR.sb.sub.len
      have hF := rfar hR.apt
      have hfx := sub_farT hA
      have TT := hidOf (show TMk B wr wr b off n (off + m * 9) x.M (tC x) x.v.it x.M.xs x.v.ln x.v.gs from ⟨hX.tb hb hfr, hR.it, hR.sb, hR.ln, hR.gs, TurnL.refl _ _⟩)
      have HAp := hidOf hR.apt
      have HCp := hidOf hR.cap
      have hmi := hle.i
      have hms := hle.s
      have hml := hle.l
      have hmg := hle.g
      have HMF := hidOf (show ∀ z, z ∈ x.M.xs → z.n ≤ 2097152 from fun z hz => Nat.le_trans (hle.f z hz) (by omega))
      have hct := cntS_le hle.f x.M.xs.length
      rw [List.take_length, hl] at hct
      have HF' := hidOf hF
      have HA := hidOf hA
      have HFx := hidOf hfx
      have HX := hidOf hx
      have HKK := hidOf hK
      have HC0 := hidOf (markText_any K wr hK0.1 (by omega))
      clear hX hR hM hT hcell hb hfr e0 hmm hmx hc hK hx hF hA hfx hl hle HNx
      go_wp2_with fail
      refine (HC0.out).mono ?_
      rintro e w1 ⟨rfl, b1⟩
      have T1 := TT.out.keep b1
      have fr1 := T1.tb.fr
      obtain ⟨q0, q1, q2, q3, q4, q5, q6, q7, q8⟩ := T1.tb.tcell
      have S1 := ((T1.set hpos HA.out HFx.out 0 (by simp) (.string (mkT K))).set hpos HA.out HFx.out 1 (by simp) (.int .i64 ((K + 1 : Nat) : Int))).set hpos HA.out HFx.out 2 (by simp) (.int .i64 ((K + 2 : Nat) : Int))
      obtain ⟨X1, hX1⟩ : ∃ X, X = ((w1.setCell ⟨b, off + m * 9 + 0, none⟩ (.string (mkT K))).setCell ⟨b, off + m * 9 + 1, none⟩ (.int .i64 ((K + 1 : Nat) : Int))).setCell ⟨b, off + m * 9 + 2, none⟩ (.int .i64 ((K + 2 : Nat) : Int)) := ⟨_, rfl⟩
      rw [← hX1] at S1
      have hX1' : ((w1.setCell ⟨b, off + m * 9, none⟩ (.string (mkT K))).setCell ⟨b, off + m * 9 + 1, none⟩ (.int .i64 ((K : Int) + 1))).setCell ⟨b, off + m * 9 + 2, none⟩ (.int .i64 ((K : Int) + 1 + 1)) = X1 := by
        rw [hX1]
        rfl
      have r3 : X1.cell? ⟨b, off + m * 9 + 3, none⟩ = some (.slice x.M.ia x.M.i x.M.ic) := S1.tb.cs 3 (by simp)
      have HC1 := hidOf (markMsgS_any B x.M.ia x.M.i x.M.ic x.v.it (K + 3) X1 S1.it (by omega) (by omega) (by omega))
      rw [show ((K + 3 : Nat) : Int) = (K : Int) + 1 + 1 + 1 by omega] at HC1
      have HS1 := hidOf S1
      clear hX1 S1 T1 TT b1 HC0
      go_wp2_with fail
      refine (HC1.out).mono ?_
      rintro e u1 ⟨rfl, o1, f1⟩
      have U1 := HS1.out.msgs hpos HA.out HF'.out rfl o1 f1
      have fr2 := U1.tb.fr
      have p4 : u1.cell? ⟨b, off + m * 9 + 4, none⟩ = some (.int .i64 x.v.nx) := U1.tb.cs 4 (by simp)
      obtain ⟨K1, hK1⟩ : ∃ K1, K + 3 + 3 * x.M.i = K1 := ⟨_, rfl⟩
      rw [hK1]
      have hK1b : 0 < K1 ∧ K1 ≤ 3500000000004000000 := by omega
      have S2 := U1.set hpos HA.out HFx.out 4 (by simp) (.int .i64 (K1 : Int))
      obtain ⟨X2, hX2⟩ : ∃ X, u1.setCell ⟨b, off + m * 9 + 4, none⟩ (.int .i64 (K1 : Int)) = X := ⟨_, rfl⟩
      rw [hX2] at S2
      have r5 : X2.cell? ⟨b, off + m * 9 + 5, none⟩ = some (.slice x.M.sa x.M.s x.M.sc) := S2.tb.cs 5 (by simp)
      have HC2 := hidOf (markSubS_any B x.M.sa x.M.s x.M.sc x.M.xs (K1 + 1) X2 S2.sb (by omega) HMF.out (by omega) (by omega))
      rw [show ((K1 + 1 : Nat) : Int) = (K1 : Int) + 1 by omega] at HC2
      have HS2 := hidOf S2
      have HK1 := hidOf hK1
      clear S2 U1 o1 f1 HC1 HS1 r3 hX1' q0 q1 q2 q3 q4 q5 q6 q7 q8 fr1 hK1
      go_wp2_with fail
      refine (HC2.out).mono ?_
      rintro e u2 ⟨rfl, o2, f2⟩
      have U2 := HS2.out.subs hpos HA.out HF'.out o2 f2
      have r6 : u2.cell? ⟨b, off + m * 9 + 6, none⟩ = some (.slice x.M.la x.M.l x.M.lc) := U2.tb.cs 6 (by simp)
      obtain ⟨K2, hK2⟩ : ∃ K2, K1 + 1 + cntS x.M.xs = K2 := ⟨_, rfl⟩
      rw [hK2]
      have hK2b : 0 < K2 ∧ K2 ≤ 3600000000000000000 := by omega
      have HC3 := hidOf (markIntW_any B x.M.la x.M.l x.M.lc x.v.ln (K2 : Int) u2 U2.ln (by omega) (by omega) (by omega))
      have HU2 := hidOf U2
      have HK2 := hidOf hK2
      clear U2 o2 f2 HC2 HS2 r5 p4 fr2 hX2 hK2
      go_wp2_with fail
      refine (HC3.out).mono ?_
      rintro e u3 ⟨rfl, o3, f3⟩
      have U3 := HU2.out.lns hpos HA.out HF'.out o3 (TurnL.ofI f3)
      have r7 : u3.cell? ⟨b, off + m * 9 + 7, none⟩ = some (.slice x.M.ga x.M.g x.M.gc) := U3.tb.cs 7 (by simp)
      obtain ⟨K3, hK3⟩ : ∃ K3, K2 + x.M.l = K3 := ⟨_, rfl⟩
      rw [show (K2 : Int) + (x.M.l : Int) = (K3 : Int) by omega]
      have hK3b : 0 < K3 ∧ K3 ≤ 3600000000004000000 := by omega
      have HC4 := hidOf (markIntW_any B x.M.ga x.M.g x.M.gc x.v.gs (K3 : Int) u3 U3.gs (by omega) (by omega) (by omega))
      have HU3 := hidOf U3
      have HK3 := hidOf hK3
      clear U3 o3 f3 HC3 HU2 r6 hK3
      go_wp2_with fail
      refine (HC4.out).mono ?_
      rintro e u4 ⟨rfl, o4, f4⟩
      have U4 := HU3.out.grs hpos HA.out HF'.out o4 (TurnL.ofI f4)
      have fr5 := U4.tb.fr
      have p8 : u4.cell? ⟨b, off + m * 9 + 8, none⟩ = some (.bool x.v.cl) := U4.tb.cs 8 (by simp)
      obtain ⟨K4, hK4⟩ : ∃ K4, K3 + x.M.g = K4 := ⟨_, rfl⟩
      rw [show (K3 : Int) + (x.M.g : Int) = (K4 : Int) by omega]
      have hK4b : 0 < K4 ∧ K4 ≤ 3600000000008000000 := by omega
      have HU4 := hidOf U4
      have HK4 := hidOf hK4
      clear U4 o4 f4 HC4 HU3 r7 hK4
      go_wp2
      go_roundw
      case rel =>
        refine ⟨m + 1, by omega, by go_num, ?_, ?_⟩
        · have h1 := HK1.out
          have h2 := HK2.out
          have h3 := HK3.out
          have h4 := HK4.out
          rw [HKn.out]
          unfold cntTp
          go_num
        · have S5 := HU4.out.set hpos HA.out (mkSs_far HFx.out) 8 (by simp) (.bool ((K4 : Int) % 3 == 0))
          have h1 := HK1.out
          have h2 := HK2.out
          have h3 := HK3.out
          have h4 := HK4.out
          subst h4
          subst h3
          subst h2
          subst h1
          have hR := HSt.out _ (Nat.le_trans (mkT_size K) (by unfold maxLen; omega)) ⟨S5.it, S5.sb, rfl, S5.ln, S5.gs, by rw [allR_mkt]; exact HAp.out, cap_mkt K HCp.out⟩ S5.tl (fun p hp => S5.tb.oth p (by simpa using hp)) (TB.tcell (x := mkTa K x) S5.tb) S5.tb.fr
          exact ⟨hR.1, HT.out.trans hR.2⟩
      case measure => simp [intOf]; omega
    · have hmn : m = xs.length := by rw [HL.out]; omega
      have HM := hidOf (show OwnT B wr (some ⟨b, off, none⟩) n (mkTs k xs) by unfold mkTs; rw [← hmn]; exact hM)
      have HE := hidOf (show k + cntT (xs.take m) = k + cntT xs by rw [hmn, List.take_length])
      clear hM hT hmn
      go_wp2
      go_ret
      exact ⟨rint (by have := HE.out; omega), HM.out, HT.out⟩
end Go.Proofs.YtojajaibeifhoaaGreatDoor
namespace Go.Proofs.YtojajaibeifhoaaGreatDoor
open Go.RowKit Pl Il

theorem mkTs_len (k : Nat) (xs : List Ta) : (mkTs k xs).length = xs.length := mkTT_len _ _ _
set_option maxRecDepth 100000 in
set_option maxHeartbeats 4000000 in
theorem heldTopicS_marks (a : Option Addr) (n cap k : Nat) (xs : List Ta) (w : World) (hI : TopAt w a n (mkTs k xs)) (hn : n ≤ 1048576) (hf : TLe xs 1048576) (hs : ∀ x, x ∈ xs → x.M.xs.length = x.M.s) (k0 : 0 < k) (k1 : k ≤ 1000000000) :
    Calls Tryz.prog 26 #[.slice a n cap, .int .i64 (k : Int)] w fun e w' => e = .returned (.int .i64 ((k + cntT xs : Nat) : Int)) ∧ Below w.heap.size w w' := by
  have hl : xs.length = n := by have := hI.len; rwa [mkTs_len] at this
  have HL := hidOf hl
  have HF := hidOf hf
  have HSl := hidOf hs
  have HI := hidOf hI
  have HCt := hidOf (fun i => cntT_le (xs := xs) (K := 3298546417669) (fun x hx => cntTp_le (hf x hx) (hs x hx)) i)
  clear hI hl hf hs
  go_enter Tryz.func26, Tryz.ntmps26
  go_wp2_with fail
  go_loopw [1, 5] (fun x i wr => ∃ m : Nat, m ≤ n ∧ i = .int .i64 m ∧ x = .int .i64 ((k + cntT (xs.take m) : Nat) : Int) ∧ Below w.heap.size w wr) (fun _ i _ => n - (intOf i).toNat)
  case atStart => exact ⟨0, Nat.zero_le _, rfl, by simp [cntT], Below.refl _ _⟩
  case round =>
    rename World => wr
    obtain ⟨m, hm, rfl, rfl, hB⟩ := hrel
    have HB := hidOf hB
    by_cases hlt : m < n
    · have hmx : m < xs.length := by rw [HL.out]; exact hlt
      have hc := HCt.out m
      have hle := HF.out _ (tg_mem hmx)
      have hl := HSl.out _ (tg_mem hmx)
      have HNx := hidOf (cntT_next hmx)
      obtain hr | ⟨b, off, rfl, hb, hcell⟩ := HI.out.row
      · omega
      have hX := hcell m hlt
      have hR := HI.out.rin _ (tg_mem (show m < (mkTs k xs).length by rw [mkTs_len]; exact hmx))
      rw [mkTs_get hmx] at hX hR
      obtain ⟨K, hK⟩ : ∃ K, k + cntT (xs.take m) = K := ⟨_, rfl⟩
      rw [hK] at hX hR ⊢
      have hK0 : 0 < K ∧ K ≤ 3500000000000000000 := by omega
      have HKn := hidOf (show k + cntT (xs.take (m + 1)) = K + cntTp (tg xs m).M by rw [HNx.out, ← hK]; omega)
      obtain ⟨x, hx⟩ : ∃ x, tg xs m = x := ⟨_, rfl⟩
      rw [hx] at hX hR hle HKn hl
      have HX := hidOf (fun (u : World) (hb' : Below w.heap.size w u) => hX.below hb' hb)
      have HR := hidOf (fun (u : World) (hb' : Below w.heap.size w u) => hR.keep hb')
      have hmi := hle.i
      have hms := hle.s
      have hml := hle.l
      have hmg := hle.g
      have HMF := hidOf (show ∀ z, z ∈ x.M.xs → z.n ≤ 2097152 from fun z hz => Nat.le_trans (hle.f z hz) (by omega))
      have hct := cntS_le hle.f x.M.xs.length
      rw [List.take_length, hl] at hct
      have c0 : wr.cell? ⟨b, off + m * 9, none⟩ = some (.string (mkT K)) := (HX.out wr hB).c0
      have hS : RdH b (off + m * 9) (.string (mkT K)) w wr := ⟨c0, hB⟩
      have HC : ∀ (u : World), Hid (Calls Tryz.prog 65 #[.int .i64 (K : Int)] u fun e w' => e = .returned (.string (mkT K)) ∧ Below u.heap.size u w') := fun u => hidOf (markText_any K u (by omega) (by omega))
      have n0 : ∀ z : Int, (z != z) = false := fun z => by simp
      have n1 : ∀ z : Bool, (z != z) = false := fun z => by simp
      clear hX hR hcell hb hmx hc hK hx hl hle HNx hB
      generalize hmk : mkT K = t at hS HC c0
      have HMk := hidOf hmk
      clear hmk
      go_wp2_with fail
      go_region_held3 (fun w' => RdH b (off + m * 9) (.string t) w w') (first | (exact hS.drew) | (exact RdH.keep (by assumption) (by assumption))) (first | (go_at_call 65; refine ((HC _).out).mono ?_; rintro e w1 ⟨rfl, hb1⟩))
      all_goals (rename_i hT; have hB2 := hidOf hT.2; clear hT hS c0 HC)
      all_goals
        have C1 := HX.out _ hB2.out
        have q1 := (show _ = some (Value.int .i64 ((K : Int) + 1)) from C1.c1)
        have q2 := (show _ = some (Value.int .i64 ((K : Int) + 1 + 1)) from C1.c2)
        have q3 := (show _ = some (Value.slice x.M.ia x.M.i x.M.ic) from C1.c3)
        have HC1 := hidOf (heldMsgS_marks x.M.ia x.M.i x.M.ic (K + 3) _ ((HR.out _ hB2.out).it) (by show x.M.i ≤ 2097152; omega) (by omega) (by show K + 3 + 3 * x.M.i ≤ _; omega))
        rw [show ((K + 3 : Nat) : Int) = (K : Int) + 1 + 1 + 1 by omega] at HC1
        have g1 : ¬ ((K + 3 + 3 * x.M.i : Nat) : Int) < 0 := by omega
        clear C1
        go_wp2_with fail
        refine (HC1.out).mono ?_
        rintro e u1 ⟨rfl, b1⟩
        have hB3 := hidOf (bl_trans hB2.out b1)
        obtain ⟨K1, hK1⟩ : ∃ K1, K + 3 + 3 * x.M.i = K1 := ⟨_, rfl⟩
        rw [hK1] at g1 ⊢
        have C2 := HX.out _ hB3.out
        have p4 : u1.cell? ⟨b, off + m * 9 + 4, none⟩ = some (.int .i64 (K1 : Int)) := by rw [← hK1]; exact C2.c4
        have p5 : u1.cell? ⟨b, off + m * 9 + 5, none⟩ = some (.slice x.M.sa x.M.s x.M.sc) := C2.c5
        have hK1b : 0 < K1 ∧ K1 ≤ 3500000000004000000 := by omega
        have HC2 := hidOf (heldSubS_marks x.M.sa x.M.s x.M.sc (K1 + 1) x.M.xs u1 (by rw [← hK1]; exact (HR.out _ hB3.out).sb) (by omega) HMF.out (by omega) (by omega))
        rw [show ((K1 + 1 : Nat) : Int) = (K1 : Int) + 1 by omega] at HC2
        have g2 : ¬ ((K1 + 1 + cntS x.M.xs : Nat) : Int) < 0 := by omega
        have HK1 := hidOf hK1
        clear C2 q1 q2 q3 HC1 b1 hK1 hB2
        go_wp2_with fail
        refine (HC2.out).mono ?_
        rintro e u2 ⟨rfl, b2⟩
        have hB4 := hidOf (bl_trans hB3.out b2)
        obtain ⟨K2, hK2⟩ : ∃ K2, K1 + 1 + cntS x.M.xs = K2 := ⟨_, rfl⟩
        rw [hK2] at g2 ⊢
        have p6 : u2.cell? ⟨b, off + m * 9 + 6, none⟩ = some (.slice x.M.la x.M.l x.M.lc) := (HX.out _ hB4.out).c6
        have hK2b : 0 < K2 ∧ K2 ≤ 3600000000000000000 := by omega
        have HC3 := hidOf (heldIntW_marks x.M.la x.M.l x.M.lc (K2 : Int) u2 (by rw [← hK2, ← HK1.out]; exact (HR.out _ hB4.out).ln) (by omega) (by omega) (by omega))
        have g3 : ¬ (K2 : Int) + (x.M.l : Int) < 0 := by omega
        have HK2 := hidOf hK2
        clear p4 p5 HC2 b2 hK2 hB3 g1
        go_wp2_with fail
        refine (HC3.out).mono ?_
        rintro e u3 ⟨rfl, b3⟩
        have hB5 := hidOf (show Below w.heap.size w u3 by rw [b3]; exact hB4.out)
        obtain ⟨K3, hK3⟩ : ∃ K3, K2 + x.M.l = K3 := ⟨_, rfl⟩
        rw [show (K2 : Int) + (x.M.l : Int) = (K3 : Int) by omega] at g3 ⊢
        have p7 : u3.cell? ⟨b, off + m * 9 + 7, none⟩ = some (.slice x.M.ga x.M.g x.M.gc) := (HX.out _ hB5.out).c7
        have hK3b : 0 < K3 ∧ K3 ≤ 3600000000004000000 := by omega
        have HC4 := hidOf (heldIntW_marks x.M.ga x.M.g x.M.gc (K3 : Int) u3 (by rw [← hK3, ← HK2.out, ← HK1.out]; exact (HR.out _ hB5.out).gs) (by omega) (by omega) (by omega))
        have g4 : ¬ (K3 : Int) + (x.M.g : Int) < 0 := by omega
        have HK3 := hidOf hK3
        clear p6 HC3 b3 hK3 hB4 g2
        go_wp2_with fail
        refine (HC4.out).mono ?_
        rintro e u4 ⟨rfl, b4⟩
        have hB6 := hidOf (show Below w.heap.size w u4 by rw [b4]; exact hB5.out)
        obtain ⟨K4, hK4⟩ : ∃ K4, K3 + x.M.g = K4 := ⟨_, rfl⟩
        rw [show (K3 : Int) + (x.M.g : Int) = (K4 : Int) by omega] at g4 ⊢
        have p8 : u4.cell? ⟨b, off + m * 9 + 8, none⟩ = some (.bool ((K4 : Int) % 3 == 0)) := by rw [← hK4, ← HK3.out, ← HK2.out, ← HK1.out]; exact (HX.out _ hB6.out).c8
        have hK4b : 0 < K4 ∧ K4 ≤ 3600000000008000000 := by omega
        have HK4 := hidOf hK4
        clear p7 HC4 b4 hK4 hB5 g3
        go_wp2
        go_roundw
        case rel =>
          have h1 := HK1.out
          have h2 := HK2.out
          have h3 := HK3.out
          have h4 := HK4.out
          refine ⟨m + 1, by omega, by go_num, ?_, hB6.out⟩
          rw [HKn.out]
          unfold cntTp
          go_num
        case measure => simp [intOf]; omega
    · have HE := hidOf (show k + cntT (xs.take m) = k + cntT xs by rw [List.take_of_length_le (by have := HL.out; omega)])
      clear hB
      go_wp2
      go_ret
      exact ⟨rint (by have := HE.out; omega), HB.out⟩
end Go.Proofs.YtojajaibeifhoaaGreatDoor
