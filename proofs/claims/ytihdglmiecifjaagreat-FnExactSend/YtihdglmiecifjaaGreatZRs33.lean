/-
  The plain mathematics of reading: who reads, what it is told, what goe
  A subscriber's cells are written over, all seven of them
  What the law on Send holds on to
  The plain mathematics of sending: who is told, who stays, what goes
-/
import Derived.Test.YtihdglmiecifjaaGreatZRs27
import Derived.Test.YtihdglmiecifjaaGreatZRs32
namespace Go.Proofs.YtihdglmiecifjaaGreat
open Go.RowKit Go.Maps Pl Il
theorem box8 {N : Nat} {a0 a1 a2 a3 a4 a5 a6 a7 : Value} {w : World} (h : BoxL N [a0, a1, a2, a3, a4, a5, a6, a7] w) : w.cell? ⟨N, 0, none⟩ = some a0 ∧ w.cell? ⟨N, 1, none⟩ = some a1 ∧ w.cell? ⟨N, 2, none⟩ = some a2 ∧ w.cell? ⟨N, 3, none⟩ = some a3 ∧ w.cell? ⟨N, 4, none⟩ = some a4 ∧ w.cell? ⟨N, 5, none⟩ = some a5 ∧ w.cell? ⟨N, 6, none⟩ = some a6 ∧ w.cell? ⟨N, 7, none⟩ = some a7 := ⟨h.cs 0 (by simp), h.cs 1 (by simp), h.cs 2 (by simp), h.cs 3 (by simp), h.cs 4 (by simp), h.cs 5 (by simp), h.cs 6 (by simp), h.cs 7 (by simp)⟩
/-- Does a message pass? -/
def pasR (fl : List Tm) (m : Tm) : Bool := passP fl (bdOf m.1 m.2.1 m.2.2)
def passS (s : Sb) (n : Int) : Sb := { s with cu := s.cu + n, pa := s.pa + n }
theorem set_getD {sb : List Sb} {k : Nat} {s : Sb} (hk : k < sb.length) : (sb.set k s).getD k Sb0 = s := by
  rw [List.getD, List.getElem?_set, if_pos rfl, if_pos hk, Option.getD_some]
theorem putV_set {sb : List Sb} {k r : Nat} {s : Sb} {z : Int} (hk : k < sb.length) : putV (sb.set k s) k r z = sb.set k (subPut s r z) := by
  unfold putV
  rw [show (⟨0, 0, 0, 0, 0, 0, []⟩ : Sb) = Sb0 from rfl, set_getD hk, List.set_set]
end Go.Proofs.YtihdglmiecifjaaGreat
namespace Go.Proofs.YtihdglmiecifjaaGreat
open Go.RowKit Go.Maps Pl Il
theorem RRow.sub_row {B : Nat} {w : World} {M : Rm} {v : Rv} (h : RRow B w M v) {k : Nat} (hk : k < v.sb.length) : ∃ g, M.sa = some ⟨g, 0, none⟩ ∧ M.s = M.xs.length ∧ k < M.xs.length := by
  have hl : M.xs.length = v.sb.length := by rw [← h.sv]; simp [svs]
  obtain ⟨h1, ⟨e, e0⟩ | ⟨g, cp, cur, e, _⟩⟩ := h.sb
  · rw [e0, length_sflat] at h1; omega
  · injection e with e1
    exact ⟨g, e1, by rw [length_sflat] at h1; omega, by omega⟩
theorem rowB {B K : Nat} {w w' : World} {t : TypeId} {s : Nat} {v : Value} {n : Nat} {xs : List Value} (h : w.ownsRow B t s v n xs) (hb : Below K w w') (hlt : ∀ q, v.ownBlock = some q → q < K) : w'.ownsRow B t s v n xs := by
  obtain ⟨hl, hn | ⟨g, cap, cur, rfl, hB, hg, hr⟩⟩ := h
  · exact ⟨hl, .inl hn⟩
  · exact ⟨hl, .inr ⟨g, cap, cur, rfl, hB, by rw [hb.block g (hlt g rfl)]; exact hg, hr⟩⟩
theorem RRow.far {B K : Nat} {w w' : World} {M : Rm} {v : Rv} (h : RRow B w M v) (hb : Below K w w') (hlt : ∀ q, some q ∈ blkR M → q < K) : RRow B w' M v :=
  have key : ∀ {u : Value}, u.ownBlock ∈ blkR M → ∀ q, u.ownBlock = some q → q < K := fun {u} hu q e => hlt q (by rw [← e]; exact hu)
  ⟨rowB h.it hb (key (by simp [blkR])), h.its, rowB h.sb hb (key (by simp [blkR])), fun x hx => rowB (h.fl x hx) hb (key (by
    unfold blkR
    exact List.mem_cons_of_mem _ (List.mem_cons_of_mem _ (List.mem_cons_of_mem _ (List.mem_cons_of_mem _ (List.mem_map.2 ⟨x, hx, rfl⟩)))))), h.fls, h.sv, rowB h.ln hb (key (by simp [blkR])), rowB h.gs hb (key (by simp [blkR])), h.apt⟩
theorem BoxL.setAll {N : Nat} {vs us : List Value} {w : World} (h : BoxL N vs w) (hl : us.length = vs.length) : BoxL N us (setL w N 0 us) :=
  ⟨by rw [setL_size]; exact h.lt, fun i hi => by
    have k := setL_same (g := N) (vs := us) (w := w) (o := 0) (fun j hj => ⟨_, by rw [Nat.zero_add]; exact h.cs j (by omega)⟩) i hi
    rwa [Nat.zero_add] at k, fun o => by rw [setL_fr]; exact h.fr o⟩
end Go.Proofs.YtihdglmiecifjaaGreat
namespace Go.Proofs.YtihdglmiecifjaaGreat
open Go.RowKit Pl Il
abbrev LawM (w : World) (M : Rm) (v : Rv) (y : Tm) (N : Nat) (M2 : Rm) (u : World) : Prop :=
  u.cell? ⟨w.heap.size, 0, none⟩ = some (.int .i64 v.cp) ∧ u.cell? ⟨w.heap.size, 1, none⟩ = some (.int .i64 v.se) ∧ u.cell? ⟨w.heap.size, 2, none⟩ = some (.slice M.ia M.i M.ic) ∧ u.cell? ⟨w.heap.size, 3, none⟩ = some (.int .i64 v.nx) ∧ u.cell? ⟨w.heap.size, 4, none⟩ = some (.slice M.sa M.s M.sc) ∧ u.cell? ⟨w.heap.size, 5, none⟩ = some (.slice M.la M.l M.lc) ∧ u.cell? ⟨w.heap.size, 6, none⟩ = some (.slice M.ga M.g M.gc) ∧ u.cell? ⟨w.heap.size, 7, none⟩ = some (.bool v.cl) ∧ u.cell? ⟨w.heap.size + 1, 0, none⟩ = some (.int .i64 y.1) ∧ u.cell? ⟨w.heap.size + 1, 1, none⟩ = some (.int .i64 y.2.1) ∧ u.cell? ⟨w.heap.size + 1, 2, none⟩ = some (.string y.2.2) ∧ u.cell? ⟨N, 0, none⟩ = some (.int .i64 v.cp) ∧ u.cell? ⟨N, 1, none⟩ = some (.int .i64 v.se) ∧ u.cell? ⟨N, 2, none⟩ = some (.slice M2.ia M2.i M2.ic) ∧ u.cell? ⟨N, 3, none⟩ = some (.int .i64 v.nx) ∧ u.cell? ⟨N, 4, none⟩ = some (.slice M2.sa M2.s M2.sc) ∧ u.cell? ⟨N, 5, none⟩ = some (.slice M2.la M2.l M2.lc) ∧ u.cell? ⟨N, 6, none⟩ = some (.slice M2.ga M2.g M2.gc) ∧ u.cell? ⟨N, 7, none⟩ = some (.bool v.cl) ∧ BoxL w.heap.size (rC M v) u ∧ BoxL (w.heap.size + 1) [.int .i64 y.1, .int .i64 y.2.1, .string y.2.2] u ∧ BoxL N (rC M2 v) u ∧ Below w.heap.size w u
section
variable {w : World} {M : Rm} {v : Rv} {y : Tm} {N : Nat} {M2 : Rm} {u u' : World}
theorem LawM.mk' (h1 : BoxL w.heap.size (rC M v) u) (h2 : BoxL (w.heap.size + 1) [.int .i64 y.1, .int .i64 y.2.1, .string y.2.2] u) (h3 : BoxL N (rC M2 v) u) (h4 : Below w.heap.size w u) : LawM w M v y N M2 u :=
  ⟨h1.cs 0 (by simp), h1.cs 1 (by simp), h1.cs 2 (by simp), h1.cs 3 (by simp), h1.cs 4 (by simp), h1.cs 5 (by simp), h1.cs 6 (by simp), h1.cs 7 (by simp), h2.cs 0 (by simp), h2.cs 1 (by simp), h2.cs 2 (by simp), h3.cs 0 (by simp), h3.cs 1 (by simp), h3.cs 2 (by simp), h3.cs 3 (by simp), h3.cs 4 (by simp), h3.cs 5 (by simp), h3.cs 6 (by simp), h3.cs 7 (by simp), h1, h2, h3, h4⟩
theorem LawM.b1 (h : LawM w M v y N M2 u) : BoxL w.heap.size (rC M v) u := h.2.2.2.2.2.2.2.2.2.2.2.2.2.2.2.2.2.2.2.1
theorem LawM.b2 (h : LawM w M v y N M2 u) : BoxL (w.heap.size + 1) [.int .i64 y.1, .int .i64 y.2.1, .string y.2.2] u := h.2.2.2.2.2.2.2.2.2.2.2.2.2.2.2.2.2.2.2.2.1
theorem LawM.b3 (h : LawM w M v y N M2 u) : BoxL N (rC M2 v) u := h.2.2.2.2.2.2.2.2.2.2.2.2.2.2.2.2.2.2.2.2.2.1
theorem LawM.bel (h : LawM w M v y N M2 u) : Below w.heap.size w u := h.2.2.2.2.2.2.2.2.2.2.2.2.2.2.2.2.2.2.2.2.2.2
theorem LawM.keep (h : LawM w M v y N M2 u) (hb : Below u.heap.size u u') : LawM w M v y N M2 u' := LawM.mk' (h.b1.keep hb) (h.b2.keep hb) (h.b3.keep hb) (bl_trans h.bel hb)
theorem LawM.drew (h : LawM w M v y N M2 u) : LawM w M v y N M2 u.drew := h.keep (Below.refl _ _).drew
end
theorem BoxL.turnN {N : Nat} {vs : List Value} {ls : List (Option Addr × Nat)} {w w' : World} (h : BoxL N vs w) (ht : TurnL ls w w') (hn : ∀ p, p ∈ ls → p.2 = 0 ∨ ∀ b off, p.1 = some ⟨b, off, none⟩ → b ≠ N) : BoxL N vs w' :=
  h.of_block (ht.block N h.lt fun p hp h0 off e => by
    rcases hn p hp with q | q
    · omega
    · exact q _ _ e rfl) (Nat.lt_of_lt_of_le h.lt ht.size)
/-- What a call's three answers are once they are stored. -/
structure RsR (u : World) (r : Rv) (td : List Int) (R : Nat) (M6 : Rm) (t6 : Option Addr) (n6 : Nat) (wx : World) : Prop where
  box : BoxL R (rC M6 r) wx
  own : ROwn u.heap.size wx M6 r
  le : RLe M6 2097152
  told : Il.OwnAt u.heap.size wx t6 n6 td
  tn : n6 ≤ 2097152
  far : ∀ p, p ∈ allR M6 → Far p.1 p.2 t6 n6
  ge : u.heap.size ≤ R
  nr : ∀ p, p ∈ allR M6 → p.2 = 0 ∨ ∀ b off, p.1 = some ⟨b, off, none⟩ → b ≠ R
  nt : n6 = 0 ∨ ∀ b off, t6 = some ⟨b, off, none⟩ → b ≠ R
  below : Below u.heap.size u wx
section
variable {u c x : World} {r : Rv} {td : List Int} {R : Nat} {M6 : Rm} {t6 : Option Addr} {n6 : Nat}
theorem RsR.last (hu : Below u.heap.size u c) (ho : ROwn c.heap.size x M6 r) (hl : RLe M6 2097152) (ht : Il.OwnAt c.heap.size x t6 n6 td) (hn : n6 ≤ 2097152) (hf : ∀ p, p ∈ allR M6 → Far p.1 p.2 t6 n6) (hb : Below c.heap.size c x) (t : TypeId) : RsR u r td x.heap.size M6 t6 n6 (x.alloc (.cells #[.int .i64 r.cp, .int .i64 r.se, .slice M6.ia M6.i M6.ic, .int .i64 r.nx, .slice M6.sa M6.s M6.sc, .slice M6.la M6.l M6.lc, .slice M6.ga M6.g M6.gc, .bool r.cl] t)) := by
  have b1 : Below x.heap.size x (x.alloc (.cells #[.int .i64 r.cp, .int .i64 r.se, .slice M6.ia M6.i M6.ic, .int .i64 r.nx, .slice M6.sa M6.s M6.sc, .slice M6.la M6.l M6.lc, .slice M6.ga M6.g M6.gc, .bool r.cl] t)) := bl_alloc (Below.refl _ _) _
  refine ⟨BoxL.new x (rC M6 r) t, (ho.keep b1).mono hu.size, hl, (ht.keep b1).mono hu.size, hn, hf, Nat.le_trans hu.size hb.size, fun p hp => ?_, ?_, bl_trans (bl_trans hu hb) b1⟩
  · rcases ho.rin.und p hp with k | k
    · exact .inl k
    · exact .inr fun b off e => by have := k b off e; omega
  · rcases und_ints ht.ints with k | k
    · exact .inl k
    · exact .inr fun b off e => by have := k b off e; omega
theorem RsR.first (hu : Below u.heap.size u c) (ho : ROwn c.heap.size x M6 r) (hl : RLe M6 2097152) (ht : Il.OwnAt c.heap.size x t6 n6 td) (hn : n6 ≤ 2097152) (hf : ∀ p, p ∈ allR M6 → Far p.1 p.2 t6 n6) (hb : Below c.heap.size c x) (hR : u.heap.size ≤ R) (hc : R < c.heap.size) (z : BoxL R [.int .i64 0, .int .i64 0, .slice none 0 0, .int .i64 0, .slice none 0 0, .slice none 0 0, .slice none 0 0, .bool false] x) : RsR u r td R M6 t6 n6 ((((((((x.setCell ⟨R, 0, none⟩ (.int .i64 r.cp)).setCell ⟨R, 1, none⟩ (.int .i64 r.se)).setCell ⟨R, 2, none⟩ (.slice M6.ia M6.i M6.ic)).setCell ⟨R, 3, none⟩ (.int .i64 r.nx)).setCell ⟨R, 4, none⟩ (.slice M6.sa M6.s M6.sc)).setCell ⟨R, 5, none⟩ (.slice M6.la M6.l M6.lc)).setCell ⟨R, 6, none⟩ (.slice M6.ga M6.g M6.gc)).setCell ⟨R, 7, none⟩ (.bool r.cl)) := by
  have hab := ho.abv
  have hat := abv_ints ht
  have hg : x.grownBy ((((((((x.setCell ⟨R, 0, none⟩ (.int .i64 r.cp)).setCell ⟨R, 1, none⟩ (.int .i64 r.se)).setCell ⟨R, 2, none⟩ (.slice M6.ia M6.i M6.ic)).setCell ⟨R, 3, none⟩ (.int .i64 r.nx)).setCell ⟨R, 4, none⟩ (.slice M6.sa M6.s M6.sc)).setCell ⟨R, 5, none⟩ (.slice M6.la M6.l M6.lc)).setCell ⟨R, 6, none⟩ (.slice M6.ga M6.g M6.gc)).setCell ⟨R, 7, none⟩ (.bool r.cl)) (some R) := setL_grown (g := R) (o := 0) (vs := rC M6 r) ⟨rfl, rfl, rfl, Nat.le_refl _, fun _ _ _ => rfl⟩
  have hX : BoxL R (rC M6 r) ((((((((x.setCell ⟨R, 0, none⟩ (.int .i64 r.cp)).setCell ⟨R, 1, none⟩ (.int .i64 r.se)).setCell ⟨R, 2, none⟩ (.slice M6.ia M6.i M6.ic)).setCell ⟨R, 3, none⟩ (.int .i64 r.nx)).setCell ⟨R, 4, none⟩ (.slice M6.sa M6.s M6.sc)).setCell ⟨R, 5, none⟩ (.slice M6.la M6.l M6.lc)).setCell ⟨R, 6, none⟩ (.slice M6.ga M6.g M6.gc)).setCell ⟨R, 7, none⟩ (.bool r.cl)) := z.setAll (us := rC M6 r) rfl
  refine ⟨hX, (((((((((ho).far R 0 hc _).far R 1 hc _).far R 2 hc _).far R 3 hc _).far R 4 hc _).far R 5 hc _).far R 6 hc _).far R 7 hc _).mono hu.size, hl, (((((((((ht).far R 0 hc _).far R 1 hc _).far R 2 hc _).far R 3 hc _).far R 4 hc _).far R 5 hc _).far R 6 hc _).far R 7 hc _).mono hu.size, hn, hf, hR, fun p hp => ?_, ?_, (bl_trans hu hb).grown hg (by have := hu.size; have := hb.size; omega) (fun q e => by injection e with e; omega)⟩
  · rcases hab p hp with k | k
    · exact .inl k
    · exact .inr fun b off e => by have := k b off e; omega
  · rcases hat with k | k
    · exact .inl k
    · exact .inr fun b off e => by have := k b off e; omega
end
end Go.Proofs.YtihdglmiecifjaaGreat
namespace Go.Proofs.YtihdglmiecifjaaGreat
open Go.RowKit Go.Maps Pl Il
/-- The filter of the one with that Id. -/
def flAt (sb : List Sb) (id : Int) : List Tm := (sb.getD (atR sb id).toNat Sb0).fl
/-- One message more was passed by. -/
def bump (sb : List Sb) (k : Nat) : List Sb := sb.set k (passS (sb.getD k Sb0) 1)
theorem bump_len (sb : List Sb) (k : Nat) : (bump sb k).length = sb.length := by simp [bump]
theorem bump_get (sb : List Sb) (k j : Nat) (hj : j < sb.length) : (bump sb k).getD j Sb0 = if k = j then passS (sb.getD j Sb0) 1 else sb.getD j Sb0 := by
  unfold bump
  rw [List.getD_eq_getElem?_getD, List.getElem?_set]
  by_cases h : k = j
  · subst h
    rw [if_pos rfl, if_pos hj, if_pos rfl]
    rfl
  · rw [if_neg h, if_neg h, ← List.getD_eq_getElem?_getD]
theorem bump_ids (sb : List Sb) (k : Nat) : (bump sb k).map (·.id) = sb.map (·.id) := by
  refine List.ext_getElem (by simp [bump]) fun i h1 h2 => ?_
  have hi : i < sb.length := by simpa using h2
  simp only [bump, List.getElem_map, List.getElem_set]
  split
  · rename_i h
    subst h
    rw [List.getD, List.getElem?_eq_getElem hi, Option.getD_some]
    rfl
  · rfl
theorem atR_ids {sb sb' : List Sb} (h : sb'.map (·.id) = sb.map (·.id)) (id : Int) : atR sb' id = atR sb id := by
  have key : ∀ l : List Sb, l.findIdx? (fun s => s.id == id) = (l.map (·.id)).findIdx? (fun x => x == id) := fun l => by
    rw [List.findIdx?_map]
    rfl
  unfold atR
  rw [key, key, h]
theorem bump_fls (sb : List Sb) (k j : Nat) : ((bump sb k).getD j Sb0).fl = (sb.getD j Sb0).fl := by
  by_cases hj : j < sb.length
  · rw [bump_get _ _ _ hj]
    split <;> rfl
  · unfold bump
    simp only [List.getD_eq_getElem?_getD]
    rw [List.getElem?_eq_none (by simp; omega), List.getElem?_eq_none (l := sb) (by omega)]
/-- Who is told of those in l, who stays, and what the subscribers are behind it. -/
def sndT (sb : List Sb) (m : Tm) (l : List Int) : List Int := l.filter fun id => pasR (flAt sb id) m
def sndS (sb : List Sb) (m : Tm) (l : List Int) : List Int := l.filter fun id => !pasR (flAt sb id) m
def sndB (sb : List Sb) (m : Tm) (l : List Int) : List Sb := l.foldl (fun s id => if pasR (flAt sb id) m = true then s else bump s (atR sb id).toNat) sb
theorem sndT_snoc (sb : List Sb) (m : Tm) (l : List Int) (id : Int) : sndT sb m (l ++ [id]) = if pasR (flAt sb id) m = true then sndT sb m l ++ [id] else sndT sb m l := by
  unfold sndT
  rw [List.filter_append]
  by_cases h : pasR (flAt sb id) m = true
  · rw [if_pos h]; simp [h]
  · rw [if_neg h]; simp [h]
theorem sndS_snoc (sb : List Sb) (m : Tm) (l : List Int) (id : Int) : sndS sb m (l ++ [id]) = if pasR (flAt sb id) m = true then sndS sb m l else sndS sb m l ++ [id] := by
  unfold sndS
  rw [List.filter_append]
  by_cases h : pasR (flAt sb id) m = true
  · rw [if_pos h]; simp [h]
  · rw [if_neg h]; simp [h]
theorem sndB_snoc (sb : List Sb) (m : Tm) (l : List Int) (id : Int) : sndB sb m (l ++ [id]) = if pasR (flAt sb id) m = true then sndB sb m l else bump (sndB sb m l) (atR sb id).toNat := by
  unfold sndB
  rw [List.foldl_append]
  rfl
theorem sndB_len (sb : List Sb) (m : Tm) : ∀ l : List Int, (sndB sb m l).length = sb.length := by
  suffices h : ∀ (l : List Int) (s : List Sb), (l.foldl (fun s id => if pasR (flAt sb id) m = true then s else bump s (atR sb id).toNat) s).length = s.length from fun l => h l sb
  intro l
  induction l with
  | nil => intro s; rfl
  | cons id l ih =>
    intro s
    rw [List.foldl_cons, ih]
    split
    · rfl
    · exact bump_len _ _
theorem sndB_ids (sb : List Sb) (m : Tm) : ∀ l : List Int, (sndB sb m l).map (·.id) = sb.map (·.id) := by
  suffices h : ∀ (l : List Int) (s : List Sb), (l.foldl (fun s id => if pasR (flAt sb id) m = true then s else bump s (atR sb id).toNat) s).map (·.id) = s.map (·.id) from fun l => h l sb
  intro l
  induction l with
  | nil => intro s; rfl
  | cons id l ih =>
    intro s
    rw [List.foldl_cons, ih]
    split
    · rfl
    · exact bump_ids _ _
theorem sndB_fls (sb : List Sb) (m : Tm) (j : Nat) : ∀ l : List Int, ((sndB sb m l).getD j Sb0).fl = (sb.getD j Sb0).fl := by
  suffices h : ∀ (l : List Int) (s : List Sb), ((l.foldl (fun s id => if pasR (flAt sb id) m = true then s else bump s (atR sb id).toNat) s).getD j Sb0).fl = (s.getD j Sb0).fl from fun l => h l sb
  intro l
  induction l with
  | nil => intro s; rfl
  | cons id l ih =>
    intro s
    rw [List.foldl_cons, ih]
    split
    · rfl
    · exact bump_fls _ _ _
/-- The cursors do not fall. -/
theorem sndB_cu (sb : List Sb) (m : Tm) (x : Int) (h : ∀ s, s ∈ sb → x ≤ s.cu) : ∀ l : List Int, ∀ s, s ∈ sndB sb m l → x ≤ s.cu := by
  suffices h' : ∀ (l : List Int) (t : List Sb), (∀ s, s ∈ t → x ≤ s.cu) → 0 ≤ (1 : Int) → (∀ id, id ∈ l → (atR sb id).toNat < t.length ∨ pasR (flAt sb id) m = true ∨ True) → ∀ s, s ∈ l.foldl (fun s id => if pasR (flAt sb id) m = true then s else bump s (atR sb id).toNat) t → x ≤ s.cu from fun l => h' l sb h (by omega) (fun _ _ => .inr (.inr trivial))
  intro l
  induction l with
  | nil => intro t ht _ _; exact ht
  | cons id l ih =>
    intro t ht h1 _
    rw [List.foldl_cons]
    refine ih _ ?_ h1 (fun _ _ => .inr (.inr trivial))
    split
    · exact ht
    · intro s hs
      by_cases hk : (atR sb id).toNat < t.length
      · rcases List.mem_or_eq_of_mem_set hs with h2 | h2
        · exact ht s h2
        · have h3 : t.getD (atR sb id).toNat Sb0 ∈ t := by
            rw [List.getD, List.getElem?_eq_getElem hk, Option.getD_some]; exact List.getElem_mem _
          have h4 := ht _ h3
          rw [h2]
          show x ≤ (t.getD (atR sb id).toNat Sb0).cu + 1
          omega
      · unfold bump at hs
        rw [List.set_eq_of_length_le (by omega)] at hs
        exact ht s hs
/-- A ring with a message more, ahead of what goes. -/
def sndV (v : Rv) (m : Tm) : Rv := ⟨v.cp, v.se + 1, v.it ++ [m], v.nx, sndB v.sb m v.ln, sndS v.sb m v.ln, v.gs ++ sndT v.sb m v.ln, v.cl⟩
theorem snd_old {v : Rv} {m : Tm} : oldR v ≤ oldR (sndV v m) := by
  have hl := (least_iff v.sb v.se (leastR v.se v.sb)).1 (Int.le_refl _)
  have h1 : leastR v.se v.sb ≤ leastR (v.se + 1) (sndB v.sb m v.ln) := by
    rw [least_iff]
    exact ⟨by omega, sndB_cu v.sb m _ hl.2 v.ln⟩
  unfold oldR
  simp only [sndV]
  repeat' split
  all_goals omega
/-- How many go. -/
theorem snd_first {v : Rv} (h : okR restR v = true) {m : Tm} {f : Nat} (hf : v.se = ((f + v.it.length : Nat) : Int)) : ∃ d : Nat, d ≤ v.it.length + 1 ∧ oldR (sndV v m) = ((f + d : Nat) : Int) ∧ trimR (sndV v m) = { sndV v m with it := (v.it ++ [m]).drop d } := by
  obtain ⟨hcp, hse, _, h16, hlen, _⟩ := ok_head h
  have h1 := snd_old (v := v) (m := m)
  have h2 := oldR_bd (v := sndV v m) (by show 0 ≤ v.se + 1; omega) hcp.1
  have e1 : (sndV v m).se = v.se + 1 := rfl
  have e2 : (sndV v m).it = v.it ++ [m] := rfl
  have e3 : (v.it ++ [m]).length = v.it.length + 1 := by simp
  rw [e1] at h2
  obtain ⟨d, hd⟩ : ∃ d : Nat, oldR (sndV v m) = ((f + d : Nat) : Int) := ⟨(oldR (sndV v m) - f).toNat, by omega⟩
  refine ⟨d, by omega, hd, ?_⟩
  unfold trimR
  rw [e1, e2, e3]
  by_cases h0 : d = 0
  · subst h0
    rw [if_neg (by omega), List.drop_zero]
    rfl
  · rw [if_pos (by omega), show v.it.length + 1 - (v.se + 1 - oldR (sndV v m)).toNat = d by omega]
    first | done | rfl
/-- What Send leaves, whom it tells, and its code. -/
def snR (v : Rv) (m : Tm) : Rv := if okR restR v = true then (if v.cl = true then v else if okB m.1 m.2.1 m.2.2 = true then (if v.se = 1000000000 then v else trimR (sndV v m)) else v) else v
def snT (v : Rv) (m : Tm) : List Int := if okR restR v = true then (if v.cl = true then [] else if okB m.1 m.2.1 m.2.2 = true then (if v.se = 1000000000 then [] else sndT v.sb m v.ln) else []) else []
def snC (v : Rv) (m : Tm) : Int := if okR restR v = true then (if v.cl = true then 6 else if okB m.1 m.2.1 m.2.2 = true then (if v.se = 1000000000 then 2 else 0) else 1) else 1
def SendDone (F : Nat) : Prop := ∀ (M : Rm) (v : Rv) (m : Tm) (w : World), RIn w M v → RLe M 1048576 → RCap M → RWf v → m.2.2.size ≤ maxLen → GOk w →
  Calls Tryz.prog F #[.agg #[.int .i64 v.cp, .int .i64 v.se, .slice M.ia M.i M.ic, .int .i64 v.nx, .slice M.sa M.s M.sc, .slice M.la M.l M.lc, .slice M.ga M.g M.gc, .bool v.cl], .agg #[.int .i64 m.1, .int .i64 m.2.1, .string m.2.2]] w fun e w' => RgT w (snR v m) (snT v m) (snC v m) e w'
def SendDoneS (F : Nat) : Prop := ∀ (M : Rm) (v : Rv) (m : Tm) (w : World), RIn w M v → RLe M 1048576 → RCap M → RWf v → m.2.2.size ≤ maxLen → GOk w →
  Calls Tryz.prog F #[.agg #[.int .i64 v.cp, .int .i64 v.se, .slice M.ia M.i M.ic, .int .i64 v.nx, .slice M.sa M.s M.sc, .slice M.la M.l M.lc, .slice M.ga M.g M.gc, .bool v.cl], .agg #[.int .i64 m.1, .int .i64 m.2.1, .string m.2.2]] w fun e w' => RgTS w (snR v m) (snT v m) (snC v m) e w'
end Go.Proofs.YtihdglmiecifjaaGreat
namespace Go.Proofs.YtihdglmiecifjaaGreat
open Go.RowKit Pl Il
def zTm : Tm := (0, 0, ⟨#[]⟩)
theorem zero_flat (n : Nat) : (Builtin.zeroCells (Value.agg #[.int .i64 0, .int .i64 0, .string ⟨#[]⟩]).cells n).toList = qflat (List.replicate n zTm) := by
  have hz : (Value.agg #[.int .i64 0, .int .i64 0, .string ⟨#[]⟩]).cells = #[.int .i64 0, .int .i64 0, .string ⟨#[]⟩] := rfl
  rw [hz]
  refine List.ext_getElem? fun i => ?_
  by_cases hi : i < n * 3
  · have h := qflat_at (List.replicate n zTm) (i / 3) (i % 3) (by simp; omega) (by omega)
    rw [show i / 3 * 3 + i % 3 = i by omega, qg_eq (by simp; omega), List.getElem_replicate] at h
    rw [h]
    rw [List.getElem?_eq_getElem (by simp [Builtin.zeroCells]; omega)]
    simp only [Builtin.zeroCells, Array.getElem_toList, Array.getElem_map, Array.getElem_range]
    have : i % 3 = 0 ∨ i % 3 = 1 ∨ i % 3 = 2 := by omega
    rcases this with e | e | e <;> simp [e, qC, zTm]
  · rw [List.getElem?_eq_none (by simp [Builtin.zeroCells]; omega), List.getElem?_eq_none (by rw [length_qflat]; simp; omega)]
/-- Messages are cleared. -/
theorem clear_msgs (w : World) (b d n c : Nat) (cur : Array Value) (t : TypeId) (hn : 0 < n) (hg : w.heap[b]? = some (.cells cur t (0, 0))) (hs : d + n * 3 ≤ cur.size) :
    ∃ w', (∀ ty, (Builtin.clear_ #[24] ty #[.slice (some ⟨b, d, none⟩) n c]).run Tryz.prog w = .ok (.tuple #[]) w') ∧ CpyP b d n (List.replicate n zTm) w w' := by
  have hzl : (qflat (List.replicate n zTm)).length = n * 3 := by rw [length_qflat]; simp
  have hst := run_storeCells_at Tryz.prog b d t (qflat (List.replicate n zTm)) 0 cur w hg (by rw [hzl]; omega) (one_qflat _)
  simp only [Nat.add_zero] at hst
  refine ⟨w.setRow b (cur.toList.take d ++ qflat (List.replicate n zTm) ++ cur.toList.drop (d + (qflat (List.replicate n zTm)).length)).toArray, ?_, ⟨fun cur2 t2 h2 => ?_, grown_setRow _ _ _, fun j => ?_⟩⟩
  · intro ty
    obtain ⟨m, rfl⟩ : ∃ m, n = m + 1 := ⟨n - 1, by omega⟩
    have hst2 := hst
    rw [← zero_flat] at hst2
    simp only [Builtin.clear_]
    simp [run_underlying Tryz.underlying24, hst2]
    rw [zero_flat, hzl, ← Array.length_toList, zero_flat, hzl]
  · rw [hg] at h2
    cases h2
    refine ⟨_, setRow_heap w b cur _ t _ hg, ?_⟩
    simp only [List.size_toArray, List.length_append, List.length_take, List.length_drop, Array.length_toList, hzl]
    omega
  · rw [cell_setRow_same w b j cur _ t _ hg]
    have h := seg_at (l := cur.toList) (cs := qflat (List.replicate n zTm)) (d := d) (j := j) (by rw [hzl, Array.length_toList]; omega)
    rw [List.getElem?_toArray, h, hzl]
    split
    · rfl
    · simp [World.cell?, hg]
theorem clear_none (w : World) (ty : TypeId) (a : Option Addr) (c : Nat) : (Builtin.clear_ #[24] ty #[.slice a 0 c]).run Tryz.prog w = .ok (.tuple #[]) w := by
  cases a <;> simp [Builtin.clear_, run_underlying Tryz.underlying24]
/-- The first d of the n messages from number f on are let go. -/
structure DropP (b o f d n : Nat) (P P' : Nat → Tm) (w w' : World) : Prop where
  rnd : RndB b o P' w'
  grown : w.grownBy w' (some b)
  cells : ∀ j, (j < o ∨ o + 51 < j) → w'.cell? ⟨b, j, none⟩ = w.cell? ⟨b, j, none⟩
  fst : w'.cell? ⟨b, o + 51, none⟩ = some (.int .i64 ((f + d : Nat) : Int))
  same : ∀ i, d ≤ i → i < n → P' ((f + i) % 17) = P ((f + i) % 17)
  short : (∀ j, (P j).2.2.size ≤ maxLen) → ∀ j, (P' j).2.2.size ≤ maxLen
end Go.Proofs.YtihdglmiecifjaaGreat
namespace Go.Proofs.YtihdglmiecifjaaGreat
open Go.RowKit Pl Il
theorem grown_of {w u : World} {b : Nat} (h : Below w.heap.size w u) : w.grownBy u (some b) := ⟨h.os, h.tape, h.output, h.size, fun k hk _ => h.block k hk⟩
theorem grown_set (w : World) (b p : Nat) (v : Value) : w.grownBy (w.setCell ⟨b, p, none⟩ v) (some b) := ⟨rfl, rfl, rfl, by simp, fun k _ hk => Below.heap_setCell _ _ _ _ (by rintro rfl; exact hk rfl)⟩
theorem qg_rep {n i : Nat} (h : i < n) : qg (List.replicate n zTm) i = zTm := by rw [qg_eq (by simpa using h), List.getElem_replicate]
/-- What stands in a place behind the clearing of k places from s on. -/
def clrP (P : Nat → Tm) (s k : Nat) (j : Nat) : Tm := if s ≤ j ∧ j < s + k then zTm else P j
theorem RndB.clear {b o s k : Nat} {P : Nat → Tm} {w w' : World} (h : RndB b o P w) (hc : CpyP b (o + s * 3) k (List.replicate k zTm) w w') : RndB b o (clrP P s k) w' :=
  (h.copied hc (by simp)).ext fun j _ => by
    unfold clrP
    split
    · rename_i h1; rw [qg_rep (by omega)]
    · rfl
theorem clr_short {P : Nat → Tm} {s k : Nat} (h : ∀ j, (P j).2.2.size ≤ maxLen) : ∀ j, (clrP P s k j).2.2.size ≤ maxLen := fun j => by
  unfold clrP
  split
  · exact Nat.zero_le _
  · exact h j
/-- The end of dropUpTo: the first number is written. -/
theorem DropP.mk' {b o f d n : Nat} {P P' : Nat → Tm} {w w1 w2 : World} (hb : Below w.heap.size w w1) (hlt : b < w.heap.size) (hR : RndB b o P' w2) (hg : w1.grownBy w2 (some b)) (hc : ∀ j, (j < o ∨ o + 51 ≤ j) → w2.cell? ⟨b, j, none⟩ = w1.cell? ⟨b, j, none⟩)
    (hs : ∀ i, d ≤ i → i < n → P' ((f + i) % 17) = P ((f + i) % 17)) (hsh : (∀ j, (P j).2.2.size ≤ maxLen) → ∀ j, (P' j).2.2.size ≤ maxLen) {u : Value} (h51 : w.cell? ⟨b, o + 51, none⟩ = some u) :
    DropP b o f d n P P' w (w2.setCell ⟨b, o + 51, none⟩ (.int .i64 ((f + d : Nat) : Int))) := by
  refine ⟨hR.set _ (Nat.le_refl _) _, World.grownBy.trans (grown_of hb) (World.grownBy.trans hg (grown_set _ _ _ _)), fun j hj => ?_, ?_, hs, hsh⟩
  · rw [World.cell?_setCell_other _ _ _ _ (by intro e; injection e with _ e2; omega), hc j (by omega), hb.cell (p := ⟨b, j, none⟩) hlt]
  · exact World.cell?_setCell_same _ _ _ (by rw [hc _ (by omega), hb.cell (p := ⟨b, o + 51, none⟩) hlt]; exact h51)
set_option maxRecDepth 100000 in
set_option maxHeartbeats 4000000 in
theorem dropUpTo_any (b o f d n : Nat) (P : Nat → Tm) (w : World) (hR : RndB b o P w) (c51 : w.cell? ⟨b, o + 51, none⟩ = some (.int .i64 (f : Int))) (hd : d ≤ n) (hn : n ≤ 17) (hf : f + n ≤ 2000000000) :
  Calls Tryz.prog 175 #[.pointer (some ⟨b, o, none⟩), .int .i64 ((f + d : Nat) : Int)] w fun e w' => e = .returned (.tuple #[]) ∧ ∃ P', DropP b o f d n P P' w w' := by
 have hlt := hR.lt
 have HC := hidOf (span_any b o f d w (by omega) (by omega))
 have hs17 : f % 17 < 17 := Nat.mod_lt _ (by omega)
 have HR := hidOf hR
 have H51 := hidOf c51
 obtain ⟨s, hs⟩ : ∃ s, f % 17 = s := ⟨_, rfl⟩
 rw [hs] at HC hs17
 have HS := hidOf hs
 obtain ⟨fd, hfd⟩ : ∃ fd : Int, ((f + d : Nat) : Int) = fd := ⟨_, rfl⟩
 have HFD := hidOf hfd
 rw [hfd] at HC ⊢
 clear hs hR hfd
 by_cases hA : s + d ≤ 17
 ·simp only [spanA, spanB, if_pos hA] at HC
  by_cases hd0 : d = 0
  ·subst hd0
   go_enter Tryz.func175, Tryz.ntmps175
   go_wp2_with fail
   refine HC.out.mono ?_
   rintro e w1 ⟨rfl, hb1⟩
   have HB1 := hidOf hb1
   have q51 : w1.cell? ⟨b, o + 51, none⟩ = some (.int .i64 (f : Int)) := by rw [hb1.cell (p := ⟨b, o + 51, none⟩) hlt]; exact H51.out
   have f51 : w1.frozen? ⟨b, o + 51, none⟩ = false := (HR.out.keep hb1).fr _
   have k1 := fun ty => clear_none w1 ty (some ⟨b, o + s * 3, none⟩) (17 - s)
   have k2 := fun ty => clear_none w1 ty none 0
   clear HC c51 hb1
   go_wp2_with fail
   go_end0
   rw [← HFD.out]
   exact ⟨rfl, P, DropP.mk' HB1.out hlt (HR.out.keep HB1.out) ⟨rfl, rfl, rfl, Nat.le_refl _, fun _ _ _ => rfl⟩ (fun _ _ => rfl) (fun _ _ _ => rfl) (fun h => h) H51.out⟩
  ·go_enter Tryz.func175, Tryz.ntmps175
   go_wp2_with fail
   refine HC.out.mono ?_
   rintro e w1 ⟨rfl, hb1⟩
   have HB1 := hidOf hb1
   have hR1 := HR.out.keep hb1
   obtain ⟨cur, t, hg, hsz⟩ := hR1.blk
   obtain ⟨w2, hr2, hc2⟩ := clear_msgs w1 b (o + s * 3) d (17 - s) cur t (by omega) hg (by omega)
   have hR2 := hR1.clear hc2
   have k2 := fun ty => clear_none w2 ty none 0
   have q51 : w2.cell? ⟨b, o + 51, none⟩ = some (.int .i64 (f : Int)) := by rw [hc2.cells, if_neg (by omega), hb1.cell (p := ⟨b, o + 51, none⟩) hlt]; exact H51.out
   have f51 : w2.frozen? ⟨b, o + 51, none⟩ = false := hR2.fr _
   have HR2 := hidOf hR2
   have HC2 := hidOf hc2
   clear HC c51 hb1 hR1 hR2 hc2 hg hsz
   go_wp2_with fail
   go_end0
   rw [← HFD.out]
   refine ⟨rfl, clrP P s d, DropP.mk' HB1.out hlt HR2.out HC2.out.grown (fun j hj => by rw [HC2.out.cells, if_neg (by omega)]) (fun i h1 h2 => ?_) clr_short H51.out⟩
   have := HS.out
   unfold clrP
   rw [if_neg (by omega)]
 ·simp only [spanA, spanB, if_neg hA] at HC
  go_enter Tryz.func175, Tryz.ntmps175
  go_wp2_with fail
  refine HC.out.mono ?_
  rintro e w1 ⟨rfl, hb1⟩
  have HB1 := hidOf hb1
  have hR1 := HR.out.keep hb1
  obtain ⟨cur, t, hg, hsz⟩ := hR1.blk
  obtain ⟨w2, hr2, hc2⟩ := clear_msgs w1 b (o + s * 3) (17 - s) (17 - s) cur t (by omega) hg (by omega)
  have hR2 := hR1.clear hc2
  obtain ⟨cur2, t2, hg2, hsz2⟩ := hR2.blk
  obtain ⟨w3, hr3, hc3⟩ := clear_msgs w2 b (o + 0 * 3) (s + d - 17) 17 cur2 t2 (by omega) hg2 (by omega)
  have hR3 := hR2.clear hc3
  rw [Nat.zero_mul, Nat.add_zero] at hr3
  have q51 : w3.cell? ⟨b, o + 51, none⟩ = some (.int .i64 (f : Int)) := by rw [hc3.cells, if_neg (by omega), hc2.cells, if_neg (by omega), hb1.cell (p := ⟨b, o + 51, none⟩) hlt]; exact H51.out
  have f51 : w3.frozen? ⟨b, o + 51, none⟩ = false := hR3.fr _
  have HR3 := hidOf hR3
  have HC2 := hidOf hc2
  have HC3 := hidOf hc3
  clear HC c51 hb1 hR1 hR2 hR3 hc2 hc3 hg hsz hg2 hsz2
  go_wp2_with fail
  go_end0
  rw [← HFD.out]
  refine ⟨rfl, clrP (clrP P s (17 - s)) 0 (s + d - 17), DropP.mk' HB1.out hlt HR3.out (HC2.out.grown.trans HC3.out.grown) (fun j hj => by rw [HC3.out.cells, if_neg (by omega), HC2.out.cells, if_neg (by omega)]) (fun i h1 h2 => ?_) (fun h => clr_short (clr_short h)) H51.out⟩
  have := HS.out
  unfold clrP
  rw [if_neg (by omega), if_neg (by omega)]
end Go.Proofs.YtihdglmiecifjaaGreat
namespace Go.Proofs.YtihdglmiecifjaaGreat
open Go.RowKit Pl Il
theorem RBody.drop {B b : Nat} {A : Na} {P P' : Nat → Tm} {f d : Nat} {v : Rv} {sa : Option Addr} {s sc : Nat} {ys : List Sa} {w w' : World} (h : RBody B b A P f v sa s sc ys w) (hD : DropP b 3 f d v.it.length P P' w w') (hd : d ≤ v.it.length) : RBody B b A P' (f + d) { v with it := v.it.drop d } sa s sc ys w' := by
  have hg := hD.grown
  have ct : ∀ j, (j < 3 ∨ 3 + 51 < j) → ∀ {u : Value}, w.cell? ⟨b, j, none⟩ = some u → w'.cell? ⟨b, j, none⟩ = some u := fun j hj u e => by rw [hD.cells j hj]; exact e
  have hl : (v.it.drop d).length = v.it.length - d := List.length_drop
  refine ⟨⟨Nat.lt_of_lt_of_le h.wst.lt hg.size, h.wst.ge, ct 0 (by omega) h.wst.c0, ct 1 (by omega) h.wst.c1, fun o => hD.rnd.fr o, ⟨rowG h.wst.rows.one hg (fun q e => by injection e with e; rw [← e]; exact h.wst.ne1), rowG h.wst.rows.two hg (fun q e => by injection e with e; rw [← e]; exact h.wst.ne2), h.wst.rows.ne⟩, h.wst.ne1, h.wst.ne2⟩, hD.rnd, ct 2 (by omega) h.c2, hD.fst, ?_, ct 56 (by omega) h.c56, ct 57 (by omega) h.c57, ct 58 (by omega) h.c58, ⟨rowG h.srow.sb hg (fun q e => by injection e with e; rw [← e]; exact h.nb.1), fun x hx => rowG (h.srow.fl x hx) hg (fun q e => by injection e with e; rw [← e]; exact h.nb.2 x hx), h.srow.fls, h.srow.apt⟩, h.sv, ?_, hD.short h.sh, ?_, ?_, h.nb, h.ap⟩
  · have := ct (3 + 52) (by omega) h.nxt
    rw [this]
    show some (Value.int .i64 ((f + v.it.length : Nat) : Int)) = some (.int .i64 ((f + d + (v.it.drop d).length : Nat) : Int))
    rw [hl, show f + d + (v.it.length - d) = f + v.it.length by omega]
  · show itemsP P' (f + d) (v.it.drop d).length = v.it.drop d
    have e := h.its
    refine List.ext_getElem (by rw [itemsP_len]) fun i h1 h2 => ?_
    rw [itemsP_len, hl] at h1
    have e2 : (v.it.drop d)[i]'h2 = (itemsP P f v.it.length)[d + i]'(by rw [itemsP_len]; omega) := by
      rw [List.getElem_drop]
      congr 1
      exact e.symm
    rw [e2]
    simp only [itemsP, List.getElem_map, List.getElem_range]
    rw [show f + d + i = f + (d + i) by omega]
    exact hD.same (d + i) (by omega) (by omega)
  · show v.se = ((f + d + (v.it.drop d).length : Nat) : Int)
    rw [hl, show f + d + (v.it.length - d) = f + v.it.length by omega]
    exact h.se
  · have := h.few
    show (v.it.drop d).length ≤ 17 ∧ f + d + (v.it.drop d).length ≤ 2000000000
    omega
end Go.Proofs.YtihdglmiecifjaaGreat
namespace Go.Proofs.YtihdglmiecifjaaGreat
open Go.RowKit Pl Il
theorem SRow.sub {B : Nat} {w : World} {a : Option Addr} {n c : Nat} {ys : List Sa} (h : SRow B w a n c ys) : SubAt w a n ys := by
  have hfl : ∀ x, x ∈ ys → OwnF B w x.a x.n x.s.fl := fun x hx => by
    obtain ⟨a1, c1, e1, _, h1⟩ := ownF_of (h.fl x hx) x.s.fl rfl (h.fls x hx)
    cases e1
    exact h1
  obtain ⟨hl, _, hr⟩ := rowS h.sb
  refine ⟨hl, fun x hx => (hfl x hx).tm, ?_⟩
  rcases hr with k | ⟨b, e, _, hlt, _, hc⟩
  · exact .inl k
  · exact .inr ⟨b, 0, e, hlt, hc⟩
set_option maxRecDepth 100000 in
set_option maxHeartbeats 4000000 in
theorem oldest_any (B b : Nat) (A : Na) (P : Nat → Tm) (f : Nat) (v : Rv) (sa : Option Addr) (s sc : Nat) (ys : List Sa) (w : World) (hR : RBody B b A P f v sa s sc ys w) (hs : s ≤ 2097152) (hse : 0 ≤ v.se ∧ v.se ≤ 1000000000) (hcp : 1 ≤ v.cp ∧ v.cp ≤ 16) :
  Calls Tryz.prog 128 #[.pointer (some ⟨b, 0, none⟩)] w fun e w' => e = .returned (.int .i64 (oldR v)) ∧ Below w.heap.size w w' := by
 have hH := hR.s
 have HC := hidOf (oldestOf_any ⟨none, 0, 0, sa, s, sc, ys, none, 0, 0, none, 0, 0⟩ v w.drew (hR.srow.keep (Below.refl _ _).drew).sub hR.sv hs hse hcp)
 simp only at HC
 clear hR hs hse hcp
 go_enter Tryz.func128, Tryz.ntmps128
 go_upto_region 1 with fail
 refine wp_region_noPanic ?_
 refine wp_region_held_drew (S := fun w' => RbS b A v sa s sc w') (by kernel_rfl) hH.drew (fun hHeld => ?_)
 refine tK 0 ?_ rfl (by kernel_rfl) (by rfl) ?_ (by assumption) (fun _ _ _ h => h) ?_
 case refine_2 => (intro w hSw; (try dsimp only at hSw); go_simp; try with_reducible rfl)
 simp only [Act.put, List.getElem_toArray, List.getElem_cons_zero, List.setIfInBounds_toArray, List.set_cons_zero, List.set_cons_succ]
 refine tK 1 ?_ rfl (by kernel_rfl) (by rfl) ?_ (by assumption) (fun _ _ _ h => h) ?_
 case refine_2 => (intro w hSw; (try dsimp only at hSw); go_simp; try with_reducible rfl)
 simp only [Act.put, zGA, zG0, zGC, zSA, zS0, zSC]
 refine tK 2 ?_ rfl (by kernel_rfl) (by rfl) ?_ (by assumption) (fun _ _ _ h => h) ?_
 case refine_2 => (intro w hSw; (try dsimp only at hSw); go_simp; try with_reducible rfl)
 simp only [Act.put, zGA, zG0, zGC, zSA, zS0, zSC]
 refine tK 3 ?_ rfl (by kernel_rfl) (by rfl) ?_ (by assumption) (fun _ _ _ h => h) ?_
 case refine_2 => (intro w hSw; (try dsimp only at hSw); go_simp; try with_reducible rfl)
 simp only [Act.put, zGA, zG0, zGC, zSA, zS0, zSC]
 refine tK 4 ?_ rfl (by kernel_rfl) (by rfl) ?_ (by assumption) (fun _ _ _ h => h) ?_
 case refine_2 => (intro w hSw; (try dsimp only at hSw); go_simp; try with_reducible rfl)
 simp only [Act.put, zGA, zG0, zGC, zSA, zS0, zSC]
 refine tK 5 ?_ rfl (by kernel_rfl) (by rfl) ?_ (by assumption) (fun _ _ _ h => h) ?_
 case refine_2 => (intro w hSw; (try dsimp only at hSw); go_simp; try with_reducible rfl)
 simp only [Act.put, zGA, zG0, zGC, zSA, zS0, zSC]
 refine tK 6 ?_ rfl (by kernel_rfl) (by rfl) ?_ (by assumption) (fun _ _ _ h => h) ?_
 case refine_2 => (intro w hSw; (try dsimp only at hSw); go_simp; try with_reducible rfl)
 simp only [Act.put, zGA, zG0, zGC, zSA, zS0, zSC]
 refine tK 7 ?_ rfl (by kernel_rfl) (by rfl) ?_ (by assumption) (fun _ _ _ h => h) ?_
 case refine_2 => (intro w hSw; (try dsimp only at hSw); go_simp; try with_reducible rfl)
 simp only [Act.put, zGA, zG0, zGC, zSA, zS0, zSC]
 refine tK 8 ?_ rfl (by kernel_rfl) (by rfl) ?_ (by assumption) (fun _ _ _ h => h) ?_
 case refine_2 => (intro w hSw; (try dsimp only at hSw); go_simp; try with_reducible rfl)
 simp only [Act.put, zGA, zG0, zGC, zSA, zS0, zSC]
 refine tK 9 ?_ rfl (by kernel_rfl) (by rfl) ?_ (by assumption) (fun _ _ _ h => h) ?_
 case refine_2 => (intro w hSw; (try dsimp only at hSw); go_simp; try with_reducible rfl)
 simp only [Act.put, zGA, zG0, zGC, zSA, zS0, zSC]
 refine tK 10 ?_ rfl (by kernel_rfl) (by rfl) ?_ (by assumption) (fun _ _ _ h => h) ?_
 case refine_2 => (intro w hSw; (try dsimp only at hSw); go_simp; try with_reducible rfl)
 simp only [Act.put, zGA, zG0, zGC, zSA, zS0, zSC]
 refine tK 11 ?_ rfl (by kernel_rfl) (by rfl) ?_ (by assumption) (fun _ _ _ h => h) ?_
 case refine_2 => (intro w hSw; (try dsimp only at hSw); go_simp; try with_reducible rfl)
 simp only [Act.put, zGA, zG0, zGC, zSA, zS0, zSC]
 refine tK 12 ?_ rfl (by kernel_rfl) (by rfl) ?_ (by assumption) (fun _ _ _ h => h) ?_
 case refine_2 => (intro w hSw; (try dsimp only at hSw); go_simp; try with_reducible rfl)
 simp only [Act.put, zGA, zG0, zGC, zSA, zS0, zSC]
 refine wpAnyH_ready (rs := [13]) (by kernel_rfl) (by simp) ?_
 refine AllReadyH.cons rfl (fun K hK => ?_) AllReadyH.nil
 go_simp
 refine (HC.out).mono ?_
 rintro e w5 ⟨rfl, hb5⟩
 go_wp2_with fail
 have hS5 := RbS.keep hHeld hb5
 refine hK.out _ _ hS5 (fun hHeld => ?_)
 clear hK K
 refine tK 14 ?_ rfl (by kernel_rfl) (by rfl) ?_ (by assumption) (fun _ _ _ h => h) ?_
 case refine_2 => (intro w hSw; (try dsimp only at hSw); go_simp; try with_reducible rfl)
 simp only [Act.put, zGA, zG0, zGC, zSA, zS0, zSC]
 refine wpAnyH_done (by kernel_rfl) ?_ _
 refine NoPanic.normal ?_
 go_wp2_with fail
 go_ret
 exact ⟨rfl, bl_trans (Below.refl _ _).drew hb5⟩
/-- What is older than the oldest has gone. -/
def DropD (B b : Nat) (A : Na) (f d : Nat) (v : Rv) (sa : Option Addr) (s sc : Nat) (ys : List Sa) (w : World) (e : Ending) (w' : World) : Prop := e = .returned (.tuple #[]) ∧ ∃ P', RBody B b A P' (f + d) { v with it := v.it.drop d } sa s sc ys w' ∧ w.grownBy w' (some b)
set_option maxRecDepth 100000 in
set_option maxHeartbeats 4000000 in
theorem dropOld_any (B b : Nat) (A : Na) (P : Nat → Tm) (f : Nat) (v : Rv) (sa : Option Addr) (s sc : Nat) (ys : List Sa) (w : World) (hR : RBody B b A P f v sa s sc ys w) (hs : s ≤ 2097152) (hse : 0 ≤ v.se ∧ v.se ≤ 1000000000) (hcp : 1 ≤ v.cp ∧ v.cp ≤ 16) (d : Nat) (hd : d ≤ v.it.length) (ho : oldR v = ((f + d : Nat) : Int)) :
    Calls Tryz.prog 146 #[.pointer (some ⟨b, 0, none⟩)] w fun e w' => DropD B b A f d v sa s sc ys w e w' := by
  have HRd := hidOf (hR.keep (Below.refl _ _).drew)
  have HR := hidOf hR
  have HC := hidOf (oldest_any B b A P f v sa s sc ys w.drew HRd.out hs hse hcp)
  have HO := hidOf ho.symm
  clear hR hs hse hcp ho
  generalize hov : oldR v = ov at *
  have HOv := hidOf hov
  clear hov
  go_enter Tryz.func146, Tryz.ntmps146
  go_upto_region 0 with fail
  refine wp_region_noPanic ?_
  refine wp_region_held_drew (S := fun _ => True) (by kernel_rfl) True.intro (fun hHeld => ?_)
  refine tK 0 ?_ rfl (by kernel_rfl) (by rfl) ?_ (by assumption) (fun _ _ _ h => h) ?_
  case refine_2 => (intro w hSw; (try dsimp only at hSw); go_simp; try with_reducible rfl)
  simp only [Act.put, List.getElem_toArray, List.getElem_cons_zero, List.setIfInBounds_toArray, List.set_cons_zero, List.set_cons_succ]
  refine tK 1 ?_ rfl (by kernel_rfl) (by rfl) ?_ (by assumption) (fun _ _ _ h => h) ?_
  case refine_2 => (intro w hSw; (try dsimp only at hSw); go_simp; try with_reducible rfl)
  simp only [Act.put, zGA, zG0, zGC, zSA, zS0, zSC]
  refine tK 2 ?_ rfl (by kernel_rfl) (by rfl) ?_ (by assumption) (fun _ _ _ h => h) ?_
  case refine_2 => (intro w hSw; (try dsimp only at hSw); go_simp; try with_reducible rfl)
  simp only [Act.put, zGA, zG0, zGC, zSA, zS0, zSC]
  refine tK 3 ?_ rfl (by kernel_rfl) (by rfl) ?_ (by assumption) (fun _ _ _ h => h) ?_
  case refine_2 => (intro w hSw; (try dsimp only at hSw); go_simp; try with_reducible rfl)
  simp only [Act.put, zGA, zG0, zGC, zSA, zS0, zSC]
  refine wpAnyH_ready (rs := [4]) (by kernel_rfl) (by simp) ?_
  refine AllReadyH.cons rfl (fun K hK => ?_) AllReadyH.nil
  go_simp
  refine (HC.out).mono ?_
  rintro e w5 ⟨rfl, hb5⟩
  go_wp2_with fail
  refine hK.out _ _ True.intro (fun hHeld => ?_)
  clear hK K
  have body5 := HRd.out.keep hb5
  have HD := hidOf (dropUpTo_any b 3 f d v.it.length P w5 body5.rnd body5.fst hd (by have := HR.out.few.1; omega) (by have := HR.out.few.2; omega))
  rw [HO.out] at HD
  refine wpAnyH_ready (rs := [5]) (by kernel_rfl) (by simp) ?_
  refine AllReadyH.cons rfl (fun K hK => ?_) AllReadyH.nil
  go_simp
  refine (HD.out).mono ?_
  rintro e w6 ⟨rfl, P', hD6⟩
  go_wp2_with fail
  refine hK.out _ _ True.intro (fun hHeld => ?_)
  clear hK K
  refine wpAnyH_done (by kernel_rfl) ?_ _
  refine NoPanic.normal ?_
  go_wp2_with fail
  go_end0
  have bd : Below w.heap.size w w5 := bl_trans (Below.refl _ _).drew hb5
  exact ⟨rfl, P', body5.drop hD6 hd, (grown_of bd).trans hD6.grown⟩
end Go.Proofs.YtihdglmiecifjaaGreat
namespace Go.Proofs.YtihdglmiecifjaaGreat
open Go.RowKit Go.Maps Pl Il
/-- A subscriber's place in memory. -/
theorem RBody.sub_row {B b : Nat} {A : Na} {P : Nat → Tm} {f : Nat} {v : Rv} {sa : Option Addr} {s sc : Nat} {ys : List Sa} {w : World} (h : RBody B b A P f v sa s sc ys w) {k : Nat} (hk : k < v.sb.length) : ∃ g, sa = some ⟨g, 0, none⟩ ∧ s = ys.length ∧ k < ys.length := by
  have hl : ys.length = v.sb.length := by rw [← h.sv]; simp [svs]
  obtain ⟨h1, ⟨e, e0⟩ | ⟨g, cp, cur, e, _⟩⟩ := h.srow.sb
  · rw [e0, length_sflat] at h1; omega
  · injection e with e1
    exact ⟨g, e1, by rw [length_sflat] at h1; omega, by omega⟩
theorem RBody.mono {B B' b : Nat} {A : Na} {P : Nat → Tm} {f : Nat} {v : Rv} {sa : Option Addr} {s sc : Nat} {ys : List Sa} {w : World} (h : RBody B b A P f v sa s sc ys w) (hb : B' ≤ B) : RBody B' b A P f v sa s sc ys w :=
  ⟨⟨h.wst.lt, Nat.le_trans hb h.wst.ge, h.wst.c0, h.wst.c1, h.wst.fr, ⟨rowM h.wst.rows.one hb, rowM h.wst.rows.two hb, h.wst.rows.ne⟩, h.wst.ne1, h.wst.ne2⟩, h.rnd, h.c2, h.fst, h.nxt, h.c56, h.c57, h.c58, h.srow.mono hb, h.sv, h.its, h.sh, h.se, h.few, h.nb, h.ap⟩
set_option maxRecDepth 100000 in
set_option maxHeartbeats 4000000 in
theorem sub_any (B b : Nat) (A : Na) (P : Nat → Tm) (f : Nat) (v : Rv) (g s sc : Nat) (ys : List Sa) (id : Int) (w : World) (hR : RBody B b A P f v (some ⟨g, 0, none⟩) s sc ys w) (hs : s ≤ 2097152) (k : Nat) (hat : atR v.sb id = (k : Int)) (hk : k < s) :
  Calls Tryz.prog 103 #[.pointer (some ⟨b, 0, none⟩), .int .i64 id] w fun e w' => e = .returned (.pointer (some ⟨g, k * 7, none⟩)) ∧ Below w.heap.size w w' := by
 have hH := hR.s
 have HC := hidOf (placeOfSub_any (some ⟨g, 0, none⟩) s sc ys id w.drew (hR.srow.keep (Below.refl _ _).drew).sub hs)
 rw [hR.sv, hat] at HC
 have hki : (k : Int) < (s : Int) := by omega
 clear hR hat
 go_enter Tryz.func103, Tryz.ntmps103
 go_upto_region 1 with fail
 refine wp_region_noPanic ?_
 refine wp_region_held_drew (S := fun w' => RbS b A v (some ⟨g, 0, none⟩) s sc w') (by kernel_rfl) hH.drew (fun hHeld => ?_)
 refine tK 0 ?_ rfl (by kernel_rfl) (by rfl) ?_ (by assumption) (fun _ _ _ h => h) ?_
 case refine_2 => (intro w hSw; (try dsimp only at hSw); go_simp; try with_reducible rfl)
 simp only [Act.put, List.getElem_toArray, List.getElem_cons_zero, List.setIfInBounds_toArray, List.set_cons_zero, List.set_cons_succ]
 refine tK 1 ?_ rfl (by kernel_rfl) (by rfl) ?_ (by assumption) (fun _ _ _ h => h) ?_
 case refine_2 => (intro w hSw; (try dsimp only at hSw); go_simp; try with_reducible rfl)
 simp only [Act.put, zGA, zG0, zGC, zSA, zS0, zSC]
 refine tK 2 ?_ rfl (by kernel_rfl) (by rfl) ?_ (by assumption) (fun _ _ _ h => h) ?_
 case refine_2 => (intro w hSw; (try dsimp only at hSw); go_simp; try with_reducible rfl)
 simp only [Act.put, zGA, zG0, zGC, zSA, zS0, zSC]
 refine tK 3 ?_ rfl (by kernel_rfl) (by rfl) ?_ (by assumption) (fun _ _ _ h => h) ?_
 case refine_2 => (intro w hSw; (try dsimp only at hSw); go_simp; try with_reducible rfl)
 simp only [Act.put, zGA, zG0, zGC, zSA, zS0, zSC]
 refine tK 4 ?_ rfl (by kernel_rfl) (by rfl) ?_ (by assumption) (fun _ _ _ h => h) ?_
 case refine_2 => (intro w hSw; (try dsimp only at hSw); go_simp; try with_reducible rfl)
 simp only [Act.put, zGA, zG0, zGC, zSA, zS0, zSC]
 refine tK 5 ?_ rfl (by kernel_rfl) (by rfl) ?_ (by assumption) (fun _ _ _ h => h) ?_
 case refine_2 => (intro w hSw; (try dsimp only at hSw); go_simp; try with_reducible rfl)
 simp only [Act.put, zGA, zG0, zGC, zSA, zS0, zSC]
 refine tK 6 ?_ rfl (by kernel_rfl) (by rfl) ?_ (by assumption) (fun _ _ _ h => h) ?_
 case refine_2 => (intro w hSw; (try dsimp only at hSw); go_simp; try with_reducible rfl)
 simp only [Act.put, zGA, zG0, zGC, zSA, zS0, zSC]
 refine tK 7 ?_ rfl (by kernel_rfl) (by rfl) ?_ (by assumption) (fun _ _ _ h => h) ?_
 case refine_2 => (intro w hSw; (try dsimp only at hSw); go_simp; try with_reducible rfl)
 simp only [Act.put, zGA, zG0, zGC, zSA, zS0, zSC]
 refine tK 8 ?_ rfl (by kernel_rfl) (by rfl) ?_ (by assumption) (fun _ _ _ h => h) ?_
 case refine_2 => (intro w hSw; (try dsimp only at hSw); go_simp; try with_reducible rfl)
 simp only [Act.put, zGA, zG0, zGC, zSA, zS0, zSC]
 refine wpAnyH_ready (rs := [9]) (by kernel_rfl) (by simp) ?_
 refine AllReadyH.cons rfl (fun K hK => ?_) AllReadyH.nil
 go_simp
 refine (HC.out).mono ?_
 rintro e w5 ⟨rfl, hb5⟩
 go_wp2_with fail
 have hS5 := RbS.keep hHeld hb5
 refine hK.out _ _ hS5 (fun hHeld => ?_)
 clear hK K
 refine tK 10 ?_ rfl (by kernel_rfl) (by rfl) ?_ (by assumption) (fun _ _ _ h => h) ?_
 case refine_2 => (intro w hSw; (try dsimp only at hSw); go_simp; try with_reducible rfl)
 simp only [Act.put, zGA, zG0, zGC, zSA, zS0, zSC]
 refine tK 11 ?_ rfl (by kernel_rfl) (by rfl) ?_ (by assumption) (fun _ _ _ h => h) ?_
 case refine_2 => (intro w hSw; (try dsimp only at hSw); go_simp; try with_reducible rfl)
 simp only [Act.put, zGA, zG0, zGC, zSA, zS0, zSC]
 refine wpAnyH_done (by kernel_rfl) ?_ _
 refine NoPanic.normal ?_
 go_wp2_with fail
 go_ret
 exact ⟨rfl, bl_trans (Below.refl _ _).drew hb5⟩
end Go.Proofs.YtihdglmiecifjaaGreat
namespace Go.Proofs.YtihdglmiecifjaaGreat
open Go.RowKit Go.Maps Pl Il
theorem passM_eq {fl : List Tm} {m1 m2 : Int} {m3 : ByteArray} (h1 : okF fl = true) (h2 : okB m1 m2 m3 = true) : passM fl m1 m2 m3 = pasR fl (m1, m2, m3) := by
  unfold passM pasR
  rw [h1, h2]
  rfl
theorem GOk.grown {w w' : World} {q : Option Nat} (h : GOk w) (hg : w.grownBy w' q) (hq : q ≠ some 0) : GOk w' := by
  obtain ⟨m, hm⟩ := h
  have hl : 0 < w.heap.size := by
    rcases Nat.lt_or_ge 0 w.heap.size with h | h
    · exact h
    · unfold World.cell? at hm
      rw [Array.getElem?_eq_none h] at hm
      cases hm
  exact ⟨m, by rw [← hm]; exact World.cell?_of_block (hg.block _ hl (fun e => hq e.symm))⟩
theorem GOk.lt {w : World} (h : GOk w) : 0 < w.heap.size := by
  obtain ⟨m, hm⟩ := h
  rcases Nat.lt_or_ge 0 w.heap.size with h | h
  · exact h
  · unfold World.cell? at hm
    rw [Array.getElem?_eq_none h] at hm
    cases hm
end Go.Proofs.YtihdglmiecifjaaGreat
namespace Go.Proofs.YtihdglmiecifjaaGreat
open Go.RowKit Go.Maps Pl Il
theorem RBody.belowB {B b : Nat} {A : Na} {P : Nat → Tm} {f : Nat} {v : Rv} {sa : Option Addr} {s sc : Nat} {ys : List Sa} {u u' : World} {K : Nat} (h : RBody B b A P f v sa s sc ys u) (hb : Below K u u') (hlt : b < K ∧ (∀ q, (Value.slice A.a A.n A.c).ownBlock = some q → q < K) ∧ (∀ q, (Value.slice A.a' A.n' A.c').ownBlock = some q → q < K) ∧ (∀ q, (Value.slice sa s sc).ownBlock = some q → q < K) ∧ ∀ x, x ∈ ys → ∀ q, (Value.slice x.a x.n x.c).ownBlock = some q → q < K) : RBody B b A P f v sa s sc ys u' := by
  obtain ⟨h0, h1, h2, h3, h4⟩ := hlt
  have key := hb.block b h0
  have ct : ∀ j, u'.cell? ⟨b, j, none⟩ = u.cell? ⟨b, j, none⟩ := fun j => World.cell?_of_block key
  refine ⟨⟨Nat.lt_of_lt_of_le h.wst.lt hb.size, h.wst.ge, by rw [ct]; exact h.wst.c0, by rw [ct]; exact h.wst.c1, fun o => by rw [← h.wst.fr o]; exact World.frozen?_of_block key, ⟨rowB h.wst.rows.one hb h1, rowB h.wst.rows.two hb h2, h.wst.rows.ne⟩, h.wst.ne1, h.wst.ne2⟩, ⟨?_, fun j hj => ?_⟩, by rw [ct]; exact h.c2, by rw [ct]; exact h.fst, by rw [ct]; exact h.nxt, by rw [ct]; exact h.c56, by rw [ct]; exact h.c57, by rw [ct]; exact h.c58, ⟨rowB h.srow.sb hb h3, fun x hx => rowB (h.srow.fl x hx) hb (h4 x hx), h.srow.fls, h.srow.apt⟩, h.sv, h.its, h.sh, h.se, h.few, h.nb, h.ap⟩
  · obtain ⟨cur, t, hc, hs1⟩ := h.rnd.blk
    exact ⟨cur, t, by rw [key]; exact hc, hs1⟩
  · obtain ⟨q1, q2, q3⟩ := h.rnd.pl j hj
    exact ⟨by rw [ct]; exact q1, by rw [ct]; exact q2, by rw [ct]; exact q3⟩
/-- A body's blocks are below its world's size. -/
theorem RBody.blks {B b : Nat} {A : Na} {P : Nat → Tm} {f : Nat} {v : Rv} {sa : Option Addr} {s sc : Nat} {ys : List Sa} {w : World} (h : RBody B b A P f v sa s sc ys w) : b < w.heap.size ∧ (∀ q, (Value.slice A.a A.n A.c).ownBlock = some q → q < w.heap.size) ∧ (∀ q, (Value.slice A.a' A.n' A.c').ownBlock = some q → q < w.heap.size) ∧ (∀ q, (Value.slice sa s sc).ownBlock = some q → q < w.heap.size) ∧ ∀ x, x ∈ ys → ∀ q, (Value.slice x.a x.n x.c).ownBlock = some q → q < w.heap.size :=
  ⟨h.wst.lt, fun _ e => (row_lt h.wst.rows.one e).2, fun _ e => (row_lt h.wst.rows.two e).2, fun _ e => (row_lt h.srow.sb e).2, fun x hx _ e => (row_lt (h.srow.fl x hx) e).2⟩
abbrev FmS (g k : Nat) (x : Sa) (NM : Nat) (m1 m2 : Int) (m3 : ByteArray) (u : World) : Prop := u.cell? ⟨g, k * 7 + 6, none⟩ = some (.slice x.a x.n x.c) ∧ u.cell? ⟨NM, 0, none⟩ = some (.int .i64 m1) ∧ u.cell? ⟨NM, 1, none⟩ = some (.int .i64 m2) ∧ u.cell? ⟨NM, 2, none⟩ = some (.string m3)
theorem FmS.keep {g k : Nat} {x : Sa} {NM : Nat} {m1 m2 : Int} {m3 : ByteArray} {u u' : World} {K : Nat} (h : FmS g k x NM m1 m2 m3 u) (hb : Below K u u') (hl : g < K ∧ NM < K) : FmS g k x NM m1 m2 m3 u' :=
  ⟨by rw [hb.cell (p := ⟨g, k * 7 + 6, none⟩) hl.1]; exact h.1, by rw [hb.cell (p := ⟨NM, 0, none⟩) hl.2]; exact h.2.1, by rw [hb.cell (p := ⟨NM, 1, none⟩) hl.2]; exact h.2.2.1, by rw [hb.cell (p := ⟨NM, 2, none⟩) hl.2]; exact h.2.2.2⟩
end Go.Proofs.YtihdglmiecifjaaGreat
namespace Go.Proofs.YtihdglmiecifjaaGreat
open Go.RowKit Go.Maps Pl Il
theorem rowQ {B : Nat} {w w' : World} {t : TypeId} {s : Nat} {v : Value} {n : Nat} {xs : List Value} (h : w.ownsRow B t s v n xs) (hq : ∀ q, v.ownBlock = some q → w'.heap[q]? = w.heap[q]?) : w'.ownsRow B t s v n xs := by
  obtain ⟨hl, hn | ⟨g, cap, cur, rfl, hB, hg, hr⟩⟩ := h
  · exact ⟨hl, .inl hn⟩
  · exact ⟨hl, .inr ⟨g, cap, cur, rfl, hB, by rw [hq g rfl]; exact hg, hr⟩⟩
end Go.Proofs.YtihdglmiecifjaaGreat
