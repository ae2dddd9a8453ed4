/-
  What the law on Send holds on to.
  The plain mathematics of sending: who is told, who stays, what goes.
  The program's ring: a message more in its round.
-/
import Derived.Test.YtihdglmiecifjaaGreatZRa58
import Derived.Test.YtihdglmiecifjaaGreatZRa70
import Derived.Deep.RegionHeld3
import Derived.Deep.CutRange
import Derived.Test.YtihdglmiecifjaaGreatZRa67
import Derived.Test.YtihdglmiecifjaaGreatZRa72
namespace Go.Proofs.YtihdglmiecifjaaGreat
open Go.RowKit Pl Il

abbrev LawM (w : World) (M : Rm) (v : Rv) (y : Tm) (N : Nat) (M2 : Rm) (u : World) : Prop :=
  u.cell? ⟨w.heap.size, 0, none⟩ = some (.int .i64 v.cp) ∧ u.cell? ⟨w.heap.size, 1, none⟩ = some (.int .i64 v.se) ∧ u.cell? ⟨w.heap.size, 2, none⟩ = some (.slice M.ia M.i M.ic) ∧ u.cell? ⟨w.heap.size, 3, none⟩ = some (.int .i64 v.nx) ∧ u.cell? ⟨w.heap.size, 4, none⟩ = some (.slice M.sa M.s M.sc) ∧ u.cell? ⟨w.heap.size, 5, none⟩ = some (.slice M.la M.l M.lc) ∧ u.cell? ⟨w.heap.size, 6, none⟩ = some (.slice M.ga M.g M.gc) ∧ u.cell? ⟨w.heap.size, 7, none⟩ = some (.bool v.cl) ∧ u.cell? ⟨w.heap.size + 1, 0, none⟩ = some (.int .i64 y.1) ∧ u.cell? ⟨w.heap.size + 1, 1, none⟩ = some (.int .i64 y.2.1) ∧ u.cell? ⟨w.heap.size + 1, 2, none⟩ = some (.string y.2.2) ∧ u.cell? ⟨N, 0, none⟩ = some (.int .i64 v.cp) ∧ u.cell? ⟨N, 1, none⟩ = some (.int .i64 v.se) ∧ u.cell? ⟨N, 2, none⟩ = some (.slice M2.ia M2.i M2.ic) ∧ u.cell? ⟨N, 3, none⟩ = some (.int .i64 v.nx) ∧ u.cell? ⟨N, 4, none⟩ = some (.slice M2.sa M2.s M2.sc) ∧ u.cell? ⟨N, 5, none⟩ = some (.slice M2.la M2.l M2.lc) ∧ u.cell? ⟨N, 6, none⟩ = some (.slice M2.ga M2.g M2.gc) ∧ u.cell? ⟨N, 7, none⟩ = some (.bool v.cl) ∧ BoxL w.heap.size (rC M v) u ∧ BoxL (w.heap.size + 1) [.int .i64 y.1, .int .i64 y.2.1, .string y.2.2] u ∧ BoxL N (rC M2 v) u ∧ Below w.heap.size w u
section
variable {w : World} {M : Rm} {v : Rv} {y : Tm} {N : Nat} {M2 : Rm} {u u' : World}
theorem LawM.mk' (h1 : BoxL w.heap.size (rC M v) u) (h2 : BoxL (w.heap.size + 1) [.int .i64 y.1, .int .i64 y.2.1, .string y.2.2] u) (h3 : BoxL N (rC M2 v) u) (h4 : Below w.heap.size w u) : LawM w M v y N M2 u :=
  ⟨h1.cs 0 (by simp), h1.cs 1 (by simp), h1.cs 2 (by simp), h1.cs 3 (by simp), h1.cs 4 (by simp), h1.cs 5 (by simp), h1.cs 6 (by simp), h1.cs 7 (by simp), h2.cs 0 (by simp), h2.cs 1 (by simp), h2.cs 2 (by simp), h3.cs 0 (by simp), h3.cs 1 (by simp), h3.cs 2 (by simp), h3.cs 3 (by simp), h3.cs 4 (by simp), h3.cs 5 (by simp), h3.cs 6 (by simp), h3.cs 7 (by simp), h1, h2, h3, h4⟩
theorem LawM.b1 (h : LawM w M v y N M2 u) : BoxL w.heap.size (rC M v) u := h.2.2.2.2.2.2.2.2.2.2.2.2.2.2.2.2.2.2.2.1
theorem LawM.b2 (h : LawM w M v y N M2 u) : BoxL (w.heap.size + 1) [.int .i64 y.1, .int .i64 y.2.1, .string y.2.2] u := h.2.2.2.2.2.2.2.2.2.2.2.2.2.2.2.2.2.2.2.2.1
theorem LawM.b3 (h : LawM w M v y N M2 u) : BoxL N (rC M2 v) u := h.2.2.2.2.2.2.2.2.2.2.2.2.2.2.2.2.2.2.2.2.2.1
theorem LawM.bel (h : LawM w M v y N M2 u) : Below w.heap.size w u := h.2.2.2.2.2.2.2.2.2.2.2.2.2.2.2.2.2.2.2.2.2.2
theorem LawM.keep (h : LawM w M v y N M2 u) (hb : Below u.heap.size u u') : LawM w M v y N M2 u' := LawM.mk' (h.b1.keep hb) (h.b2.keep hb) (h.b3.keep hb) (bl_trans h.bel hb)
theorem LawM.drew (h : LawM w M v y N M2 u) : LawM w M v y N M2 u.drew := h.keep (Below.refl _ _).drew
end
theorem BoxL.turnN {N : Nat} {vs : List Value} {ls : List (Option Addr × Nat)} {w w' : World} (h : BoxL N vs w) (ht : TurnL ls w w') (hn : ∀ p, p ∈ ls → p.2 = 0 ∨ ∀ b off, p.1 = some ⟨b, off, none⟩ → b ≠ N) : BoxL N vs w' :=
  h.of_block (ht.block N h.lt fun p hp h0 off e => by
    rcases hn p hp with q | q
    · omega
    · exact q _ _ e rfl) (Nat.lt_of_lt_of_le h.lt ht.size)
/-- What a call's three answers are once they are stored. -/
structure RsR (u : World) (r : Rv) (td : List Int) (R : Nat) (M6 : Rm) (t6 : Option Addr) (n6 : Nat) (wx : World) : Prop where
  box : BoxL R (rC M6 r) wx
  own : ROwn u.heap.size wx M6 r
  le : RLe M6 2097152
  told : Il.OwnAt u.heap.size wx t6 n6 td
  tn : n6 ≤ 2097152
  far : ∀ p, p ∈ allR M6 → Far p.1 p.2 t6 n6
  ge : u.heap.size ≤ R
  nr : ∀ p, p ∈ allR M6 → p.2 = 0 ∨ ∀ b off, p.1 = some ⟨b, off, none⟩ → b ≠ R
  nt : n6 = 0 ∨ ∀ b off, t6 = some ⟨b, off, none⟩ → b ≠ R
  below : Below u.heap.size u wx
section
variable {u c x : World} {r : Rv} {td : List Int} {R : Nat} {M6 : Rm} {t6 : Option Addr} {n6 : Nat}
theorem RsR.last (hu : Below u.heap.size u c) (ho : ROwn c.heap.size x M6 r) (hl : RLe M6 2097152) (ht : Il.OwnAt c.heap.size x t6 n6 td) (hn : n6 ≤ 2097152) (hf : ∀ p, p ∈ allR M6 → Far p.1 p.2 t6 n6) (hb : Below c.heap.size c x) (t : TypeId) : RsR u r td x.heap.size M6 t6 n6 (x.alloc (.cells #[.int .i64 r.cp, .int .i64 r.se, .slice M6.ia M6.i M6.ic, .int .i64 r.nx, .slice M6.sa M6.s M6.sc, .slice M6.la M6.l M6.lc, .slice M6.ga M6.g M6.gc, .bool r.cl] t)) := by
  have b1 : Below x.heap.size x (x.alloc (.cells #[.int .i64 r.cp, .int .i64 r.se, .slice M6.ia M6.i M6.ic, .int .i64 r.nx, .slice M6.sa M6.s M6.sc, .slice M6.la M6.l M6.lc, .slice M6.ga M6.g M6.gc, .bool r.cl] t)) := bl_alloc (Below.refl _ _) _
  refine ⟨BoxL.new x (rC M6 r) t, (ho.keep b1).mono hu.size, hl, (ht.keep b1).mono hu.size, hn, hf, Nat.le_trans hu.size hb.size, fun p hp => ?_, ?_, bl_trans (bl_trans hu hb) b1⟩
  · rcases ho.rin.und p hp with k | k
    · exact .inl k
    · exact .inr fun b off e => by have := k b off e; omega
  · rcases und_ints ht.ints with k | k
    · exact .inl k
    · exact .inr fun b off e => by have := k b off e; omega
theorem RsR.first (hu : Below u.heap.size u c) (ho : ROwn c.heap.size x M6 r) (hl : RLe M6 2097152) (ht : Il.OwnAt c.heap.size x t6 n6 td) (hn : n6 ≤ 2097152) (hf : ∀ p, p ∈ allR M6 → Far p.1 p.2 t6 n6) (hb : Below c.heap.size c x) (hR : u.heap.size ≤ R) (hc : R < c.heap.size) (z : BoxL R [.int .i64 0, .int .i64 0, .slice none 0 0, .int .i64 0, .slice none 0 0, .slice none 0 0, .slice none 0 0, .bool false] x) : RsR u r td R M6 t6 n6 ((((((((x.setCell ⟨R, 0, none⟩ (.int .i64 r.cp)).setCell ⟨R, 1, none⟩ (.int .i64 r.se)).setCell ⟨R, 2, none⟩ (.slice M6.ia M6.i M6.ic)).setCell ⟨R, 3, none⟩ (.int .i64 r.nx)).setCell ⟨R, 4, none⟩ (.slice M6.sa M6.s M6.sc)).setCell ⟨R, 5, none⟩ (.slice M6.la M6.l M6.lc)).setCell ⟨R, 6, none⟩ (.slice M6.ga M6.g M6.gc)).setCell ⟨R, 7, none⟩ (.bool r.cl)) := by
  have hab := ho.abv
  have hat := abv_ints ht
  have hg : x.grownBy ((((((((x.setCell ⟨R, 0, none⟩ (.int .i64 r.cp)).setCell ⟨R, 1, none⟩ (.int .i64 r.se)).setCell ⟨R, 2, none⟩ (.slice M6.ia M6.i M6.ic)).setCell ⟨R, 3, none⟩ (.int .i64 r.nx)).setCell ⟨R, 4, none⟩ (.slice M6.sa M6.s M6.sc)).setCell ⟨R, 5, none⟩ (.slice M6.la M6.l M6.lc)).setCell ⟨R, 6, none⟩ (.slice M6.ga M6.g M6.gc)).setCell ⟨R, 7, none⟩ (.bool r.cl)) (some R) := setL_grown (g := R) (o := 0) (vs := rC M6 r) ⟨rfl, rfl, rfl, Nat.le_refl _, fun _ _ _ => rfl⟩
  have hX : BoxL R (rC M6 r) ((((((((x.setCell ⟨R, 0, none⟩ (.int .i64 r.cp)).setCell ⟨R, 1, none⟩ (.int .i64 r.se)).setCell ⟨R, 2, none⟩ (.slice M6.ia M6.i M6.ic)).setCell ⟨R, 3, none⟩ (.int .i64 r.nx)).setCell ⟨R, 4, none⟩ (.slice M6.sa M6.s M6.sc)).setCell ⟨R, 5, none⟩ (.slice M6.la M6.l M6.lc)).setCell ⟨R, 6, none⟩ (.slice M6.ga M6.g M6.gc)).setCell ⟨R, 7, none⟩ (.bool r.cl)) := z.setAll (us := rC M6 r) rfl
  refine ⟨hX, (((((((((ho).far R 0 hc _).far R 1 hc _).far R 2 hc _).far R 3 hc _).far R 4 hc _).far R 5 hc _).far R 6 hc _).far R 7 hc _).mono hu.size, hl, (((((((((ht).far R 0 hc _).far R 1 hc _).far R 2 hc _).far R 3 hc _).far R 4 hc _).far R 5 hc _).far R 6 hc _).far R 7 hc _).mono hu.size, hn, hf, hR, fun p hp => ?_, ?_, (bl_trans hu hb).grown hg (by have := hu.size; have := hb.size; omega) (fun q e => by injection e with e; omega)⟩
  · rcases hab p hp with k | k
    · exact .inl k
    · exact .inr fun b off e => by have := k b off e; omega
  · rcases hat with k | k
    · exact .inl k
    · exact .inr fun b off e => by have := k b off e; omega
end
end Go.Proofs.YtihdglmiecifjaaGreat
namespace Go.Proofs.YtihdglmiecifjaaGreat
open Go.RowKit Go.Maps Pl Il

/-- The filter of the one with that Id. -/
def flAt (sb : List Sb) (id : Int) : List Tm := (sb.getD (atR sb id).toNat Sb0).fl
/-- One message more was passed by. -/
def bump (sb : List Sb) (k : Nat) : List Sb := sb.set k (passS (sb.getD k Sb0) 1)
theorem bump_len (sb : List Sb) (k : Nat) : (bump sb k).length = sb.length := by simp [bump]
theorem bump_get (sb : List Sb) (k j : Nat) (hj : j < sb.length) : (bump sb k).getD j Sb0 = if k = j then passS (sb.getD j Sb0) 1 else sb.getD j Sb0 := by
  unfold bump
  rw [List.getD_eq_getElem?_getD, List.getElem?_set]
  by_cases h : k = j
  · subst h
    rw [if_pos rfl, if_pos hj, if_pos rfl]
    rfl
  · rw [if_neg h, if_neg h, ← List.getD_eq_getElem?_getD]
theorem bump_ids (sb : List Sb) (k : Nat) : (bump sb k).map (·.id) = sb.map (·.id) := by
  refine List.ext_getElem (by simp [bump]) fun i h1 h2 => ?_
  have hi : i < sb.length := by simpa using h2
  simp only [bump, List.getElem_map, List.getElem_set]
  split
  · rename_i h
    subst h
    rw [List.getD, List.getElem?_eq_getElem hi, Option.getD_some]
    rfl
  · rfl
theorem atR_ids {sb sb' : List Sb} (h : sb'.map (·.id) = sb.map (·.id)) (id : Int) : atR sb' id = atR sb id := by
  have key : ∀ l : List Sb, l.findIdx? (fun s => s.id == id) = (l.map (·.id)).findIdx? (fun x => x == id) := fun l => by
    rw [List.findIdx?_map]
    rfl
  unfold atR
  rw [key, key, h]
theorem bump_fls (sb : List Sb) (k j : Nat) : ((bump sb k).getD j Sb0).fl = (sb.getD j Sb0).fl := by
  by_cases hj : j < sb.length
  · rw [bump_get _ _ _ hj]
    split <;> rfl
  · unfold bump
    simp only [List.getD_eq_getElem?_getD]
    rw [List.getElem?_eq_none (by simp; omega), List.getElem?_eq_none (l := sb) (by omega)]
/-- Who is told of those in l, who stays, and what the subscribers are behind it. -/
def sndT (sb : List Sb) (m : Tm) (l : List Int) : List Int := l.filter fun id => pasR (flAt sb id) m
def sndS (sb : List Sb) (m : Tm) (l : List Int) : List Int := l.filter fun id => !pasR (flAt sb id) m
def sndB (sb : List Sb) (m : Tm) (l : List Int) : List Sb := l.foldl (fun s id => if pasR (flAt sb id) m = true then s else bump s (atR sb id).toNat) sb
theorem sndT_snoc (sb : List Sb) (m : Tm) (l : List Int) (id : Int) : sndT sb m (l ++ [id]) = if pasR (flAt sb id) m = true then sndT sb m l ++ [id] else sndT sb m l := by
  unfold sndT
  rw [List.filter_append]
  by_cases h : pasR (flAt sb id) m = true
  · rw [if_pos h]; simp [h]
  · rw [if_neg h]; simp [h]
theorem sndS_snoc (sb : List Sb) (m : Tm) (l : List Int) (id : Int) : sndS sb m (l ++ [id]) = if pasR (flAt sb id) m = true then sndS sb m l else sndS sb m l ++ [id] := by
  unfold sndS
  rw [List.filter_append]
  by_cases h : pasR (flAt sb id) m = true
  · rw [if_pos h]; simp [h]
  · rw [if_neg h]; simp [h]
theorem sndB_snoc (sb : List Sb) (m : Tm) (l : List Int) (id : Int) : sndB sb m (l ++ [id]) = if pasR (flAt sb id) m = true then sndB sb m l else bump (sndB sb m l) (atR sb id).toNat := by
  unfold sndB
  rw [List.foldl_append]
  rfl
theorem sndB_len (sb : List Sb) (m : Tm) : ∀ l : List Int, (sndB sb m l).length = sb.length := by
  suffices h : ∀ (l : List Int) (s : List Sb), (l.foldl (fun s id => if pasR (flAt sb id) m = true then s else bump s (atR sb id).toNat) s).length = s.length from fun l => h l sb
  intro l
  induction l with
  | nil => intro s; rfl
  | cons id l ih =>
    intro s
    rw [List.foldl_cons, ih]
    split
    · rfl
    · exact bump_len _ _
theorem sndB_ids (sb : List Sb) (m : Tm) : ∀ l : List Int, (sndB sb m l).map (·.id) = sb.map (·.id) := by
  suffices h : ∀ (l : List Int) (s : List Sb), (l.foldl (fun s id => if pasR (flAt sb id) m = true then s else bump s (atR sb id).toNat) s).map (·.id) = s.map (·.id) from fun l => h l sb
  intro l
  induction l with
  | nil => intro s; rfl
  | cons id l ih =>
    intro s
    rw [List.foldl_cons, ih]
    split
    · rfl
    · exact bump_ids _ _
theorem sndB_fls (sb : List Sb) (m : Tm) (j : Nat) : ∀ l : List Int, ((sndB sb m l).getD j Sb0).fl = (sb.getD j Sb0).fl := by
  suffices h : ∀ (l : List Int) (s : List Sb), ((l.foldl (fun s id => if pasR (flAt sb id) m = true then s else bump s (atR sb id).toNat) s).getD j Sb0).fl = (s.getD j Sb0).fl from fun l => h l sb
  intro l
  induction l with
  | nil => intro s; rfl
  | cons id l ih =>
    intro s
    rw [List.foldl_cons, ih]
    split
    · rfl
    · exact bump_fls _ _ _
/-- The cursors do not fall. -/
theorem sndB_cu (sb : List Sb) (m : Tm) (x : Int) (h : ∀ s, s ∈ sb → x ≤ s.cu) : ∀ l : List Int, ∀ s, s ∈ sndB sb m l → x ≤ s.cu := by
  suffices h' : ∀ (l : List Int) (t : List Sb), (∀ s, s ∈ t → x ≤ s.cu) → 0 ≤ (1 : Int) → (∀ id, id ∈ l → (atR sb id).toNat < t.length ∨ pasR (flAt sb id) m = true ∨ True) → ∀ s, s ∈ l.foldl (fun s id => if pasR (flAt sb id) m = true then s else bump s (atR sb id).toNat) t → x ≤ s.cu from fun l => h' l sb h (by omega) (fun _ _ => .inr (.inr trivial))
  intro l
  induction l with
  | nil => intro t ht _ _; exact ht
  | cons id l ih =>
    intro t ht h1 _
    rw [List.foldl_cons]
    refine ih _ ?_ h1 (fun _ _ => .inr (.inr trivial))
    split
    · exact ht
    · intro s hs
      by_cases hk : (atR sb id).toNat < t.length
      · rcases List.mem_or_eq_of_mem_set hs with h2 | h2
        · exact ht s h2
        · have h3 : t.getD (atR sb id).toNat Sb0 ∈ t := by
            rw [List.getD, List.getElem?_eq_getElem hk, Option.getD_some]; exact List.getElem_mem _
          have h4 := ht _ h3
          rw [h2]
          show x ≤ (t.getD (atR sb id).toNat Sb0).cu + 1
          omega
      · unfold bump at hs
        rw [List.set_eq_of_length_le (by omega)] at hs
        exact ht s hs
/-- A ring with a message more, ahead of what goes. -/
def sndV (v : Rv) (m : Tm) : Rv := ⟨v.cp, v.se + 1, v.it ++ [m], v.nx, sndB v.sb m v.ln, sndS v.sb m v.ln, v.gs ++ sndT v.sb m v.ln, v.cl⟩
theorem snd_old {v : Rv} {m : Tm} : oldR v ≤ oldR (sndV v m) := by
  have hl := (least_iff v.sb v.se (leastR v.se v.sb)).1 (Int.le_refl _)
  have h1 : leastR v.se v.sb ≤ leastR (v.se + 1) (sndB v.sb m v.ln) := by
    rw [least_iff]
    exact ⟨by omega, sndB_cu v.sb m _ hl.2 v.ln⟩
  unfold oldR
  simp only [sndV]
  repeat' split
  all_goals omega
/-- How many go. -/
theorem snd_first {v : Rv} (h : okR restR v = true) {m : Tm} {f : Nat} (hf : v.se = ((f + v.it.length : Nat) : Int)) : ∃ d : Nat, d ≤ v.it.length + 1 ∧ oldR (sndV v m) = ((f + d : Nat) : Int) ∧ trimR (sndV v m) = { sndV v m with it := (v.it ++ [m]).drop d } := by
  obtain ⟨hcp, hse, _, h16, hlen, _⟩ := ok_head h
  have h1 := snd_old (v := v) (m := m)
  have h2 := oldR_bd (v := sndV v m) (by show 0 ≤ v.se + 1; omega) hcp.1
  have e1 : (sndV v m).se = v.se + 1 := rfl
  have e2 : (sndV v m).it = v.it ++ [m] := rfl
  have e3 : (v.it ++ [m]).length = v.it.length + 1 := by simp
  rw [e1] at h2
  obtain ⟨d, hd⟩ : ∃ d : Nat, oldR (sndV v m) = ((f + d : Nat) : Int) := ⟨(oldR (sndV v m) - f).toNat, by omega⟩
  refine ⟨d, by omega, hd, ?_⟩
  unfold trimR
  rw [e1, e2, e3]
  by_cases h0 : d = 0
  · subst h0
    rw [if_neg (by omega), List.drop_zero]
    rfl
  · rw [if_pos (by omega), show v.it.length + 1 - (v.se + 1 - oldR (sndV v m)).toNat = d by omega]
    first | done | rfl
/-- What Send leaves, whom it tells, and its code. -/
def snR (v : Rv) (m : Tm) : Rv := if okR restR v = true then (if v.cl = true then v else if okB m.1 m.2.1 m.2.2 = true then (if v.se = 1000000000 then v else trimR (sndV v m)) else v) else v
def snT (v : Rv) (m : Tm) : List Int := if okR restR v = true then (if v.cl = true then [] else if okB m.1 m.2.1 m.2.2 = true then (if v.se = 1000000000 then [] else sndT v.sb m v.ln) else []) else []
def snC (v : Rv) (m : Tm) : Int := if okR restR v = true then (if v.cl = true then 6 else if okB m.1 m.2.1 m.2.2 = true then (if v.se = 1000000000 then 2 else 0) else 1) else 1
def SendDone (F : Nat) : Prop := ∀ (M : Rm) (v : Rv) (m : Tm) (w : World), RIn w M v → RLe M 1048576 → RCap M → RWf v → m.2.2.size ≤ maxLen → GOk w →
  Calls Tryz.prog F #[.agg #[.int .i64 v.cp, .int .i64 v.se, .slice M.ia M.i M.ic, .int .i64 v.nx, .slice M.sa M.s M.sc, .slice M.la M.l M.lc, .slice M.ga M.g M.gc, .bool v.cl], .agg #[.int .i64 m.1, .int .i64 m.2.1, .string m.2.2]] w fun e w' => RgT w (snR v m) (snT v m) (snC v m) e w'
def SendDoneS (F : Nat) : Prop := ∀ (M : Rm) (v : Rv) (m : Tm) (w : World), RIn w M v → RLe M 1048576 → RCap M → RWf v → m.2.2.size ≤ maxLen → GOk w →
  Calls Tryz.prog F #[.agg #[.int .i64 v.cp, .int .i64 v.se, .slice M.ia M.i M.ic, .int .i64 v.nx, .slice M.sa M.s M.sc, .slice M.la M.l M.lc, .slice M.ga M.g M.gc, .bool v.cl], .agg #[.int .i64 m.1, .int .i64 m.2.1, .string m.2.2]] w fun e w' => RgTS w (snR v m) (snT v m) (snC v m) e w'
end Go.Proofs.YtihdglmiecifjaaGreat
namespace Go.Proofs.YtihdglmiecifjaaGreat
open Go.RowKit Go.Maps Pl Il

/-- The places with m in place s. -/
def updP (P : Nat → Tm) (s : Nat) (m : Tm) : Nat → Tm := fun j => if j = s then m else P j
/-- Three cells are written over. -/
def setM (w : World) (b o : Nat) (m : Tm) : World := ((w.setCell ⟨b, o, none⟩ (.int .i64 m.1)).setCell ⟨b, o + 1, none⟩ (.int .i64 m.2.1)).setCell ⟨b, o + 2, none⟩ (.string m.2.2)
theorem setM_other (w : World) (b o : Nat) (m : Tm) (p : Nat) (h : p < o ∨ o + 3 ≤ p) : (setM w b o m).cell? ⟨b, p, none⟩ = w.cell? ⟨b, p, none⟩ := by
  unfold setM
  rw [World.cell?_setCell_other _ _ _ _ (by intro e; injection e with _ e2; omega), World.cell?_setCell_other _ _ _ _ (by intro e; injection e with _ e2; omega), World.cell?_setCell_other _ _ _ _ (by intro e; injection e with _ e2; omega)]
theorem setM_grown (w : World) (b o : Nat) (m : Tm) : w.grownBy (setM w b o m) (some b) := ((grown_setC _ _ _ _).trans (grown_setC _ _ _ _)).trans (grown_setC _ _ _ _)
theorem RndB.put {b o s : Nat} {P : Nat → Tm} {w : World} (h : RndB b o P w) (hs : s < 17) (m : Tm) : RndB b o (updP P s m) (setM w b (o + s * 3) m) := by
  obtain ⟨c0, c1, c2⟩ := h.pl s hs
  refine ⟨?_, fun j hj => ?_⟩
  · obtain ⟨cur, t, hg, hz⟩ := h.blk
    have g1 := heap_setCell_same w b (o + s * 3) cur t (.int .i64 m.1) hg
    have g2 := heap_setCell_same _ b (o + s * 3 + 1) _ t (.int .i64 m.2.1) g1
    have g3 := heap_setCell_same _ b (o + s * 3 + 2) _ t (.string m.2.2) g2
    exact ⟨_, t, g3, by simpa using hz⟩
  · by_cases hj2 : j = s
    · subst hj2
      unfold updP
      rw [if_pos rfl]
      unfold setM
      refine ⟨?_, ?_, ?_⟩
      · rw [World.cell?_setCell_other _ _ _ _ (by intro e; injection e with _ e2; omega), World.cell?_setCell_other _ _ _ _ (by intro e; injection e with _ e2; omega)]
        exact World.cell?_setCell_same _ _ _ c0
      · rw [World.cell?_setCell_other _ _ _ _ (by intro e; injection e with _ e2; omega)]
        exact World.cell?_setCell_same _ _ _ (show World.cell? _ _ = some (Value.int .i64 (P j).2.1) by rw [World.cell?_setCell_other _ _ _ _ (by intro e; injection e with _ e2; omega)]; exact c1)
      · exact World.cell?_setCell_same _ _ _ (show World.cell? _ _ = some (Value.string (P j).2.2) by rw [World.cell?_setCell_other _ _ _ _ (by intro e; injection e with _ e2; omega), World.cell?_setCell_other _ _ _ _ (by intro e; injection e with _ e2; omega)]; exact c2)
    · unfold updP
      rw [if_neg hj2, setM_other _ _ _ _ _ (by omega), setM_other _ _ _ _ _ (by omega), setM_other _ _ _ _ _ (by omega)]
      exact h.pl j hj
theorem itemsP_add {P : Nat → Tm} {f n : Nat} {m : Tm} (hn : n ≤ 16) : itemsP (updP P ((f + n) % 17) m) f (n + 1) = itemsP P f n ++ [m] := by
  unfold itemsP
  rw [List.range_succ, List.map_append]
  congr 1
  · refine List.map_congr_left fun i hi => ?_
    have := List.mem_range.1 hi
    unfold updP
    rw [if_neg (by omega)]
  · simp [updP]
/-- A message more in a body. -/
theorem RBody.add {B b : Nat} {A : Na} {P : Nat → Tm} {f : Nat} {v : Rv} {sa : Option Addr} {s sc : Nat} {ys : List Sa} {w : World} (m : Tm) (h : RBody B b A P f v sa s sc ys w) (hi : v.it.length ≤ 16) (hf : f + v.it.length ≤ 1000000000) (hm : m.2.2.size ≤ maxLen) :
    RBody B b A (updP P ((f + v.it.length) % 17) m) f { v with it := v.it ++ [m], se := v.se + 1 } sa s sc ys ((setM w b (3 + (f + v.it.length) % 17 * 3) m).setCell ⟨b, 55, none⟩ (.int .i64 ((f + v.it.length + 1 : Nat) : Int))) := by
  have hs : (f + v.it.length) % 17 < 17 := Nat.mod_lt _ (by omega)
  obtain ⟨s0, hs0⟩ : ∃ s0, (f + v.it.length) % 17 = s0 := ⟨_, rfl⟩
  rw [hs0] at hs ⊢
  have hg : w.grownBy ((setM w b (3 + s0 * 3) m).setCell ⟨b, 55, none⟩ (.int .i64 ((f + v.it.length + 1 : Nat) : Int))) (some b) := (setM_grown _ _ _ _).trans (grown_setC _ _ _ _)
  have ct : ∀ j, (j < 3 ∨ 54 ≤ j) → j ≠ 55 → ((setM w b (3 + s0 * 3) m).setCell ⟨b, 55, none⟩ (.int .i64 ((f + v.it.length + 1 : Nat) : Int))).cell? ⟨b, j, none⟩ = w.cell? ⟨b, j, none⟩ := fun j hj hj2 => by
    rw [World.cell?_setCell_other _ _ _ _ (by intro e; injection e with _ e2; omega), setM_other _ _ _ _ _ (by omega)]
  have hw := (((h.wst.setc (3 + s0 * 3) (by omega) (.int .i64 m.1)).setc (3 + s0 * 3 + 1) (by omega) (.int .i64 m.2.1)).setc (3 + s0 * 3 + 2) (by omega) (.string m.2.2)).setc 55 (by omega) (.int .i64 ((f + v.it.length + 1 : Nat) : Int))
  refine ⟨hw, (h.rnd.put hs m).set 55 (by omega) _, by rw [ct 2 (by omega) (by omega)]; exact h.c2, by rw [ct (3 + 51) (by omega) (by omega)]; exact h.fst, ?_, by rw [ct 56 (by omega) (by omega)]; exact h.c56, by rw [ct 57 (by omega) (by omega)]; exact h.c57, by rw [ct 58 (by omega) (by omega)]; exact h.c58, ⟨rowG h.srow.sb hg (fun q e => by injection e with e; rw [← e]; exact h.nb.1), fun x hx => rowG (h.srow.fl x hx) hg (fun q e => by injection e with e; rw [← e]; exact h.nb.2 x hx), h.srow.fls, h.srow.apt⟩, h.sv, ?_, fun j => ?_, ?_, ?_, h.nb, h.ap⟩
  · have e : (v.it ++ [m]).length = v.it.length + 1 := by simp
    show _ = some (Value.int .i64 ((f + (v.it ++ [m]).length : Nat) : Int))
    rw [e]
    exact World.cell?_setCell_same _ _ _ (by rw [setM_other _ _ _ _ _ (by omega)]; exact h.nxt)
  · show itemsP _ f (v.it ++ [m]).length = v.it ++ [m]
    have e : (v.it ++ [m]).length = v.it.length + 1 := by simp
    rw [e, ← hs0, itemsP_add hi, h.its]
  · unfold updP
    split
    · exact hm
    · exact h.sh j
  · show v.se + 1 = ((f + (v.it ++ [m]).length : Nat) : Int)
    have := h.se
    simp
    omega
  · show (v.it ++ [m]).length ≤ 17 ∧ f + (v.it ++ [m]).length ≤ 2000000000
    simp
    omega
set_option maxRecDepth 100000 in
set_option maxHeartbeats 4000000 in
theorem addM_any (B b : Nat) (A : Na) (P : Nat → Tm) (f : Nat) (v : Rv) (sa : Option Addr) (s sc : Nat) (ys : List Sa) (m1 m2 : Int) (m3 : ByteArray) (w : World) (hR : RBody B b A P f v sa s sc ys w) (hi : v.it.length ≤ 16) (hf : f + v.it.length ≤ 1000000000) (hm : m3.size ≤ maxLen) :
    Calls Tryz.prog 144 #[.pointer (some ⟨b, 3, none⟩), .agg #[.int .i64 m1, .int .i64 m2, .string m3]] w fun e w' => e = .returned (.tuple #[]) ∧ RBody B b A (updP P ((f + v.it.length) % 17) (m1, m2, m3)) f { v with it := v.it ++ [(m1, m2, m3)], se := v.se + 1 } sa s sc ys w' ∧ w.grownBy w' (some b) := by
  obtain ⟨W0, hW0⟩ : ∃ W, W = w.alloc (.cells #[.int .i64 m1, .int .i64 m2, .string m3] 30) := ⟨_, rfl⟩
  have B0 : Below w.heap.size w W0 := by rw [hW0]; exact bl_alloc (Below.refl _ _) _
  have X0 : BoxL w.heap.size [.int .i64 m1, .int .i64 m2, .string m3] W0 := by rw [hW0]; exact BoxL.new w [.int .i64 m1, .int .i64 m2, .string m3] _
  have R0 := hR.keep B0
  have hlt := hR.wst.lt
  obtain ⟨n, hn⟩ : ∃ n, f + v.it.length = n := ⟨_, rfl⟩
  have HN := hidOf hn
  have hs : n % 17 < 17 := Nat.mod_lt _ (by omega)
  have hr : (n : Int) % 17 = ((n % 17 : Nat) : Int) := by omega
  obtain ⟨s0, hS⟩ : ∃ s0, n % 17 = s0 := ⟨_, rfl⟩
  rw [hS] at hs hr
  have HS := hidOf hS
  obtain ⟨c0, c1, c2⟩ := R0.rnd.pl s0 hs
  have c55 : W0.cell? ⟨b, 55, none⟩ = some (.int .i64 (n : Int)) := by have h := R0.nxt; rw [hn] at h; exact h
  have fr := fun p => R0.rnd.fr p
  have x0 : W0.cell? ⟨w.heap.size, 0, none⟩ = some (.int .i64 m1) := X0.cs 0 (by simp)
  have x1 : W0.cell? ⟨w.heap.size, 1, none⟩ = some (.int .i64 m2) := X0.cs 1 (by simp)
  have x2 : W0.cell? ⟨w.heap.size, 2, none⟩ = some (.string m3) := X0.cs 2 (by simp)
  have hsi : (s0 : Int) < 17 := by omega
  have hne : ¬ b = w.heap.size := by omega
  have hne2 : ¬ w.heap.size = b := by omega
  obtain ⟨Y, hY⟩ : ∃ Y, ((W0.setCell ⟨b, 3 + s0 * 3, none⟩ (.int .i64 m1)).setCell ⟨b, 3 + s0 * 3 + 1, none⟩ (.int .i64 m2)).setCell ⟨b, 3 + s0 * 3 + 2, none⟩ (.string m3) = Y := ⟨_, rfl⟩
  have hY2 : Y = setM W0 b (3 + s0 * 3) (m1, m2, m3) := by rw [← hY]; rfl
  have y55 : Y.cell? ⟨b, 55, none⟩ = some (.int .i64 (n : Int)) := by rw [hY2, setM_other _ _ _ _ _ (by omega)]; exact c55
  have yf : ∀ p, Y.frozen? ⟨b, p, none⟩ = false := fun p => by rw [← hY]; simpa using fr p
  have HAd := hidOf (R0.add (m1, m2, m3) hi hf hm)
  have HGr := hidOf (show w.grownBy Y (some b) by rw [hY2]; exact (grown_of B0).trans (setM_grown _ _ _ _))
  have hnb : n ≤ 1000000000 := by omega
  have hw1 : IntKind.i64.wrap ((n : Int) + 1) = (n : Int) + 1 := by rw [IntKind.wrap_i64]; omega
  have HY2 := hidOf hY2
  clear hn hS R0 hR hi hf hm B0 X0 hY2 hlt
  go_enter Tryz.func144, Tryz.ntmps144
  go_upto_region 1 with fail
  rw [← hW0]
  clear hW0
  go_region
  try rw [hY]
  clear hY c0 c1 c2 c55 fr x0 x1 x2
  obtain ⟨Yd, hYd⟩ : ∃ W, Y.drew = W := ⟨_, rfl⟩
  have z55 : Yd.cell? ⟨b, 55, none⟩ = some (.int .i64 (n : Int)) := by rw [← hYd]; exact y55
  have zf : ∀ p, Yd.frozen? ⟨b, p, none⟩ = false := fun p => by rw [← hYd]; exact yf p
  have HF := hidOf (show RBody B b A (updP P ((f + v.it.length) % 17) (m1, m2, m3)) f { v with it := v.it ++ [(m1, m2, m3)], se := v.se + 1 } sa s sc ys (Yd.setCell ⟨b, 55, none⟩ (.int .i64 ((n : Int) + 1))) ∧ w.grownBy (Yd.setCell ⟨b, 55, none⟩ (.int .i64 ((n : Int) + 1))) (some b) by
    refine ⟨?_, by rw [← hYd]; exact (HGr.out.trans (grown_of (Below.refl _ _).drew)).trans (grown_setC _ _ _ _)⟩
    have h := HAd.out.keep (Below.refl _ _).drew
    rw [HN.out, HS.out, ← HY2.out, show ((n + 1 : Nat) : Int) = (n : Int) + 1 by omega] at h
    rw [HN.out, HS.out, ← hYd]
    exact h)
  try rw [hYd]
  clear hYd y55 yf HY2 HAd HGr
  go_wp2_with fail
  go_end0
  exact ⟨rfl, HF.out.1, HF.out.2⟩
end Go.Proofs.YtihdglmiecifjaaGreat
