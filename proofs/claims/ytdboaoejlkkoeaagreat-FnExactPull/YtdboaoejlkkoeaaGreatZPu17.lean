/-
  Rings under a marking of another one; what a law on a ring handed back
  A ring as rows: more told, nobody waiting, closed
  What a law on a ring handed back and a list told holds on to besides
  The program's lists once more: a copy, Leave and Wake, each list that 
-/
import Derived.Test.YtdboaoejlkkoeaaGreatZPu16
import Derived.ChangeAlike
import Derived.Laws.CopyRow
import Derived.Laws.OwnMore
import Derived.RegionTactic
namespace Go.Proofs.YtdboaoejlkkoeaaGreat
open Go.RowKit Pl Il
structure LawX (w : World) (N : Nat) (M M' : Rm) (v : Rv) (u0 u : World) : Prop where
  arg : BoxL w.heap.size (rC M v) u
  own : BoxL N (rC M' v) u
  cop : RIn u M' v
  below : Below w.heap.size w u
  since : Below u0.heap.size u0 u
theorem LawX.keep {w : World} {N : Nat} {M M' : Rm} {v : Rv} {u0 u u' : World} (h : LawX w N M M' v u0 u) (hb : Below u.heap.size u u') : LawX w N M M' v u0 u' := ⟨h.arg.keep hb, h.own.keep hb, h.cop.keep hb, bl_trans h.below hb, bl_trans h.since hb⟩
abbrev LawXS (w : World) (N : Nat) (M M' : Rm) (v : Rv) (u0 u : World) : Prop :=
  u.cell? ⟨w.heap.size, 0, none⟩ = some (.int .i64 v.cp) ∧ u.cell? ⟨w.heap.size, 1, none⟩ = some (.int .i64 v.se) ∧ u.cell? ⟨w.heap.size, 2, none⟩ = some (.slice M.ia M.i M.ic) ∧ u.cell? ⟨w.heap.size, 3, none⟩ = some (.int .i64 v.nx) ∧ u.cell? ⟨w.heap.size, 4, none⟩ = some (.slice M.sa M.s M.sc) ∧ u.cell? ⟨w.heap.size, 5, none⟩ = some (.slice M.la M.l M.lc) ∧ u.cell? ⟨w.heap.size, 6, none⟩ = some (.slice M.ga M.g M.gc) ∧ u.cell? ⟨w.heap.size, 7, none⟩ = some (.bool v.cl) ∧ u.cell? ⟨N, 0, none⟩ = some (.int .i64 v.cp) ∧ u.cell? ⟨N, 1, none⟩ = some (.int .i64 v.se) ∧ u.cell? ⟨N, 2, none⟩ = some (.slice M'.ia M'.i M'.ic) ∧ u.cell? ⟨N, 3, none⟩ = some (.int .i64 v.nx) ∧ u.cell? ⟨N, 4, none⟩ = some (.slice M'.sa M'.s M'.sc) ∧ u.cell? ⟨N, 5, none⟩ = some (.slice M'.la M'.l M'.lc) ∧ u.cell? ⟨N, 6, none⟩ = some (.slice M'.ga M'.g M'.gc) ∧ u.cell? ⟨N, 7, none⟩ = some (.bool v.cl) ∧ LawX w N M M' v u0 u
theorem LawX.s {w : World} {N : Nat} {M M' : Rm} {v : Rv} {u0 u : World} (h : LawX w N M M' v u0 u) : LawXS w N M M' v u0 u :=
  ⟨h.arg.cs 0 (by simp), h.arg.cs 1 (by simp), h.arg.cs 2 (by simp), h.arg.cs 3 (by simp), h.arg.cs 4 (by simp), h.arg.cs 5 (by simp), h.arg.cs 6 (by simp), h.arg.cs 7 (by simp), h.own.cs 0 (by simp), h.own.cs 1 (by simp), h.own.cs 2 (by simp), h.own.cs 3 (by simp), h.own.cs 4 (by simp), h.own.cs 5 (by simp), h.own.cs 6 (by simp), h.own.cs 7 (by simp), h⟩
theorem LawXS.law {w : World} {N : Nat} {M M' : Rm} {v : Rv} {u0 u : World} (h : LawXS w N M M' v u0 u) : LawX w N M M' v u0 u := h.2.2.2.2.2.2.2.2.2.2.2.2.2.2.2.2
theorem LawXS.keep {w : World} {N : Nat} {M M' : Rm} {v : Rv} {u0 u u' : World} (h : LawXS w N M M' v u0 u) (hb : Below u.heap.size u u') : LawXS w N M M' v u0 u' := (h.law.keep hb).s
theorem LawXS.drew {w : World} {N : Nat} {M M' : Rm} {v : Rv} {u0 u : World} (h : LawXS w N M M' v u0 u) : LawXS w N M M' v u0 u.drew := h.keep (Below.refl _ _).drew
open Go.RowKit Pl Il
theorem BoxL.grownO {N : Nat} {vs : List Value} {w w' : World} {g : Option Nat} (h : BoxL N vs w) (hg : w.grownBy w' g) (hn : g ≠ some N) : BoxL N vs w' :=
  h.of_block (hg.block N h.lt fun e => hn e.symm) (Nat.lt_of_lt_of_le h.lt hg.size)
open Go.RowKit Pl Il
theorem cntR_le {M : Rm} (hm : RLe M 2097152) (hl : M.xs.length = M.s) : cntR M ≤ 1000000000000000 := by
  have h := cntS_le (xs := M.xs) (K := 2097152) hm.f M.xs.length
  rw [List.take_length] at h
  have h1 : M.xs.length * (6 + 3 * 2097152) ≤ 2097152 * (6 + 3 * 2097152) := Nat.mul_le_mul (by rw [hl]; exact hm.s) (Nat.le_refl _)
  have h2 := hm.i
  have h3 := hm.l
  have h4 := hm.g
  unfold cntR
  omega
end Go.Proofs.YtdboaoejlkkoeaaGreat
namespace Go.Proofs.YtdboaoejlkkoeaaGreat
open Go.RowKit Go.Maps Pl Il
theorem copied_row (a : Option Addr) (n cap : Nat) (xs : List Int) (w : World) (hI : IntsAt w a n xs) (hn : n ≤ 2097152) :
    Calls Tryz.prog 140 #[.slice a n cap] w fun e w' => ∃ a' c', e = .returned (.slice a' n c') ∧ w'.ownsRow w.heap.size 3 1 (.slice a' n c') n (intsV xs) ∧ Below w.heap.size w w' := by
  obtain ⟨v, w', hr, ho, hb⟩ := copied_run a n cap xs w hI hn
  obtain ⟨a', c', rfl, hO⟩ := own_of ho xs rfl
  have Hr := hidOf hr
  have HO := hidOf ho
  clear hr ho hI
  go_enter Tryz.func140, Tryz.ntmps140
  go_wp2_with (at_builtin; refine wpList_append_run rfl _ _ 26 rfl _ _ _ rfl rfl Hr.out ?_)
  go_ret
  exact ⟨a', c', rfl, HO.out, hb⟩
open Go.RowKit Go.Maps Pl Il
structure WSt (B b : Nat) (A : Na) (ln gs : List Int) (w : World) : Prop where
  lt : b < w.heap.size
  ge : B ≤ b
  c0 : w.cell? ⟨b, 0, none⟩ = some (.slice A.a A.n A.c)
  c1 : w.cell? ⟨b, 1, none⟩ = some (.slice A.a' A.n' A.c')
  fr : ∀ o, w.frozen? ⟨b, o, none⟩ = false
  rows : Rows2 B w A ln gs
  ne1 : (Value.slice A.a A.n A.c).ownBlock ≠ some b
  ne2 : (Value.slice A.a' A.n' A.c').ownBlock ≠ some b
section
variable {B b : Nat} {A : Na} {ln gs : List Int} {w w' : World}
theorem WSt.keep (h : WSt B b A ln gs w) (hb : Below w.heap.size w w') : WSt B b A ln gs w' :=
  ⟨Nat.lt_of_lt_of_le h.lt hb.size, h.ge, by rw [hb.cell (p := ⟨b, 0, none⟩) h.lt]; exact h.c0, by rw [hb.cell (p := ⟨b, 1, none⟩) h.lt]; exact h.c1, fun o => by rw [hb.frozen (p := ⟨b, o, none⟩) h.lt]; exact h.fr o, h.rows.keep hb, h.ne1, h.ne2⟩
theorem WSt.told {a : Option Addr} {n c : Nat} {xs : List Int} (h : WSt B b A ln gs w) (hr : w.ownsRow B 3 1 (.slice a n c) n (intsV xs)) (h1 : (Value.slice a n c).ownBlock ≠ some b) (h2 : ∀ q, (Value.slice A.a A.n A.c).ownBlock = some q → (Value.slice a n c).ownBlock ≠ some q) :
    WSt B b { A with a' := a, n' := n, c' := c } ln xs (w.setCell ⟨b, 1, none⟩ (.slice a n c)) :=
  ⟨by simpa using h.lt, h.ge, by rw [World.cell?_setCell_other _ _ _ _ (by simp)]; exact h.c0, World.cell?_setCell_same _ _ _ h.c1, fun k => by simpa using h.fr k, ⟨row_set h.rows.one b 1 h.ne1 _, row_set hr b 1 h1 _, h2⟩, h.ne1, h1⟩
end
def turnL (ln gs : List Int) (who : Int) : Int := if hasL ln who then 4 else if hasL gs who then 0 else 3
theorem place_neg {xs : List Int} {x : Int} (h : hasL xs x = false) : placeL xs x = -1 := (place_none (Nat.le_refl _) (by rw [List.take_length]; exact h)).symm
theorem place_nneg {xs : List Int} {x : Int} (h : hasL xs x = true) : 0 ≤ placeL xs x := by
  unfold placeL
  cases hf : xs.findIdx? (· == x) with
  | none =>
    rw [List.findIdx?_eq_none_iff] at hf
    have := hf x (by simpa [hasL] using h)
    simp at this
  | some i => simp
theorem turnOf_any (B b : Nat) (A : Na) (ln gs : List Int) (who : Int) (w : World) (hS : WSt B b A ln gs w) (hn : A.n ≤ 2097152) (hn' : A.n' ≤ 2097152) (hw : wfL ln) (hw' : wfL gs) (hx : (Lit.int .i64 who).wf = true) :
    Calls Tryz.prog 155 #[.pointer (some ⟨b, 0, none⟩), .int .i64 who] w fun e w' => e = .returned (.int .i64 (turnL ln gs who)) ∧ Below w.heap.size w w' := by
  have c0 := hS.c0
  have HS := hidOf hS
  clear hS
  go_enter Tryz.func155, Tryz.ntmps155
  go_wp2_with fail
  refine (implPlaceOf_any A.a A.n A.c ln who _ (row_own HS.out.rows.one).1.ints hn hw hx).mono ?_
  rintro e w1 ⟨rfl, hb1⟩
  have hS1 := HS.out.keep hb1
  cases h1 : hasL ln who
  · rw [place_neg h1]
    have c1 := hS1.c1
    have HS1 := hidOf hS1
    clear hS1 c0 HS
    go_wp2_with fail
    refine (implPlaceOf_any A.a' A.n' A.c' gs who _ (row_own HS1.out.rows.two).1.ints hn' hw' hx).mono ?_
    rintro e w2 ⟨rfl, hb2⟩
    cases h2 : hasL gs who
    · rw [place_neg h2]
      go_wp2
      go_ret
      exact ⟨rint (by unfold turnL; rw [h1, h2]; rfl), bl_trans hb1 hb2⟩
    · have hp := place_nneg h2
      generalize placeL gs who = p at hp
      go_wp2
      go_ret
      exact ⟨rint (by unfold turnL; rw [h1, h2]; rfl), bl_trans hb1 hb2⟩
  · have hp := place_nneg h1
    generalize placeL ln who = p at hp
    clear hS1
    go_wp2
    go_ret
    exact ⟨rint (by unfold turnL; rw [h1]; rfl), hb1⟩
open Go.RowKit Go.Maps Pl Il
theorem turn_cases (ln gs : List Int) (who : Int) : (turnL ln gs who = 4 ∧ hasL ln who = true) ∨ (turnL ln gs who = 0 ∧ hasL ln who = false ∧ hasL gs who = true) ∨ (turnL ln gs who = 3 ∧ hasL ln who = false ∧ hasL gs who = false) := by
  unfold turnL
  cases h1 : hasL ln who <;> cases h2 : hasL gs who <;> simp
end Go.Proofs.YtdboaoejlkkoeaaGreat
namespace Go.Proofs.YtdboaoejlkkoeaaGreat
open Go.RowKit Pl Il
theorem copiedS_any (a : Option Addr) (n cap : Nat) (xs : List Sa) (w : World) (hI : SubAt w a n xs) (hn : n ≤ 2097152) :
    Calls Tryz.prog 173 #[.slice a n cap] w fun e w' => ∃ a' c', e = .returned (.slice a' n c') ∧ w'.ownsRow w.heap.size 41 7 (.slice a' n c') n (sflat xs) ∧ Below w.heap.size w w' := by
  obtain ⟨a', c', w', hr, ho, hg, _⟩ := append_subR w.heap.size 0 (.slice none 0 0) [] a n cap xs w (World.ownsRow_nil _ _ _ _) (Nat.le_refl _) hI (by omega)
  rw [Nat.zero_add] at hr ho
  rw [List.nil_append] at ho
  have hb : Below w.heap.size w w' := (Below.refl _ _).grown hg (Nat.le_refl _) (fun k hk => by cases hk)
  have Hr := hidOf hr
  have HO := hidOf ho
  clear hr ho hI hg
  go_enter Tryz.func173, Tryz.ntmps173
  go_wp2_with (at_builtin; refine wpList_append_run rfl _ _ 25 rfl _ _ _ rfl rfl Hr.out ?_)
  go_ret
  exact ⟨_, _, rfl, HO.out, hb⟩
theorem copiedM_any (a : Option Addr) (n cap : Nat) (ts : List Tm) (w : World) (hI : TmAt w a n ts) (hn : n ≤ 2097152) :
    Calls Tryz.prog 138 #[.slice a n cap] w fun e w' => ∃ a' c', e = .returned (.slice a' n c') ∧ w'.ownsRow w.heap.size 30 3 (.slice a' n c') n (qflat ts) ∧ Below w.heap.size w w' := by
  obtain ⟨a', c', w', hr, ho, hg, _⟩ := append_msgR w.heap.size 0 (.slice none 0 0) [] a n cap ts w (World.ownsRow_nil _ _ _ _) (Nat.le_refl _) hI (by omega)
  rw [Nat.zero_add] at hr ho
  rw [List.nil_append] at ho
  have hb : Below w.heap.size w w' := (Below.refl _ _).grown hg (Nat.le_refl _) (fun k hk => by cases hk)
  have Hr := hidOf hr
  have HO := hidOf ho
  clear hr ho hI hg
  go_enter Tryz.func138, Tryz.ntmps138
  go_wp2_with (at_builtin; refine wpList_append_run rfl _ _ 24 rfl _ _ _ rfl rfl Hr.out ?_)
  go_ret
  exact ⟨_, _, rfl, HO.out, hb⟩
theorem sflat_cons (x : Sa) (l : List Sa) : sflat (x :: l) = sC x ++ sflat l := by simp [sflat]
theorem sflat_set : ∀ (ys : List Sa) (k : Nat) (a : Option Addr) (n c : Nat), k < ys.length → (sflat ys).set (k * 7 + 6) (.slice a n c) = sflat (ys.set k ⟨(sg ys k).s, a, n, c⟩)
  | [], k, _, _, _, h => by simp at h
  | y :: l, 0, a, n, c, _ => by
    rw [sflat_cons, List.set_append_left _ _ (by simp), List.set_cons_zero, sflat_cons]
    rfl
  | y :: l, k + 1, a, n, c, h => by
    have hc : (sC y).length = 7 := rfl
    rw [sflat_cons, List.set_append_right _ _ (by rw [hc]; omega), hc, show (k + 1) * 7 + 6 - 7 = k * 7 + 6 by omega, sflat_set l k a n c (by simpa using h), List.set_cons_succ, sflat_cons]
    rfl
structure SRow (B : Nat) (w : World) (a : Option Addr) (n c : Nat) (ys : List Sa) : Prop where
  sb : w.ownsRow B 41 7 (.slice a n c) n (sflat ys)
  fl : ∀ x, x ∈ ys → w.ownsRow B 132 3 (.slice x.a x.n x.c) x.n (qflat x.s.fl)
  fls : ∀ x, x ∈ ys → ∀ p, p ∈ x.s.fl → p.2.2.size ≤ maxLen
  apt : Apt ((Value.slice a n c).ownBlock :: ys.map fun x => (Value.slice x.a x.n x.c).ownBlock)
structure CsT (w : World) (g n c k : Nat) (xs ys : List Sa) (u : World) : Prop where
  len : ys.length = n
  sb : u.ownsRow w.heap.size 41 7 (.slice (some ⟨g, 0, none⟩) n c) n (sflat ys)
  same : ∀ i, i < n → (sg ys i).s = (sg xs i).s ∧ (sg ys i).n = (sg xs i).n
  rest : ∀ i, i < n → k ≤ i → sg ys i = sg xs i
  fl : ∀ i, i < k → u.ownsRow w.heap.size 132 3 (.slice (sg ys i).a (sg ys i).n (sg ys i).c) (sg ys i).n (qflat (sg ys i).s.fl)
  ne : ∀ i, i < k → (Value.slice (sg ys i).a (sg ys i).n (sg ys i).c).ownBlock ≠ some g
  ap : ∀ i j, i < j → j < k → ∀ b, (Value.slice (sg ys i).a (sg ys i).n (sg ys i).c).ownBlock = some b → (Value.slice (sg ys j).a (sg ys j).n (sg ys j).c).ownBlock ≠ some b
  below : Below w.heap.size w u
theorem sg_set_same {ys : List Sa} {k : Nat} {x : Sa} (h : k < ys.length) : sg (ys.set k x) k = x := by rw [sg_eq (by simpa using h)]; simp
theorem sg_set_ne {ys : List Sa} {k i : Nat} {x : Sa} (h : i ≠ k) : sg (ys.set k x) i = sg ys i := by
  unfold sg
  rw [List.getD_eq_getElem?_getD, List.getD_eq_getElem?_getD, List.getElem?_set_ne (fun e => h e.symm)]
theorem CsT.step {w : World} {g n c k : Nat} {xs ys : List Sa} {u u' : World} {a6 : Option Addr} {c6 : Nat} (h : CsT w g n c k xs ys u) (hk : k < n) (ho : u'.ownsRow u.heap.size 132 3 (.slice a6 (sg xs k).n c6) (sg xs k).n (qflat (sg xs k).s.fl)) (hb : Below u.heap.size u u') :
    CsT w g n c (k + 1) xs (ys.set k ⟨(sg ys k).s, a6, (sg xs k).n, c6⟩) (u'.setCell ⟨g, k * 7 + 6, none⟩ (.slice a6 (sg xs k).n c6)) := by
  have hky : k < ys.length := by rw [h.len]; exact hk
  have hg := row_lt h.sb (q := g) rfl
  have st := (ownsRow_keep h.sb hb).stored (k * 7 + 6) (.slice a6 (sg xs k).n c6)
  rw [sflat_set _ _ _ _ _ hky] at st
  have nb : ∀ q, (Value.slice a6 (sg xs k).n c6).ownBlock = some q → u.heap.size ≤ q := fun q e => (row_lt ho e).1
  have hs : u.heap.size ≤ u'.heap.size := hb.size
  have gs := grown_setC u' g (k * 7 + 6) (.slice a6 (sg xs k).n c6)
  refine ⟨by simpa using h.len, st.1, fun i hi => ?_, fun i hi hki => ?_, fun i hi => ?_, fun i hi => ?_, fun i j hij hj => ?_, bl_setB (bl_trans h.below hb) _ _ hg.1 _⟩
  · by_cases e : i = k
    · subst e
      rw [sg_set_same hky]
      exact ⟨(h.same i hi).1, rfl⟩
    · rw [sg_set_ne e]
      exact h.same i hi
  · rw [sg_set_ne (by omega)]
    exact h.rest i hi (by omega)
  · by_cases e : i = k
    · subst e
      rw [sg_set_same hky]
      have := (h.same i hk).1
      simp only
      rw [this]
      exact rowG (rowM ho h.below.size) gs (fun q e1 e2 => by injection e1 with e1; have := nb q e2; omega)
    · rw [sg_set_ne e]
      exact rowG (ownsRow_keep (h.fl i (by omega)) hb) gs (fun q e1 e2 => by injection e1 with e1; exact h.ne i (by omega) (by rw [e2, e1]))
  · by_cases e : i = k
    · subst e
      rw [sg_set_same hky]
      intro e2
      have := nb g e2
      omega
    · rw [sg_set_ne e]
      exact h.ne i (by omega)
  · by_cases e : j = k
    · subst e
      rw [sg_set_same hky, sg_set_ne (by omega)]
      intro b e1 e2
      have h1 := (row_lt (h.fl i hij) e1).2
      have h2 := nb b e2
      omega
    · rw [sg_set_ne e, sg_set_ne (by omega)]
      exact h.ap i j hij (by omega)
theorem CsT.done {w : World} {g n c : Nat} {xs ys : List Sa} {u : World} (h : CsT w g n c n xs ys u) (hl : xs.length = n) (hfs : ∀ x, x ∈ xs → ∀ p, p ∈ x.s.fl → p.2.2.size ≤ maxLen) : SRow w.heap.size u (some ⟨g, 0, none⟩) n c ys ∧ svs ys = svs xs ∧ ∀ y, y ∈ ys → ∃ x, x ∈ xs ∧ y.n = x.n := by
  have mem : ∀ y, y ∈ ys → ∃ i, i < n ∧ y = sg ys i := fun y hy => by
    obtain ⟨i, hi, rfl⟩ := List.getElem_of_mem hy
    exact ⟨i, by rw [← h.len]; exact hi, (sg_eq hi).symm⟩
  refine ⟨⟨h.sb, fun y hy => ?_, fun y hy => ?_, ?_⟩, ?_, fun y hy => ?_⟩
  · obtain ⟨i, hi, rfl⟩ := mem y hy
    exact h.fl i hi
  · obtain ⟨i, hi, rfl⟩ := mem y hy
    rw [(h.same i hi).1]
    exact hfs _ (sg_mem (by omega))
  · unfold Apt
    rw [List.pairwise_cons]
    refine ⟨fun p hp b e => ?_, ?_⟩
    · obtain ⟨y, hy, rfl⟩ := List.mem_map.1 hp
      obtain ⟨i, hi, rfl⟩ := mem y hy
      have e' : g = b := by simpa [Value.ownBlock] using e
      rw [← e']
      exact h.ne i hi
    · rw [List.pairwise_map, List.pairwise_iff_getElem]
      intro i j hi hj hij
      rw [← sg_eq hi, ← sg_eq hj]
      exact h.ap i j hij (by rw [← h.len]; exact hj)
  · refine List.ext_getElem (by simp [svs, h.len, hl]) fun i h1 h2 => ?_
    have hi : i < n := by simpa [svs, h.len] using h1
    have e1 : i < ys.length := by rw [h.len]; exact hi
    have e2 : i < xs.length := by omega
    simp only [svs, List.getElem_map]
    rw [← sg_eq e1, ← sg_eq e2]
    exact (h.same i hi).1
  · obtain ⟨i, hi, rfl⟩ := mem y hy
    exact ⟨sg xs i, sg_mem (by omega), (h.same i hi).2⟩
def CsP (w : World) (n : Nat) (xs : List Sa) (e : Ending) (w' : World) : Prop := ∃ a' c' ys, e = .returned (.slice a' n c') ∧ SRow w.heap.size w' a' n c' ys ∧ svs ys = svs xs ∧ (∀ y, y ∈ ys → ∃ x, x ∈ xs ∧ y.n = x.n) ∧ Below w.heap.size w w'
set_option maxRecDepth 100000 in
set_option maxHeartbeats 4000000 in
theorem copiedSubs_any (a : Option Addr) (n cap : Nat) (xs : List Sa) (w : World) (hI : SubAt w a n xs) (hn : n ≤ 2097152) (hf : ∀ x, x ∈ xs → x.n ≤ 2097152) :
  Calls Tryz.prog 139 #[.slice a n cap] w fun e w' => CsP w n xs e w' := by
 have HC := hidOf (copiedS_any a n cap xs w hI hn)
 have HI := hidOf hI
 have HF := hidOf hf
 clear hI hf
 go_enter Tryz.func139, Tryz.ntmps139
 go_wp2_with fail
 refine (HC.out).mono ?_
 rintro e w1 ⟨a', c', rfl, ho, hb⟩
 have HO := hidOf ho
 have HB := hidOf hb
 have hl := HI.out.len
 have HL := hidOf hl
 clear HC ho hb hl
 rcases Nat.eq_zero_or_pos n with h0 | hpos
 ·subst h0
  have hx : xs = [] := List.length_eq_zero_iff.1 HL.out
  subst hx
  go_wp2_with fail
  go_loop [9] (fun i => i = .int .i64 0) (fun _ => 0)
  case atStart => rfl
  case round =>
   subst hrel
   go_wp2
   go_ret
   exact ⟨_, _, [], rfl, ⟨HO.out, fun x hx => (by cases hx), fun x hx => (by cases hx), by simp [Apt]⟩, rfl, fun y hy => (by cases hy), HB.out⟩
 obtain ⟨_, _, hr | ⟨g, rfl, _⟩⟩ := rowS HO.out
 ·omega
 have HS := hidOf (show CsT w g n c' 0 xs xs w1 from ⟨HL.out, HO.out, fun i _ => ⟨rfl, rfl⟩, fun i _ _ => rfl, fun i hi => (by omega), fun i hi => (by omega), fun i j _ hj => (by omega), HB.out⟩)
 go_wp2_with fail
 go_loopw [9] (fun i wr => ∃ (k : Nat) (ys : List Sa), k ≤ n ∧ i = .int .i64 k ∧ CsT w g n c' k xs ys wr) (fun i _ => n - (intOf i).toNat)
 case atStart => exact ⟨0, xs, Nat.zero_le _, rfl, HS.out⟩
 case round =>
  rename World => wr
  obtain ⟨k, ys, hk, rfl, hS⟩ := hrel
  clear HS
  by_cases hlt : k < n
  ·obtain ⟨_, _, hr | ⟨g', e, _, hgl, hfr, hcell⟩⟩ := rowS hS.sb
   ·omega
   cases e
   have c6 := (hcell k hlt).c6
   rw [hS.rest k hlt (Nat.le_refl _)] at c6
   rw [Nat.zero_add] at c6
   have hkl : k < xs.length := by rw [HL.out]; exact hlt
   have hxn := HF.out _ (sg_mem hkl)
   have HC := hidOf (copiedF_any (sg xs k).a (sg xs k).n (sg xs k).c (sg xs k).s.fl wr ((HI.out.keep hS.below).fil _ (sg_mem hkl)) hxn)
   have HSt := hidOf (fun (u' : World) (a6 : Option Addr) (c6 : Nat) => CsT.step (u' := u') (a6 := a6) (c6 := c6) hS hlt)
   obtain ⟨x, hx⟩ : ∃ x, sg xs k = x := ⟨_, rfl⟩
   rw [hx] at c6 hxn HC HSt
   have hki : (k : Int) < (n : Int) := by omega
   clear hcell hS hx hkl
   go_wp2_with fail
   refine (HC.out).mono ?_
   rintro e w5 ⟨a6, c6', rfl, ho6, hb6⟩
   have HSt2 := hidOf (HSt.out w5 a6 c6' ho6 hb6)
   have d6 : w5.cell? ⟨g, k * 7 + 6, none⟩ = some (.slice x.a x.n x.c) := by rw [hb6.cell (p := ⟨g, k * 7 + 6, none⟩) hgl]; exact c6
   have d7 : ∀ o, w5.frozen? ⟨g, o, none⟩ = false := fun o => by rw [hb6.frozen (p := ⟨g, o, none⟩) hgl]; exact hfr o
   clear ho6 hb6 HC HSt c6 hfr
   go_wp2
   go_roundw
   case rel => exact ⟨k + 1, _, by omega, by go_num, HSt2.out⟩
   case measure => simp [intOf]; omega
  ·obtain rfl : k = n := by omega
   have HD := hidOf (hS.done HL.out (fun x hx => (HI.out.fil x hx).short))
   have HB2 := hidOf hS.below
   clear hS
   go_wp2
   go_ret
   exact ⟨_, _, ys, rfl, HD.out.1, HD.out.2.1, HD.out.2.2, HB2.out⟩
open Go.RowKit Pl Il
def spanA (b o s n : Nat) : Value := if s + n ≤ 17 then .slice (some ⟨b, o + s * 3, none⟩) n (17 - s) else .slice (some ⟨b, o + s * 3, none⟩) (17 - s) (17 - s)
def spanB (b o s n : Nat) : Value := if s + n ≤ 17 then .slice none 0 0 else .slice (some ⟨b, o, none⟩) (s + n - 17) 17
theorem arr17 : Tryz.prog.underlying 141 = some (.array (Tryz.prog.arrayLen 141) (Tryz.prog.elem 141)) := by kernel_rfl
theorem arr17len : Tryz.prog.arrayLen 141 = 17 := by kernel_rfl
theorem arr17sz (w : World) : (sizeOf (Tryz.prog.elem 141)).run Tryz.prog w = .ok 3 w := by kernel_rfl
theorem add_at (b o k : Nat) : (⟨b, o, none⟩ : Addr).add k = ⟨b, o + k, none⟩ := Addr.add_lit ..
theorem slice_lh (b o s e : Nat) (u : World) (h1 : s ≤ e) (h2 : e ≤ 17) (h3 : s < 17) :
    (Instr.sliceAt 141 (.pointer (some ⟨b, o, none⟩)) (some (.int .i64 (s : Int))) (some (.int .i64 (e : Int))) none).run Tryz.prog u = .ok (.slice (some ⟨b, o + s * 3, none⟩) (e - s) (17 - s)) u := by
  rw [run_sliceAt_array_lh u 141 _ arr17 .i64 .i64 _ _ (by omega) (by omega) (by rw [arr17len]; omega), arr17sz, Result.andThen_ok, arr17len]
  simp only [slicedAt, Int.toNat_natCast, add_at]
  rw [if_neg (by omega)]
theorem slice_h (b o e : Nat) (u : World) (h2 : e ≤ 17) :
    (Instr.sliceAt 141 (.pointer (some ⟨b, o, none⟩)) none (some (.int .i64 (e : Int))) none).run Tryz.prog u = .ok (.slice (some ⟨b, o, none⟩) e 17) u := by
  rw [run_sliceAt_array_h u 141 _ arr17 .i64 _ (by omega) (by rw [arr17len]; omega), arr17sz, Result.andThen_ok, arr17len]
  simp [slicedAt, add_at]
theorem slice_l (b o s : Nat) (u : World) (h3 : s < 17) :
    (Instr.sliceAt 141 (.pointer (some ⟨b, o, none⟩)) (some (.int .i64 (s : Int))) none none).run Tryz.prog u = .ok (.slice (some ⟨b, o + s * 3, none⟩) (17 - s) (17 - s)) u := by
  rw [run_sliceAt_array_l u 141 _ arr17 .i64 _ (by omega) (by rw [arr17len]; omega), arr17sz, Result.andThen_ok, arr17len]
  simp only [slicedAt, Int.toNat_natCast, add_at]
  rw [if_neg (by omega)]
set_option maxRecDepth 100000 in
set_option maxHeartbeats 4000000 in
theorem span_any (b o f n : Nat) (w : World) (hf : f ≤ 2000000000) (hn : n ≤ 17) :
    Calls Tryz.prog 174 #[.pointer (some ⟨b, o, none⟩), .int .i64 (f : Int), .int .i64 ((f + n : Nat) : Int)] w fun e w' => e = .returned (.tuple #[spanA b o (f % 17) n, spanB b o (f % 17) n]) ∧ Below w.heap.size w w' := by
  have hs : f % 17 < 17 := Nat.mod_lt _ (by omega)
  have hr : (f : Int) % 17 = ((f % 17 : Nat) : Int) := by omega
  obtain ⟨s, hS⟩ : ∃ s, f % 17 = s := ⟨_, rfl⟩
  rw [hS] at hs hr ⊢
  clear hS
  have he : (s : Int) + ((f : Int) + (n : Int)) - (f : Int) = ((s + n : Nat) : Int) := by omega
  by_cases h : s + n ≤ 17
  · have HA := hidOf (show spanA b o s n = .slice (some ⟨b, o + s * 3, none⟩) n (17 - s) from if_pos h)
    have HB := hidOf (show spanB b o s n = .slice none 0 0 from if_pos h)
    have hi : (s : Int) + (n : Int) ≤ 17 := by omega
    have hsl := slice_lh b o s (s + n) w (by omega) h hs
    rw [Nat.add_sub_cancel_left, show ((s + n : Nat) : Int) = (s : Int) + (n : Int) by omega] at hsl
    rw [HA.out, HB.out]
    clear h
    go_enter Tryz.func174, Tryz.ntmps174
    go_wp2_with fail
    go_ret2
    exact ⟨rfl, Below.refl _ _⟩
  · have HA := hidOf (show spanA b o s n = .slice (some ⟨b, o + s * 3, none⟩) (17 - s) (17 - s) from if_neg h)
    have HB := hidOf (show spanB b o s n = .slice (some ⟨b, o, none⟩) (s + n - 17) 17 from if_neg h)
    have hi : ¬ (s : Int) + (n : Int) ≤ 17 := by omega
    have hsl := fun u => slice_l b o s u hs
    have hsh := fun u => slice_h b o (s + n - 17) u (by omega)
    have hw : IntKind.i64.wrap ((s + n - 17 : Nat) : Int) = ((s + n - 17 : Nat) : Int) := by rw [IntKind.wrap_i64]; omega
    have hw2 : (s : Int) + (n : Int) - 17 = ((s + n - 17 : Nat) : Int) := by omega
    rw [HA.out, HB.out]
    clear h
    have hB : Below w.heap.size w w := Below.refl _ _
    go_enter Tryz.func174, Tryz.ntmps174
    go_upto_region 5 with fail
    refine wp_region_noPanic ?_
    refine wp_region_held_drew (S := fun w' => Below w.heap.size w w') (by kernel_rfl) hB.drew (fun hHeld => ?_)
    refine tK 0 ?_ rfl (by kernel_rfl) (by rfl) ?_ (by assumption) (fun _ _ _ h => h) ?_
    case refine_2 => (intro w hSw; (try dsimp only at hSw); go_simp; try with_reducible rfl)
    simp only [Act.put, List.getElem_toArray, List.getElem_cons_zero, List.setIfInBounds_toArray, List.set_cons_zero, List.set_cons_succ]
    refine tR 1 ?_
    refine tR 2 ?_
    refine tR 3 ?_
    refine tR 4 ?_
    refine tR 5 ?_
    refine tR 6 ?_
    refine tR 7 ?_
    refine tR 8 ?_
    refine tR 9 ?_
    refine tR 10 ?_
    refine tR 11 ?_
    refine tR 12 ?_
    refine wpAnyH_done (by kernel_rfl) ?_ _
    refine NoPanic.normal ?_
    go_wp2
    go_ret2
    exact ⟨rfl, hHeld⟩
end Go.Proofs.YtdboaoejlkkoeaaGreat
