/-
  Walks of the specification's draws: a filter
  The program's ring: what a reading holds on to; a message out of the r
  The program's ring: a message more in its round
  The program's ring: a message is sent
-/
import Derived.Test.YtihdglmiecifjaaGreatZRs22
namespace Go.Proofs.YtihdglmiecifjaaGreat
open Go.RowKit Pl Il Dr
theorem Drawn.grown {c : Nat} {a : Option Addr} {len cap : Nat} {w u u' : World} {g : Nat} (h : Drawn c a len cap w u) (hC : Cur c a len cap w) (hg : u.grownBy u' (some g)) (hge : w.heap.size ≤ g) : Drawn c a len cap w u' := by
  have hlt := hC.lt
  have key : ∀ b, b < u.heap.size → b ≠ g → u'.heap[b]? = u.heap[b]? := fun b hb hn => hg.block b hb (by simpa using hn)
  have hcell : ∀ o, u'.cell? ⟨c, o, none⟩ = u.cell? ⟨c, o, none⟩ := fun o => World.cell?_of_block (key c h.cur.lt (by omega))
  have hfr : ∀ o, u'.frozen? ⟨c, o, none⟩ = u.frozen? ⟨c, o, none⟩ := fun o => World.frozen?_of_block (key c h.cur.lt (by omega))
  refine ⟨⟨Nat.lt_of_lt_of_le h.cur.lt hg.size, ?_, by rw [hcell]; exact h.cur.at0, by rw [hcell]; exact h.cur.at1, by rw [hcell]; exact h.cur.at2, by rw [hfr]; exact h.cur.fr1, by rw [hfr]; exact h.cur.fr2⟩, ?_⟩
  · obtain ⟨hl, hm, k | ⟨b, off, rfl, hb, hn, hc⟩⟩ := h.cur.bytes
    · exact ⟨hl, hm, .inl k⟩
    · obtain ⟨_, _, k | ⟨b', off', e, hb', _⟩⟩ := hC.bytes
      · exact ⟨hl, hm, .inl k⟩
      · cases e
        refine ⟨hl, hm, .inr ⟨b, off, rfl, Nat.lt_of_lt_of_le hb hg.size, hn, fun i hi => ?_⟩⟩
        have : u'.cell? ⟨b, off + i, none⟩ = u.cell? ⟨b, off + i, none⟩ := World.cell?_of_block (key b hb (by omega))
        rw [this]; exact hc i hi
  · refine ⟨hg.os.trans h.ex.os, hg.tape.trans h.ex.tape, hg.output.trans h.ex.output, Nat.le_trans h.ex.size hg.size, fun i hi hn => ?_⟩
    rw [key i (Nat.lt_of_lt_of_le hi h.ex.size) (by omega)]
    exact h.ex.block i hi hn
structure FV (w : World) (c : Nat) (a : Option Addr) (len cap : Nat) (v : Value) (m : Nat) (l : List Tm) (u : World) : Prop where
  D : Drawn c a len cap w u
  row : u.ownsRow w.heap.size 132 3 v m (qflat l)
  short : ∀ p, p ∈ l → p.2.2.size ≤ maxLen
theorem rowF_ex {B c : Nat} {u u' : World} {t : TypeId} {v : Value} {m : Nat} {xs : List Value} (h : u.ownsRow B t 3 v m xs) (hx : Ex c u u') (hc : c < B) : u'.ownsRow B t 3 v m xs := by
  refine h.kept (row := some c) hx ?_
  cases e : v.ownBlock with
  | none => exact .inl rfl
  | some q => exact .inr (fun e' => by cases e'; have := (h.lt _ e).1; omega)
theorem FV.draw {w : World} {c : Nat} {a : Option Addr} {len cap : Nat} {v : Value} {m : Nat} {l : List Tm} {u u' : World} (h : FV w c a len cap v m l u) (hd : Drawn c a len cap u u') (hc : c < w.heap.size) : FV w c a len cap v m l u' :=
  ⟨h.D.trans hd, rowF_ex h.row hd.ex hc, h.short⟩
theorem FV.alloc {w : World} {c : Nat} {a : Option Addr} {len cap : Nat} {v : Value} {m : Nat} {l : List Tm} {u : World} (h : FV w c a len cap v m l u) (o : Obj) : FV w c a len cap v m l (u.alloc o) :=
  ⟨h.D.alloc o, h.row.alloc o, h.short⟩
theorem FV.app {w : World} {c : Nat} {a : Option Addr} {len cap : Nat} {v : Value} {m : Nat} {l : List Tm} {u : World} (h : FV w c a len cap v m l u) (hC : Cur c a len cap w) (q : Nat) (news : List Tm) (cs : Array Value) (hI : TmAt (u.alloc (.cells cs 132)) (some ⟨u.heap.size, 0, none⟩) q news) (hs : m + q ≤ 4194304) :
    ∃ (a' : Option Addr) (c' : Nat) (w' : World), (Builtin.append_ #[39, 39] 39 #[v, .slice (some ⟨u.heap.size, 0, none⟩) q q]).run Tryz.prog (u.alloc (.cells cs 132)) = .ok (.slice a' (m + q) c') w' ∧ FV w c a len cap (.slice a' (m + q) c') (m + q) (l ++ news) w' := by
  have hA := h.alloc (.cells cs 132)
  obtain ⟨v', w', hr, ho, hg⟩ := append_tms w.heap.size v m l _ q q news _ hA.row hA.D.ex.size hI hs
  obtain ⟨a', c', rfl⟩ := slice_form ho
  refine ⟨a', c', w', hr, ⟨?_, ho, short_app h.short hI.short⟩⟩
  cases e : v.ownBlock with
  | some g =>
    rw [e] at hg
    exact hA.D.grown hC hg (h.row.lt g e).1
  | none =>
    rw [e] at hg
    have hb : Below (u.alloc (.cells cs 132)).heap.size (u.alloc (.cells cs 132)) w' := ⟨hg.os, hg.tape, hg.output, hg.size, fun k hk => hg.block k hk (by simp)⟩
    exact ⟨hA.D.cur.keep hb, hA.D.ex.trans (Ex.of hb)⟩
theorem new1 (u : World) (t : Tm) (ht : t.2.2.size ≤ maxLen) : TmAt (u.alloc (.cells #[.int .i64 t.1, .int .i64 t.2.1, .string t.2.2] 132)) (some ⟨u.heap.size, 0, none⟩) 1 [t] :=
  ⟨rfl, fun p hp => by simp only [List.mem_singleton] at hp; subst hp; exact ht, .inr ⟨u.heap.size, 0, rfl, by simp, fun i hi => by
    obtain rfl : i = 0 := by omega
    simp [qg]⟩⟩
theorem new2 (u : World) (t t' : Tm) (ht : t.2.2.size ≤ maxLen) (ht' : t'.2.2.size ≤ maxLen) : TmAt (u.alloc (.cells #[.int .i64 t.1, .int .i64 t.2.1, .string t.2.2, .int .i64 t'.1, .int .i64 t'.2.1, .string t'.2.2] 132)) (some ⟨u.heap.size, 0, none⟩) 2 [t, t'] :=
  ⟨rfl, fun p hp => by
    simp only [List.mem_cons, List.not_mem_nil, or_false] at hp
    rcases hp with rfl | rfl
    · exact ht
    · exact ht', .inr ⟨u.heap.size, 0, rfl, by simp, fun i hi => by
    have h : i = 0 ∨ i = 1 := by omega
    rcases h with rfl | rfl
    · simp [qg]
    · simp [qg]⟩⟩
theorem FV.form {w : World} {c : Nat} {a : Option Addr} {len cap : Nat} {v : Value} {m : Nat} {l : List Tm} {u : World} (h : FV w c a len cap v m l u) : ∃ a' c', v = .slice a' m c' := slice_form h.row
theorem small40 {s : ByteArray} (h : s.size ≤ 40) : s.size ≤ maxLen := by unfold maxLen; omega
def FilP (w : World) (c : Nat) (a : Option Addr) (len cap K : Nat) (e : Ending) (w' : World) : Prop := ∃ (a' : Option Addr) (m c' : Nat) (l : List Tm), e = .returned (.slice a' m c') ∧ m ≤ K ∧ FV w c a len cap (.slice a' m c') m l w'
end Go.Proofs.YtihdglmiecifjaaGreat
namespace Go.Proofs.YtihdglmiecifjaaGreat
open Go.RowKit Go.Maps Pl Il
theorem lostAhead_E (r s c : Int) (w : World) (h1 : IntKind.i64.wrap (s - r) = s - r) (h2 : IntKind.i64.wrap (s - r - c) = s - r - c) :
    Calls Tryz.prog 112 #[.int .i64 r, .int .i64 s, .int .i64 c] w fun e w' => e = .returned (.int .i64 (if s - r - c < 0 then 0 else s - r - c)) ∧ w' = w := by
  by_cases hn : s - r - c < 0
  · rw [if_pos hn]
    go_enter Tryz.func112, Tryz.ntmps112
    go_wp2
    all_goals go_ret
    all_goals exact ⟨rint (by omega), rfl⟩
  · rw [if_neg hn]
    go_enter Tryz.func112, Tryz.ntmps112
    go_wp2
    all_goals go_ret
    all_goals exact ⟨rint (by omega), rfl⟩
abbrev SkE (b : Nat) (v : Rv) (g k : Nat) (cu : Int) (u : World) : Prop := u.cell? ⟨b, 2, none⟩ = some (.int .i64 v.cp) ∧ u.cell? ⟨b, 55, none⟩ = some (.int .i64 v.se) ∧ u.cell? ⟨g, k * 7 + 2, none⟩ = some (.int .i64 cu)
theorem passM_eq {fl : List Tm} {m1 m2 : Int} {m3 : ByteArray} (h1 : okF fl = true) (h2 : okB m1 m2 m3 = true) : passM fl m1 m2 m3 = pasR fl (m1, m2, m3) := by
  unfold passM pasR
  rw [h1, h2]
  rfl
def ysS (ys : List Sa) (k : Nat) (s' : Sb) : List Sa := ys.set k ⟨s', (sg ys k).a, (sg ys k).n, (sg ys k).c⟩
theorem ysS_len (ys : List Sa) (k : Nat) (s' : Sb) : (ysS ys k s').length = ys.length := by simp [ysS]
theorem ysS_get {ys : List Sa} {k : Nat} {s' : Sb} (hk : k < ys.length) : sg (ysS ys k s') k = ⟨s', (sg ys k).a, (sg ys k).n, (sg ys k).c⟩ := by
  rw [sg_eq (by rw [ysS_len]; exact hk)]
  simp [ysS]
theorem ysS_put {ys : List Sa} {k r : Nat} {s' : Sb} {z : Int} (hk : k < ys.length) : putS (ysS ys k s') k r z = ysS ys k (subPut s' r z) := by
  unfold putS
  rw [ysS_get hk]
  unfold ysS putA
  rw [List.set_set]
theorem ysS_self {ys : List Sa} {k : Nat} (hk : k < ys.length) : ysS ys k (sg ys k).s = ys := by
  unfold ysS
  rw [sg_eq hk]
  exact List.set_getElem_self hk
theorem ysS_mem {ys : List Sa} {k : Nat} {s' : Sb} (hk : k < ys.length) : ∀ y, y ∈ ysS ys k s' → ∃ x, x ∈ ys ∧ y.n = x.n := fun y hy => by
  rcases List.mem_or_eq_of_mem_set hy with h | h
  · exact ⟨y, h, rfl⟩
  · exact ⟨sg ys k, sg_mem hk, by rw [h]⟩
theorem GOk.grown {w w' : World} {q : Option Nat} (h : GOk w) (hg : w.grownBy w' q) (hq : q ≠ some 0) : GOk w' := by
  obtain ⟨m, hm⟩ := h
  have hl : 0 < w.heap.size := by
    rcases Nat.lt_or_ge 0 w.heap.size with h | h
    · exact h
    · unfold World.cell? at hm
      rw [Array.getElem?_eq_none h] at hm
      cases hm
  exact ⟨m, by rw [← hm]; exact World.cell?_of_block (hg.block _ hl (fun e => hq e.symm))⟩
theorem GOk.lt {w : World} (h : GOk w) : 0 < w.heap.size := by
  obtain ⟨m, hm⟩ := h
  rcases Nat.lt_or_ge 0 w.heap.size with h | h
  · exact h
  · unfold World.cell? at hm
    rw [Array.getElem?_eq_none h] at hm
    cases hm
structure RbL (B b : Nat) (A : Na) (P : Nat → Tm) (f : Nat) (v : Rv) (g s sc : Nat) (ys : List Sa) (k : Nat) (w : World) (N : Nat) (s' : Sb) (u : World) : Prop where
  body : RBody B b A P f { v with sb := v.sb.set k s' } (some ⟨g, 0, none⟩) s sc (ysS ys k s') u
  box : BoxL N [.int .i64 0, .int .i64 0, .int .i64 0, .string ⟨#[]⟩, .int .i64 0, .int .i64 0] u
  gr : w.grownBy u (some g)
theorem RbL.keep {B b : Nat} {A : Na} {P : Nat → Tm} {f : Nat} {v : Rv} {g s sc : Nat} {ys : List Sa} {k : Nat} {w : World} {N : Nat} {s' : Sb} {u u' : World} (h : RbL B b A P f v g s sc ys k w N s' u) (hb : Below u.heap.size u u') : RbL B b A P f v g s sc ys k w N s' u' :=
  ⟨h.body.keep hb, h.box.keep hb, h.gr.trans (grown_of hb)⟩
theorem RbL.put {B b : Nat} {A : Na} {P : Nat → Tm} {f : Nat} {v : Rv} {g s sc : Nat} {ys : List Sa} {k : Nat} {w : World} {N : Nat} {s' : Sb} {u : World} (h : RbL B b A P f v g s sc ys k w N s' u) (hk : k < ys.length) (hv : k < v.sb.length) (hN : N ≠ g) (r : Nat) (z : Int) (h2 : 2 ≤ r) (h5 : r ≤ 5) : RbL B b A P f v g s sc ys k w N (subPut s' r z) (u.setCell ⟨g, k * 7 + r, none⟩ (.int .i64 z)) := by
  have hb := h.body.put (k := k) (r := r) (by rw [ysS_len]; exact hk) h2 h5 z
  rw [ysS_put hk] at hb
  simp only at hb
  rw [putV_set hv] at hb
  exact ⟨hb, h.box.far _ _ hN _, h.gr.trans (grown_setC _ _ _ _)⟩
theorem RbL.cell {B b : Nat} {A : Na} {P : Nat → Tm} {f : Nat} {v : Rv} {g s sc : Nat} {ys : List Sa} {k : Nat} {w : World} {N : Nat} {s' : Sb} {u : World} (h : RbL B b A P f v g s sc ys k w N s' u) (hk : k < ys.length) (r : Nat) (hr : r < 7) : u.cell? ⟨g, k * 7 + r, none⟩ = (sC ⟨s', (sg ys k).a, (sg ys k).n, (sg ys k).c⟩)[r]? := by
  rw [row_cell h.body.srow.sb (by rw [ysS_len]; exact hk) hr, ysS_get hk]
theorem at_any (b o : Nat) (P : Nat → Tm) (n : Nat) (w : World) (hP : RndB b o P w) (_hn : n ≤ 2000000000) :
    Calls Tryz.prog 181 #[.pointer (some ⟨b, o, none⟩), .int .i64 (n : Int)] w fun e w' => e = .returned (.agg #[.int .i64 (P (n % 17)).1, .int .i64 (P (n % 17)).2.1, .string (P (n % 17)).2.2]) ∧ Below w.heap.size w w' := by
  have hs : n % 17 < 17 := Nat.mod_lt _ (by omega)
  have hr : (n : Int) % 17 = ((n % 17 : Nat) : Int) := by omega
  obtain ⟨s, hS⟩ : ∃ s, n % 17 = s := ⟨_, rfl⟩
  rw [hS] at hs hr ⊢
  obtain ⟨c0, c1, c2⟩ := hP.pl s hs
  obtain ⟨⟨m1, m2, m3⟩, hm⟩ : ∃ m, P s = m := ⟨_, rfl⟩
  rw [hm] at c0 c1 c2 ⊢
  have hlt := hP.lt
  have d0 := fun q : Obj => (World.cell?_alloc_past (w := w) q b (o + s * 3) hlt).trans c0
  have d1 := fun q : Obj => (World.cell?_alloc_past (w := w) q b (o + s * 3 + 1) hlt).trans c1
  have d2 := fun q : Obj => (World.cell?_alloc_past (w := w) q b (o + s * 3 + 2) hlt).trans c2
  have hsi : (s : Int) < 17 := by omega
  clear hS hm hP hlt c0 c1 c2
  go_enter Tryz.func181, Tryz.ntmps181
  go_wp2
  exact bodyPost_ret (v := .agg #[.int .i64 m1, .int .i64 m2, .string m3]) (by simp [results, Tryz.results181, go_sem]) rfl ⟨rfl, bl_alloc (Below.refl _ _) _⟩
open Go.RowKit Go.Maps Pl Il
def updP (P : Nat → Tm) (s : Nat) (m : Tm) : Nat → Tm := fun j => if j = s then m else P j
def setM (w : World) (b o : Nat) (m : Tm) : World := ((w.setCell ⟨b, o, none⟩ (.int .i64 m.1)).setCell ⟨b, o + 1, none⟩ (.int .i64 m.2.1)).setCell ⟨b, o + 2, none⟩ (.string m.2.2)
theorem setM_other (w : World) (b o : Nat) (m : Tm) (p : Nat) (h : p < o ∨ o + 3 ≤ p) : (setM w b o m).cell? ⟨b, p, none⟩ = w.cell? ⟨b, p, none⟩ := by
  unfold setM
  rw [World.cell?_setCell_other _ _ _ _ (by intro e; injection e with _ e2; omega), World.cell?_setCell_other _ _ _ _ (by intro e; injection e with _ e2; omega), World.cell?_setCell_other _ _ _ _ (by intro e; injection e with _ e2; omega)]
theorem setM_grown (w : World) (b o : Nat) (m : Tm) : w.grownBy (setM w b o m) (some b) := ((grown_setC _ _ _ _).trans (grown_setC _ _ _ _)).trans (grown_setC _ _ _ _)
theorem RndB.put {b o s : Nat} {P : Nat → Tm} {w : World} (h : RndB b o P w) (hs : s < 17) (m : Tm) : RndB b o (updP P s m) (setM w b (o + s * 3) m) := by
  obtain ⟨c0, c1, c2⟩ := h.pl s hs
  refine ⟨?_, fun j hj => ?_⟩
  · obtain ⟨cur, t, hg, hz⟩ := h.blk
    have g1 := heap_setCell_same w b (o + s * 3) cur t (.int .i64 m.1) hg
    have g2 := heap_setCell_same _ b (o + s * 3 + 1) _ t (.int .i64 m.2.1) g1
    have g3 := heap_setCell_same _ b (o + s * 3 + 2) _ t (.string m.2.2) g2
    exact ⟨_, t, g3, by simpa using hz⟩
  · by_cases hj2 : j = s
    · subst hj2
      unfold updP
      rw [if_pos rfl]
      unfold setM
      refine ⟨?_, ?_, ?_⟩
      · rw [World.cell?_setCell_other _ _ _ _ (by intro e; injection e with _ e2; omega), World.cell?_setCell_other _ _ _ _ (by intro e; injection e with _ e2; omega)]
        exact World.cell?_setCell_same _ _ _ c0
      · rw [World.cell?_setCell_other _ _ _ _ (by intro e; injection e with _ e2; omega)]
        exact World.cell?_setCell_same _ _ _ (show World.cell? _ _ = some (Value.int .i64 (P j).2.1) by rw [World.cell?_setCell_other _ _ _ _ (by intro e; injection e with _ e2; omega)]; exact c1)
      · exact World.cell?_setCell_same _ _ _ (show World.cell? _ _ = some (Value.string (P j).2.2) by rw [World.cell?_setCell_other _ _ _ _ (by intro e; injection e with _ e2; omega), World.cell?_setCell_other _ _ _ _ (by intro e; injection e with _ e2; omega)]; exact c2)
    · unfold updP
      rw [if_neg hj2, setM_other _ _ _ _ _ (by omega), setM_other _ _ _ _ _ (by omega), setM_other _ _ _ _ _ (by omega)]
      exact h.pl j hj
theorem itemsP_add {P : Nat → Tm} {f n : Nat} {m : Tm} (hn : n ≤ 16) : itemsP (updP P ((f + n) % 17) m) f (n + 1) = itemsP P f n ++ [m] := by
  unfold itemsP
  rw [List.range_succ, List.map_append]
  congr 1
  · refine List.map_congr_left fun i hi => ?_
    have := List.mem_range.1 hi
    unfold updP
    rw [if_neg (by omega)]
  · simp [updP]
theorem RBody.add {B b : Nat} {A : Na} {P : Nat → Tm} {f : Nat} {v : Rv} {sa : Option Addr} {s sc : Nat} {ys : List Sa} {w : World} (m : Tm) (h : RBody B b A P f v sa s sc ys w) (hi : v.it.length ≤ 16) (hf : f + v.it.length ≤ 1000000000) (hm : m.2.2.size ≤ maxLen) :
    RBody B b A (updP P ((f + v.it.length) % 17) m) f { v with it := v.it ++ [m], se := v.se + 1 } sa s sc ys ((setM w b (3 + (f + v.it.length) % 17 * 3) m).setCell ⟨b, 55, none⟩ (.int .i64 ((f + v.it.length + 1 : Nat) : Int))) := by
  have hs : (f + v.it.length) % 17 < 17 := Nat.mod_lt _ (by omega)
  obtain ⟨s0, hs0⟩ : ∃ s0, (f + v.it.length) % 17 = s0 := ⟨_, rfl⟩
  rw [hs0] at hs ⊢
  have hg : w.grownBy ((setM w b (3 + s0 * 3) m).setCell ⟨b, 55, none⟩ (.int .i64 ((f + v.it.length + 1 : Nat) : Int))) (some b) := (setM_grown _ _ _ _).trans (grown_setC _ _ _ _)
  have ct : ∀ j, (j < 3 ∨ 54 ≤ j) → j ≠ 55 → ((setM w b (3 + s0 * 3) m).setCell ⟨b, 55, none⟩ (.int .i64 ((f + v.it.length + 1 : Nat) : Int))).cell? ⟨b, j, none⟩ = w.cell? ⟨b, j, none⟩ := fun j hj hj2 => by
    rw [World.cell?_setCell_other _ _ _ _ (by intro e; injection e with _ e2; omega), setM_other _ _ _ _ _ (by omega)]
  have hw := (((h.wst.setc (3 + s0 * 3) (by omega) (.int .i64 m.1)).setc (3 + s0 * 3 + 1) (by omega) (.int .i64 m.2.1)).setc (3 + s0 * 3 + 2) (by omega) (.string m.2.2)).setc 55 (by omega) (.int .i64 ((f + v.it.length + 1 : Nat) : Int))
  refine ⟨hw, (h.rnd.put hs m).set 55 (by omega) _, by rw [ct 2 (by omega) (by omega)]; exact h.c2, by rw [ct (3 + 51) (by omega) (by omega)]; exact h.fst, ?_, by rw [ct 56 (by omega) (by omega)]; exact h.c56, by rw [ct 57 (by omega) (by omega)]; exact h.c57, by rw [ct 58 (by omega) (by omega)]; exact h.c58, ⟨rowG h.srow.sb hg (fun q e => by injection e with e; rw [← e]; exact h.nb.1), fun x hx => rowG (h.srow.fl x hx) hg (fun q e => by injection e with e; rw [← e]; exact h.nb.2 x hx), h.srow.fls, h.srow.apt⟩, h.sv, ?_, fun j => ?_, ?_, ?_, h.nb, h.ap⟩
  · have e : (v.it ++ [m]).length = v.it.length + 1 := by simp
    show _ = some (Value.int .i64 ((f + (v.it ++ [m]).length : Nat) : Int))
    rw [e]
    exact World.cell?_setCell_same _ _ _ (by rw [setM_other _ _ _ _ _ (by omega)]; exact h.nxt)
  · show itemsP _ f (v.it ++ [m]).length = v.it ++ [m]
    have e : (v.it ++ [m]).length = v.it.length + 1 := by simp
    rw [e, ← hs0, itemsP_add hi, h.its]
  · unfold updP
    split
    · exact hm
    · exact h.sh j
  · show v.se + 1 = ((f + (v.it ++ [m]).length : Nat) : Int)
    have := h.se
    simp
    omega
  · show (v.it ++ [m]).length ≤ 17 ∧ f + (v.it ++ [m]).length ≤ 2000000000
    simp
    omega
open Go.RowKit Go.Maps Pl Il
theorem sndB_bd (sb : List Sb) (m : Tm) (x y : Int) (h : ∀ s, s ∈ sb → 0 ≤ s.cu ∧ s.cu ≤ x ∧ 0 ≤ s.pa ∧ s.pa ≤ y) : ∀ l : List Int, ∀ s, s ∈ sndB sb m l → 0 ≤ s.cu ∧ s.cu ≤ x + l.length ∧ 0 ≤ s.pa ∧ s.pa ≤ y + l.length := by
  suffices h' : ∀ (l : List Int) (t : List Sb) (n : Nat), (∀ s, s ∈ t → 0 ≤ s.cu ∧ s.cu ≤ x + n ∧ 0 ≤ s.pa ∧ s.pa ≤ y + n) → ∀ s, s ∈ l.foldl (fun s id => if pasR (flAt sb id) m = true then s else bump s (atR sb id).toNat) t → 0 ≤ s.cu ∧ s.cu ≤ x + (n + l.length : Nat) ∧ 0 ≤ s.pa ∧ s.pa ≤ y + (n + l.length : Nat) from fun l s hs => by
    have := h' l sb 0 (fun s hs => by have := h s hs; omega) s hs
    rw [Nat.zero_add] at this
    exact this
  intro l
  induction l with
  | nil => intro t n ht s hs; exact ht s hs
  | cons id l ih =>
    intro t n ht s hs
    rw [List.foldl_cons] at hs
    have := ih _ (n + 1) (fun s hs => by
      split at hs
      · have := ht s hs; omega
      · by_cases hk : (atR sb id).toNat < t.length
        · rcases List.mem_or_eq_of_mem_set hs with h2 | h2
          · have := ht s h2; omega
          · have h3 : t.getD (atR sb id).toNat Sb0 ∈ t := by
              rw [List.getD, List.getElem?_eq_getElem hk, Option.getD_some]; exact List.getElem_mem _
            have h4 := ht _ h3
            rw [h2]
            show 0 ≤ (t.getD (atR sb id).toNat Sb0).cu + 1 ∧ (t.getD (atR sb id).toNat Sb0).cu + 1 ≤ _ ∧ 0 ≤ (t.getD (atR sb id).toNat Sb0).pa + 1 ∧ (t.getD (atR sb id).toNat Sb0).pa + 1 ≤ _
            omega
        · unfold bump at hs
          rw [List.set_eq_of_length_le (by omega)] at hs
          have := ht s hs; omega) s hs
    rw [List.length_cons]
    omega
theorem at_line {v : Rv} {j : Nat} (h : okR restR v = true) (hj : j < v.ln.length) : ¬ atR v.sb (v.ln.getD j 0) < 0 := by
  have hr := h
  simp only [okR, restR, Bool.and_eq_true] at hr
  have hw := hr.2.2.2.2
  unfold waitTo at hw
  rw [List.all_eq_true] at hw
  have h1 := hw j (List.mem_range.2 (by omega))
  unfold waitAt at h1
  simp only [Bool.and_eq_true, decide_eq_true_eq] at h1
  have e2 : (v.ln ++ v.gs).getD j 0 = v.ln.getD j 0 := by
    simp only [List.getD_eq_getElem?_getD]
    rw [List.getElem?_append_left hj]
  rw [e2] at h1
  omega
theorem take_getD {xs : List Int} {j : Nat} (hj : j < xs.length) : xs.take (j + 1) = xs.take j ++ [xs.getD j 0] := by
  rw [List.take_succ_eq_append_getElem hj, List.getD, List.getElem?_eq_getElem hj, Option.getD_some]
theorem ints_row {B : Nat} {w : World} {a : Option Addr} {n c : Nat} {xs : List Int} (h : w.ownsRow B 3 1 (.slice a n c) n (intsV xs)) : IntsAt w a n xs := by
  obtain ⟨a', c', e, ho⟩ := own_of h xs rfl
  injection e with e1 e2 e3
  subst e1
  exact ho.ints
end Go.Proofs.YtihdglmiecifjaaGreat
