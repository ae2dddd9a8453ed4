/-
  Rings in memory: owned; the laws' own helper that makes one anew.
-/
import Derived.Test.YtffpecdjfcgadaaGreatDoorZTm10
namespace Go.Proofs.YtffpecdjfcgadaaGreatDoor
open Go.RowKit Pl Il

/-- A block that holds none of it turns. -/
theorem OwnS.other {B b : Nat} {w w' : World} {a : Option Addr} {n : Nat} {xs : List Sa} (h : OwnS B w a n xs) (hg : w.grownBy w' (some b)) (hne : n = 0 ∨ ∀ b' off', a = some ⟨b', off', none⟩ → b ≠ b') (hfe : ∀ x, x ∈ xs → x.n = 0 ∨ ∀ b' off', x.a = some ⟨b', off', none⟩ → b ≠ b') : OwnS B w' a n xs := by
  refine ⟨⟨h.sub.len, fun x hx => ((h.fow x hx).other hg (hfe x hx)).tm, ?_⟩, ?_, fun x hx => (h.fow x hx).other hg (hfe x hx), h.apt, h.apa⟩
  · rcases h.sub.row with k | ⟨b1, off1, rfl, hlt, hc⟩
    · exact .inl k
    · rcases hne with k | hne
      · exact .inl k
      · have hb := hne b1 off1 rfl
        have key := hg.block b1 hlt (fun e => hb (by injection e with e; exact e.symm))
        exact .inr ⟨b1, off1, rfl, Nat.lt_of_lt_of_le hlt hg.size, fun i hi => (hc i hi).same fun j _ => World.cell?_of_block key⟩
  · rcases h.own with k | ⟨b1, off1, rfl, hB, hf⟩
    · exact .inl k
    · rcases hne with k | hne
      · exact .inl k
      · rcases h.sub.row with k | ⟨b2, off2, e, hlt, _⟩
        · exact .inl k
        · cases e
          have hb := hne b1 off1 rfl
          have key := hg.block b1 hlt (fun e => hb (by injection e with e; exact e.symm))
          exact .inr ⟨b1, off1, rfl, hB, fun o => by rw [← hf o]; exact World.frozen?_of_block key⟩
theorem OwnS.far {B : Nat} {w : World} {a : Option Addr} {n : Nat} {xs : List Sa} (h : OwnS B w a n xs) (b o : Nat) (hb : b < B) (v : Value) : OwnS B (w.setCell ⟨b, o, none⟩ v) a n xs := by
  refine h.other (b := b) ⟨rfl, rfl, rfl, by simp, fun j _ hj => Below.heap_setCell _ _ _ _ (by rintro rfl; exact hj rfl)⟩ ?_ (fun x hx => ?_)
  · rcases h.own with k | ⟨b', off', e, hB, _⟩
    · exact .inl k
    · exact .inr fun b1 o1 e1 => by rw [e] at e1; cases e1; omega
  · rcases (h.fow x hx).own with k | ⟨b', off', e, hB, _⟩
    · exact .inl k
    · exact .inr fun b1 o1 e1 => by rw [e] at e1; cases e1; omega
/-- A slice's block lies below K; from K on. -/
def Und (a : Option Addr) (n K : Nat) : Prop := n = 0 ∨ ∀ b off, a = some ⟨b, off, none⟩ → b < K
def Abv (a : Option Addr) (n K : Nat) : Prop := n = 0 ∨ ∀ b off, a = some ⟨b, off, none⟩ → K ≤ b
theorem Und.mono {a : Option Addr} {n K K' : Nat} (h : Und a n K) (hk : K ≤ K') : Und a n K' := h.imp id fun h b off e => Nat.lt_of_lt_of_le (h b off e) hk
theorem Abv.mono {a : Option Addr} {n K K' : Nat} (h : Abv a n K) (hk : K' ≤ K) : Abv a n K' := h.imp id fun h b off e => Nat.le_trans hk (h b off e)
theorem Far.mk {a a' : Option Addr} {n n' K : Nat} (h : Und a n K) (h' : Abv a' n' K) : Far a n a' n' := by
  rcases h with h | h
  · exact .inl h
  · rcases h' with h' | h'
    · exact .inr (.inl h')
    · exact .inr (.inr fun b off b' off' e e' => by have := h b off e; have := h' b' off' e'; omega)
theorem OwnF.abv {B : Nat} {w : World} {a : Option Addr} {n : Nat} {ts : List Tm} (h : OwnF B w a n ts) : Abv a n B := by
  rcases h.own with k | ⟨b', off', e, hB, _⟩
  · exact .inl k
  · exact .inr fun b1 o1 e1 => by rw [e] at e1; cases e1; exact hB
theorem und_ints {w : World} {a : Option Addr} {n : Nat} {xs : List Int} (h : IntsAt w a n xs) : Und a n w.heap.size := by
  rcases h.row with k | ⟨b', off', e, hlt, _⟩
  · exact .inl k
  · exact .inr fun b1 o1 e1 => by rw [e] at e1; cases e1; exact hlt
/-- All its lists. -/
def allR (M : Rm) : List (Option Addr × Nat) := (M.ia, M.i) :: (M.sa, M.s) :: (M.la, M.l) :: (M.ga, M.g) :: M.xs.map fun x => (x.a, x.n)
/-- A ring's lists have room enough for what they hold. -/
def RCap (M : Rm) : Prop := M.i ≤ M.ic ∧ M.s ≤ M.sc ∧ M.l ≤ M.lc ∧ M.g ≤ M.gc ∧ ∀ x, x ∈ M.xs → x.n ≤ x.c
/-- Its lists lie in blocks from B on, and may be written; no two share a block. -/
structure ROwn (B : Nat) (w : World) (M : Rm) (v : Rv) : Prop where
  it : OwnF B w M.ia M.i v.it
  sb : OwnS B w M.sa M.s M.xs
  sv : svs M.xs = v.sb
  ln : Il.OwnAt B w M.la M.l v.ln
  gs : Il.OwnAt B w M.ga M.g v.gs
  apt : (allR M).Pairwise fun p q => Far p.1 p.2 q.1 q.2
  cap : RCap M
theorem ROwn.rin {B : Nat} {w : World} {M : Rm} {v : Rv} (h : ROwn B w M v) : RIn w M v := ⟨h.it.tm, h.sb.sub, h.sv, h.ln.ints, h.gs.ints⟩
theorem ROwn.keep {B : Nat} {w w' : World} {M : Rm} {v : Rv} (h : ROwn B w M v) (hb : Below w.heap.size w w') : ROwn B w' M v := ⟨h.it.keep hb, h.sb.keep hb, h.sv, h.ln.keep hb, h.gs.keep hb, h.apt, h.cap⟩
theorem ROwn.mono {B B' : Nat} {w : World} {M : Rm} {v : Rv} (h : ROwn B w M v) (hB : B' ≤ B) : ROwn B' w M v := ⟨h.it.mono hB, h.sb.mono hB, h.sv, h.ln.mono hB, h.gs.mono hB, h.apt, h.cap⟩
theorem ROwn.far {B : Nat} {w : World} {M : Rm} {v : Rv} (h : ROwn B w M v) (b o : Nat) (hb : b < B) (x : Value) : ROwn B (w.setCell ⟨b, o, none⟩ x) M v := ⟨h.it.far b o hb x, h.sb.far b o hb x, h.sv, h.ln.far b o hb x, h.gs.far b o hb x, h.apt, h.cap⟩
/-- A ring was made anew. -/
def ToR (w : World) (M : Rm) (v : Rv) (e : Ending) (w' : World) : Prop := ∃ M' : Rm, e = .returned (.agg #[.int .i64 v.cp, .int .i64 v.se, .slice M'.ia M'.i M'.ic, .int .i64 v.nx, .slice M'.sa M'.s M'.sc, .slice M'.la M'.l M'.lc, .slice M'.ga M'.g M'.gc, .bool v.cl]) ∧ ROwn w.heap.size w' M' v ∧ (∀ k, RLe M k → RLe M' k) ∧ (M'.i ≤ M'.ic ∧ M'.s ≤ M'.sc ∧ M'.l ≤ M'.lc ∧ M'.g ≤ M'.gc ∧ ∀ x, x ∈ M'.xs → x.n ≤ x.c) ∧ Below w.heap.size w w'
set_option maxHeartbeats 8000000 in
theorem toRing_any (M : Rm) (v : Rv) (w : World) (hI : RIn w M v) (hm : RLe M 2097152) :
    Calls Tryz.prog 32 #[.agg #[.int .i64 v.cp, .int .i64 v.se, .slice M.ia M.i M.ic, .int .i64 v.nx, .slice M.sa M.s M.sc, .slice M.la M.l M.lc, .slice M.ga M.g M.gc, .bool v.cl]] w fun e w' => ToR w M v e w' := by
  obtain ⟨W0, hW0⟩ : ∃ W, W = ((w.alloc (.cells #[.int .i64 v.cp, .int .i64 v.se, .slice M.ia M.i M.ic, .int .i64 v.nx, .slice M.sa M.s M.sc, .slice M.la M.l M.lc, .slice M.ga M.g M.gc, .bool v.cl] 43)).alloc (.cells #[.int .i64 0, .int .i64 0, .slice none 0 0, .int .i64 0, .slice none 0 0, .slice none 0 0, .slice none 0 0, .bool false] 53)).alloc (.cells #[.int .i64 v.cp, .int .i64 v.se, .slice none 0 0, .int .i64 0, .slice none 0 0, .slice none 0 0, .slice none 0 0, .bool false] 53) := ⟨_, rfl⟩
  have b0 : Below w.heap.size w W0 := by rw [hW0]; exact bl_alloc (bl_alloc (bl_alloc (Below.refl _ _) _) _) _
  have s0 : W0.heap.size = w.heap.size + 3 := by rw [hW0]; simp
  have X0 : BoxL w.heap.size (rC M v) W0 := by rw [hW0]; exact ((BoxL.new w (rC M v) _).alloc _).alloc _
  have Y0 : BoxL (w.heap.size + 1) [.int .i64 0, .int .i64 0, .slice none 0 0, .int .i64 0, .slice none 0 0, .slice none 0 0, .slice none 0 0, .bool false] W0 := by
    rw [hW0]
    have h := (BoxL.new (w.alloc (.cells #[.int .i64 v.cp, .int .i64 v.se, .slice M.ia M.i M.ic, .int .i64 v.nx, .slice M.sa M.s M.sc, .slice M.la M.l M.lc, .slice M.ga M.g M.gc, .bool v.cl] 43)) [.int .i64 0, .int .i64 0, .slice none 0 0, .int .i64 0, .slice none 0 0, .slice none 0 0, .slice none 0 0, .bool false] 53).alloc (.cells #[.int .i64 v.cp, .int .i64 v.se, .slice none 0 0, .int .i64 0, .slice none 0 0, .slice none 0 0, .slice none 0 0, .bool false] 53)
    simpa using h
  have Z0 : BoxL (w.heap.size + 1 + 1) [.int .i64 v.cp, .int .i64 v.se, .slice none 0 0, .int .i64 0, .slice none 0 0, .slice none 0 0, .slice none 0 0, .bool false] W0 := by
    rw [hW0]
    have h := BoxL.new ((w.alloc (.cells #[.int .i64 v.cp, .int .i64 v.se, .slice M.ia M.i M.ic, .int .i64 v.nx, .slice M.sa M.s M.sc, .slice M.la M.l M.lc, .slice M.ga M.g M.gc, .bool v.cl] 43)).alloc (.cells #[.int .i64 0, .int .i64 0, .slice none 0 0, .int .i64 0, .slice none 0 0, .slice none 0 0, .slice none 0 0, .bool false] 53)) [.int .i64 v.cp, .int .i64 v.se, .slice none 0 0, .int .i64 0, .slice none 0 0, .slice none 0 0, .slice none 0 0, .bool false] 53
    simpa using h
  have HI := hidOf hI
  have HM := hidOf hm
  clear hI hm
  go_enter Tryz.func32, Tryz.ntmps32
  go_wp2_with fail
  rw [← hW0]
  clear hW0
  refine (toMsgS_any M.ia M.i M.ic v.it _ (HI.out.keep b0).it HM.out.i).mono ?_
  rintro e w1 ⟨rfl, o1, hb1⟩
  have hg1 : w.heap.size + 1 + 1 < W0.heap.size := by omega
  have x1 := X0.keep hb1
  have y1 := Y0.keep hb1
  have z1 := Z0.keep hb1
  have B1 := bl_trans b0 hb1
  have hs1 := hb1.size
  have U1 := hidOf (show Und (some ⟨W0.heap.size, 0, none⟩) M.i w1.heap.size from o1.tm.lt)
  clear X0 Y0 Z0 hb1 b0 s0
  generalize W0.heap.size = G1 at *
  have p3 := x1.cs 3 (by simp)
  have p4 := x1.cs 4 (by simp)
  have c2 := z1.cs 2 (by simp)
  have c3 := z1.cs 3 (by simp)
  have cf := z1.fr
  simp at p3 p4 c2 c3
  obtain ⟨V1, hV1⟩ : ∃ V, V = ((w1.setCell ⟨w.heap.size + 1 + 1, 2, none⟩ (.slice (some ⟨G1, 0, none⟩) M.i M.i)).setCell ⟨w.heap.size + 1 + 1, 3, none⟩ (.int .i64 v.nx)) := ⟨_, rfl⟩
  have X1 : BoxL w.heap.size (rC M v) V1 := by rw [hV1]; exact ((x1).far _ _ (by omega) _).far _ _ (by omega) _
  have Y1 : BoxL (w.heap.size + 1) [.int .i64 0, .int .i64 0, .slice none 0 0, .int .i64 0, .slice none 0 0, .slice none 0 0, .slice none 0 0, .bool false] V1 := by rw [hV1]; exact ((y1).far _ _ (by omega) _).far _ _ (by omega) _
  have Z1 := ((z1).set 2 (by simp) (.slice (some ⟨G1, 0, none⟩) M.i M.i)).set 3 (by simp) (.int .i64 v.nx)
  rw [← hV1] at Z1
  simp only [List.set_cons_zero, List.set_cons_succ] at Z1
  have o1v : OwnF G1 V1 (some ⟨G1, 0, none⟩) M.i v.it := by rw [hV1]; exact ((o1).far _ _ (by omega) _).far _ _ (by omega) _
  have BV1 : Below w.heap.size w V1 := by rw [hV1]; exact bl_setB (bl_setB (B1) _ _ (by omega) _) _ _ (by omega) _
  have sV1 := hidOf (show V1.heap.size = w1.heap.size by rw [hV1]; simp)
  clear x1 y1 z1 B1 o1
  go_wp2_with fail
  rw [← hV1]
  clear hV1 cf
  refine (toSubS_any M.sa M.s M.sc M.xs _ (HI.out.keep BV1).sb HM.out.s HM.out.f).mono ?_
  rintro e w2 ⟨ys, rfl, o2, hsv, hcp, hb2⟩
  have hg2 : w.heap.size + 1 + 1 < V1.heap.size := by have := sV1.out; omega
  have x2 := X1.keep hb2
  have y2 := Y1.keep hb2
  have z2 := Z1.keep hb2
  have B2 := bl_trans BV1 hb2
  have hs2 := hb2.size
  have o1 := o1v.keep hb2
  clear X1 Y1 Z1 hb2 BV1 o1v
  have E2 := hidOf (show w1.heap.size = V1.heap.size from sV1.out.symm)
  have U2 := hidOf (show Und (some ⟨V1.heap.size, 0, none⟩) M.s w2.heap.size from o2.sub.lt)
  have UF := hidOf (fun x (hx : x ∈ ys) => show Und x.a x.n w2.heap.size from (o2.fow x hx).tm.lt)
  have HSv := hidOf hsv
  have HCp := hidOf hcp
  clear p3 p4 c2 c3 sV1 hsv hcp
  generalize V1.heap.size = G2 at *
  have p5 := x2.cs 5 (by simp)
  have c4 := z2.cs 4 (by simp)
  have cf := z2.fr
  simp at p5 c4
  obtain ⟨V2, hV2⟩ : ∃ V, V = (w2.setCell ⟨w.heap.size + 1 + 1, 4, none⟩ (.slice (some ⟨G2, 0, none⟩) M.s M.s)) := ⟨_, rfl⟩
  have X2 : BoxL w.heap.size (rC M v) V2 := by rw [hV2]; exact (x2).far _ _ (by omega) _
  have Y2 : BoxL (w.heap.size + 1) [.int .i64 0, .int .i64 0, .slice none 0 0, .int .i64 0, .slice none 0 0, .slice none 0 0, .slice none 0 0, .bool false] V2 := by rw [hV2]; exact (y2).far _ _ (by omega) _
  have Z2 := (z2).set 4 (by simp) (.slice (some ⟨G2, 0, none⟩) M.s M.s)
  rw [← hV2] at Z2
  simp only [List.set_cons_zero, List.set_cons_succ] at Z2
  have o1v : OwnF G1 V2 (some ⟨G1, 0, none⟩) M.i v.it := by rw [hV2]; exact (o1).far _ _ (by omega) _
  have o2v : OwnS G2 V2 (some ⟨G2, 0, none⟩) M.s ys := by rw [hV2]; exact (o2).far _ _ (by omega) _
  have BV2 : Below w.heap.size w V2 := by rw [hV2]; exact bl_setB (B2) _ _ (by omega) _
  have sV2 := hidOf (show V2.heap.size = w2.heap.size by rw [hV2]; simp)
  clear x2 y2 z2 B2 o1 o2
  go_wp2_with fail
  rw [← hV2]
  clear hV2 cf
  refine (toIntS_any M.la M.l M.lc v.ln _ (HI.out.keep BV2).ln HM.out.l).mono ?_
  rintro e w3 ⟨rfl, o3, hb3⟩
  have hg3 : w.heap.size + 1 + 1 < V2.heap.size := by have := sV2.out; omega
  have x3 := X2.keep hb3
  have y3 := Y2.keep hb3
  have z3 := Z2.keep hb3
  have B3 := bl_trans BV2 hb3
  have hs3 := hb3.size
  have o1 := o1v.keep hb3
  have o2 := o2v.keep hb3
  clear X2 Y2 Z2 hb3 BV2 o1v o2v
  have E3 := hidOf (show w2.heap.size = V2.heap.size from sV2.out.symm)
  have U3 := hidOf (show Und (some ⟨V2.heap.size, 0, none⟩) M.l w3.heap.size from und_ints o3.ints)
  clear p5 c4 sV2
  generalize V2.heap.size = G3 at *
  have p6 := x3.cs 6 (by simp)
  have c5 := z3.cs 5 (by simp)
  have cf := z3.fr
  simp at p6 c5
  obtain ⟨V3, hV3⟩ : ∃ V, V = (w3.setCell ⟨w.heap.size + 1 + 1, 5, none⟩ (.slice (some ⟨G3, 0, none⟩) M.l M.l)) := ⟨_, rfl⟩
  have X3 : BoxL w.heap.size (rC M v) V3 := by rw [hV3]; exact (x3).far _ _ (by omega) _
  have Y3 : BoxL (w.heap.size + 1) [.int .i64 0, .int .i64 0, .slice none 0 0, .int .i64 0, .slice none 0 0, .slice none 0 0, .slice none 0 0, .bool false] V3 := by rw [hV3]; exact (y3).far _ _ (by omega) _
  have Z3 := (z3).set 5 (by simp) (.slice (some ⟨G3, 0, none⟩) M.l M.l)
  rw [← hV3] at Z3
  simp only [List.set_cons_zero, List.set_cons_succ] at Z3
  have o1v : OwnF G1 V3 (some ⟨G1, 0, none⟩) M.i v.it := by rw [hV3]; exact (o1).far _ _ (by omega) _
  have o2v : OwnS G2 V3 (some ⟨G2, 0, none⟩) M.s ys := by rw [hV3]; exact (o2).far _ _ (by omega) _
  have o3v : Il.OwnAt G3 V3 (some ⟨G3, 0, none⟩) M.l v.ln := by rw [hV3]; exact (o3).far _ _ (by omega) _
  have BV3 : Below w.heap.size w V3 := by rw [hV3]; exact bl_setB (B3) _ _ (by omega) _
  have sV3 := hidOf (show V3.heap.size = w3.heap.size by rw [hV3]; simp)
  clear x3 y3 z3 B3 o1 o2 o3
  go_wp2_with fail
  rw [← hV3]
  clear hV3 cf
  refine (toIntS_any M.ga M.g M.gc v.gs _ (HI.out.keep BV3).gs HM.out.g).mono ?_
  rintro e w4 ⟨rfl, o4, hb4⟩
  have hg4 : w.heap.size + 1 + 1 < V3.heap.size := by have := sV3.out; omega
  have x4 := X3.keep hb4
  have y4 := Y3.keep hb4
  have z4 := Z3.keep hb4
  have B4 := bl_trans BV3 hb4
  have hs4 := hb4.size
  have o1 := o1v.keep hb4
  have o2 := o2v.keep hb4
  have o3 := o3v.keep hb4
  clear X3 Y3 Z3 hb4 BV3 o1v o2v o3v
  have E4 := hidOf (show w3.heap.size = V3.heap.size from sV3.out.symm)
  clear p6 c5 sV3
  generalize V3.heap.size = G4 at *
  have p7 := x4.cs 7 (by simp)
  have c6 := z4.cs 6 (by simp)
  have c7 := z4.cs 7 (by simp)
  have cf := z4.fr
  have Z4 := (z4.set 6 (by simp) (.slice (some ⟨G4, 0, none⟩) M.g M.g)).set 7 (by simp) (.bool v.cl)
  have Y4 := (y4.far (w.heap.size + 1 + 1) 6 (by omega) (.slice (some ⟨G4, 0, none⟩) M.g M.g)).far (w.heap.size + 1 + 1) 7 (by omega) (.bool v.cl)
  have YR := ((((((((Y4).set 0 (by simp) (.int .i64 v.cp)).set 1 (by simp) (.int .i64 v.se)).set 2 (by simp) (.slice (some ⟨G1, 0, none⟩) M.i M.i)).set 3 (by simp) (.int .i64 v.nx)).set 4 (by simp) (.slice (some ⟨G2, 0, none⟩) M.s M.s)).set 5 (by simp) (.slice (some ⟨G3, 0, none⟩) M.l M.l)).set 6 (by simp) (.slice (some ⟨G4, 0, none⟩) M.g M.g)).set 7 (by simp) (.bool v.cl)
  have d0 := Z4.cs 0 (by simp)
  have e0 := Y4.cs 0 (by simp)
  have t0 := YR.cs 0 (by simp)
  have d1 := Z4.cs 1 (by simp)
  have e1 := Y4.cs 1 (by simp)
  have t1 := YR.cs 1 (by simp)
  have d2 := Z4.cs 2 (by simp)
  have e2 := Y4.cs 2 (by simp)
  have t2 := YR.cs 2 (by simp)
  have d3 := Z4.cs 3 (by simp)
  have e3 := Y4.cs 3 (by simp)
  have t3 := YR.cs 3 (by simp)
  have d4 := Z4.cs 4 (by simp)
  have e4 := Y4.cs 4 (by simp)
  have t4 := YR.cs 4 (by simp)
  have d5 := Z4.cs 5 (by simp)
  have e5 := Y4.cs 5 (by simp)
  have t5 := YR.cs 5 (by simp)
  have d6 := Z4.cs 6 (by simp)
  have e6 := Y4.cs 6 (by simp)
  have t6 := YR.cs 6 (by simp)
  have d7 := Z4.cs 7 (by simp)
  have e7 := Y4.cs 7 (by simp)
  have t7 := YR.cs 7 (by simp)
  have ef := Y4.fr
  simp at p7 c6 c7 d0 e0 t0 d1 e1 t1 d2 e2 t2 d3 e3 t3 d4 e4 t4 d5 e5 t5 d6 e6 t6 d7 e7 t7
  have hF : ROwn w.heap.size ((((((((((w4.setCell ⟨w.heap.size + 1 + 1, 6, none⟩ (.slice (some ⟨G4, 0, none⟩) M.g M.g)).setCell ⟨w.heap.size + 1 + 1, 7, none⟩ (.bool v.cl)).setCell ⟨w.heap.size + 1, 0, none⟩ (.int .i64 v.cp)).setCell ⟨w.heap.size + 1, 1, none⟩ (.int .i64 v.se)).setCell ⟨w.heap.size + 1, 2, none⟩ (.slice (some ⟨G1, 0, none⟩) M.i M.i)).setCell ⟨w.heap.size + 1, 3, none⟩ (.int .i64 v.nx)).setCell ⟨w.heap.size + 1, 4, none⟩ (.slice (some ⟨G2, 0, none⟩) M.s M.s)).setCell ⟨w.heap.size + 1, 5, none⟩ (.slice (some ⟨G3, 0, none⟩) M.l M.l)).setCell ⟨w.heap.size + 1, 6, none⟩ (.slice (some ⟨G4, 0, none⟩) M.g M.g)).setCell ⟨w.heap.size + 1, 7, none⟩ (.bool v.cl)) ⟨some ⟨G1, 0, none⟩, M.i, M.i, some ⟨G2, 0, none⟩, M.s, M.s, ys, some ⟨G3, 0, none⟩, M.l, M.l, some ⟨G4, 0, none⟩, M.g, M.g⟩ v := by
    have q1 := (((((((((((o1).far (w.heap.size + 1 + 1) 6 (by omega) (.slice (some ⟨G4, 0, none⟩) M.g M.g)).far (w.heap.size + 1 + 1) 7 (by omega) (.bool v.cl)).far (w.heap.size + 1) 0 (by omega) (.int .i64 v.cp)).far (w.heap.size + 1) 1 (by omega) (.int .i64 v.se)).far (w.heap.size + 1) 2 (by omega) (.slice (some ⟨G1, 0, none⟩) M.i M.i)).far (w.heap.size + 1) 3 (by omega) (.int .i64 v.nx)).far (w.heap.size + 1) 4 (by omega) (.slice (some ⟨G2, 0, none⟩) M.s M.s)).far (w.heap.size + 1) 5 (by omega) (.slice (some ⟨G3, 0, none⟩) M.l M.l)).far (w.heap.size + 1) 6 (by omega) (.slice (some ⟨G4, 0, none⟩) M.g M.g)).far (w.heap.size + 1) 7 (by omega) (.bool v.cl)).mono (B' := w.heap.size) (by omega)
    have q2 := (((((((((((o2).far (w.heap.size + 1 + 1) 6 (by omega) (.slice (some ⟨G4, 0, none⟩) M.g M.g)).far (w.heap.size + 1 + 1) 7 (by omega) (.bool v.cl)).far (w.heap.size + 1) 0 (by omega) (.int .i64 v.cp)).far (w.heap.size + 1) 1 (by omega) (.int .i64 v.se)).far (w.heap.size + 1) 2 (by omega) (.slice (some ⟨G1, 0, none⟩) M.i M.i)).far (w.heap.size + 1) 3 (by omega) (.int .i64 v.nx)).far (w.heap.size + 1) 4 (by omega) (.slice (some ⟨G2, 0, none⟩) M.s M.s)).far (w.heap.size + 1) 5 (by omega) (.slice (some ⟨G3, 0, none⟩) M.l M.l)).far (w.heap.size + 1) 6 (by omega) (.slice (some ⟨G4, 0, none⟩) M.g M.g)).far (w.heap.size + 1) 7 (by omega) (.bool v.cl)).mono (B' := w.heap.size) (by omega)
    have q3 := (((((((((((o3).far (w.heap.size + 1 + 1) 6 (by omega) (.slice (some ⟨G4, 0, none⟩) M.g M.g)).far (w.heap.size + 1 + 1) 7 (by omega) (.bool v.cl)).far (w.heap.size + 1) 0 (by omega) (.int .i64 v.cp)).far (w.heap.size + 1) 1 (by omega) (.int .i64 v.se)).far (w.heap.size + 1) 2 (by omega) (.slice (some ⟨G1, 0, none⟩) M.i M.i)).far (w.heap.size + 1) 3 (by omega) (.int .i64 v.nx)).far (w.heap.size + 1) 4 (by omega) (.slice (some ⟨G2, 0, none⟩) M.s M.s)).far (w.heap.size + 1) 5 (by omega) (.slice (some ⟨G3, 0, none⟩) M.l M.l)).far (w.heap.size + 1) 6 (by omega) (.slice (some ⟨G4, 0, none⟩) M.g M.g)).far (w.heap.size + 1) 7 (by omega) (.bool v.cl)).mono (B' := w.heap.size) (by omega)
    have q4 := (((((((((((o4).far (w.heap.size + 1 + 1) 6 (by omega) (.slice (some ⟨G4, 0, none⟩) M.g M.g)).far (w.heap.size + 1 + 1) 7 (by omega) (.bool v.cl)).far (w.heap.size + 1) 0 (by omega) (.int .i64 v.cp)).far (w.heap.size + 1) 1 (by omega) (.int .i64 v.se)).far (w.heap.size + 1) 2 (by omega) (.slice (some ⟨G1, 0, none⟩) M.i M.i)).far (w.heap.size + 1) 3 (by omega) (.int .i64 v.nx)).far (w.heap.size + 1) 4 (by omega) (.slice (some ⟨G2, 0, none⟩) M.s M.s)).far (w.heap.size + 1) 5 (by omega) (.slice (some ⟨G3, 0, none⟩) M.l M.l)).far (w.heap.size + 1) 6 (by omega) (.slice (some ⟨G4, 0, none⟩) M.g M.g)).far (w.heap.size + 1) 7 (by omega) (.bool v.cl)).mono (B' := w.heap.size) (by omega)
    have A2 : Abv (some ⟨G2, 0, none⟩) M.s G2 := .inr fun b off e => by cases e; omega
    have A3 : Abv (some ⟨G3, 0, none⟩) M.l G3 := .inr fun b off e => by cases e; omega
    have A4 : Abv (some ⟨G4, 0, none⟩) M.g G4 := .inr fun b off e => by cases e; omega
    have u1 : Und (some ⟨G1, 0, none⟩) M.i G2 := U1.out.mono (Nat.le_of_eq E2.out)
    have u2 : Und (some ⟨G2, 0, none⟩) M.s G3 := U2.out.mono (Nat.le_of_eq E3.out)
    have u3 : Und (some ⟨G3, 0, none⟩) M.l G4 := U3.out.mono (Nat.le_of_eq E4.out)
    have uF : ∀ x, x ∈ ys → Und x.a x.n G3 := fun x hx => (UF.out x hx).mono (Nat.le_of_eq E3.out)
    have aF : ∀ x, x ∈ ys → Abv x.a x.n G2 := fun x hx => (o2.fow x hx).abv
    have h23 : G2 ≤ G3 := by have := E3.out; omega
    have h34 : G3 ≤ G4 := by have := E4.out; omega
    refine ⟨q1, q2, HSv.out.trans HI.out.sv, q3, q4, ?_, ⟨Nat.le_refl _, Nat.le_refl _, Nat.le_refl _, Nat.le_refl _, fun y hy => (HCp.out y hy).1⟩⟩
    unfold allR
    simp only [List.pairwise_cons, List.mem_cons, List.mem_map, forall_eq_or_imp]
    refine ⟨⟨Far.mk u1 A2, Far.mk u1 (A3.mono h23), Far.mk u1 (A4.mono (Nat.le_trans h23 h34)), ?_⟩, ⟨Far.mk u2 A3, Far.mk u2 (A4.mono h34), ?_⟩, ⟨Far.mk u3 A4, ?_⟩, ?_, ?_⟩
    · rintro p ⟨x, hx, rfl⟩
      exact Far.mk u1 (aF x hx)
    · rintro p ⟨x, hx, rfl⟩
      exact o2.apa x hx
    · rintro p ⟨x, hx, rfl⟩
      exact (Far.mk (uF x hx) A3).symm
    · rintro p ⟨x, hx, rfl⟩
      exact (Far.mk ((uF x hx).mono h34) A4).symm
    · rw [List.pairwise_map]
      exact o2.apt
  have hB := bl_setB (bl_setB (bl_setB (bl_setB (bl_setB (bl_setB (bl_setB (bl_setB (bl_setB (bl_setB (B4) (w.heap.size + 1 + 1) 6 (by omega) (.slice (some ⟨G4, 0, none⟩) M.g M.g)) (w.heap.size + 1 + 1) 7 (by omega) (.bool v.cl)) (w.heap.size + 1) 0 (by omega) (.int .i64 v.cp)) (w.heap.size + 1) 1 (by omega) (.int .i64 v.se)) (w.heap.size + 1) 2 (by omega) (.slice (some ⟨G1, 0, none⟩) M.i M.i)) (w.heap.size + 1) 3 (by omega) (.int .i64 v.nx)) (w.heap.size + 1) 4 (by omega) (.slice (some ⟨G2, 0, none⟩) M.s M.s)) (w.heap.size + 1) 5 (by omega) (.slice (some ⟨G3, 0, none⟩) M.l M.l)) (w.heap.size + 1) 6 (by omega) (.slice (some ⟨G4, 0, none⟩) M.g M.g)) (w.heap.size + 1) 7 (by omega) (.bool v.cl)
  have hL : ∀ k, RLe M k → RLe (⟨some ⟨G1, 0, none⟩, M.i, M.i, some ⟨G2, 0, none⟩, M.s, M.s, ys, some ⟨G3, 0, none⟩, M.l, M.l, some ⟨G4, 0, none⟩, M.g, M.g⟩ : Rm) k := fun k h => ⟨h.i, h.s, fun y hy => (by obtain ⟨_, x, hx, e⟩ := HCp.out y hy; rw [e]; exact h.f x hx), h.l, h.g⟩
  have HF := hidOf hF
  have HB := hidOf hB
  have HLe := hidOf hL
  clear hF hB hL o1 o2 o3 o4 B4 x4 y4 z4 Z4 Y4 YR HI HM U1 U2 U3 UF E2 E3 E4 HSv
  go_wp2
  exact bodyPost_ret (v := .agg #[.int .i64 v.cp, .int .i64 v.se, .slice (some ⟨G1, 0, none⟩) M.i M.i, .int .i64 v.nx, .slice (some ⟨G2, 0, none⟩) M.s M.s, .slice (some ⟨G3, 0, none⟩) M.l M.l, .slice (some ⟨G4, 0, none⟩) M.g M.g, .bool v.cl]) (by simp [results, Tryz.results32, go_sem, t0, t1, t2, t3, t4, t5, t6, t7]) rfl ⟨_, rfl, HF.out, HLe.out, ⟨Nat.le_refl _, Nat.le_refl _, Nat.le_refl _, Nat.le_refl _, fun y hy => (HCp.out y hy).1⟩, HB.out⟩
end Go.Proofs.YtffpecdjfcgadaaGreatDoor
