/-
  The specification's Unwait
  A ring as rows: more told, nobody waiting, closed
  The plain mathematics of reading: who reads, what it is told, what goe
  The specification's Receive
-/
import Derived.Test.YtihdglmiecifjaaGreatZRp25
import Derived.Test.YtihdglmiecifjaaGreatZRp40
import Derived.Test.YtihdglmiecifjaaGreatZRp41
namespace Go.Proofs.YtihdglmiecifjaaGreat
open Go.RowKit Pl Il
theorem RgPS.weak {w : World} {v : Rv} {c : Int} {e : Ending} {w' : World} (h : RgPS w v c e w') : RgP w v c e w' := by
  obtain ⟨M, he, hr, h1⟩ := h
  exact ⟨M, he, hr.own, h1⟩
open Go.RowKit Pl Il
def RgT (w : World) (v : Rv) (told : List Int) (c : Int) (e : Ending) (w' : World) : Prop := ∃ (M : Rm) (a : Option Addr) (n k : Nat), e = .returned (.tuple #[.agg #[.int .i64 v.cp, .int .i64 v.se, .slice M.ia M.i M.ic, .int .i64 v.nx, .slice M.sa M.s M.sc, .slice M.la M.l M.lc, .slice M.ga M.g M.gc, .bool v.cl], .slice a n k, .int .i64 c]) ∧ ROwn w.heap.size w' M v ∧ RLe M 2097152 ∧ Il.OwnAt w.heap.size w' a n told ∧ n ≤ 2097152 ∧ (∀ p, p ∈ allR M → Far p.1 p.2 a n) ∧ Below w.heap.size w w'
theorem RgTS.weak {w : World} {v : Rv} {t : List Int} {c : Int} {e : Ending} {w' : World} (h : RgTS w v t c e w') : RgT w v t c e w' := by
  obtain ⟨M, a, n, k, he, hr, h1⟩ := h
  exact ⟨M, a, n, k, he, hr.own, h1⟩
end Go.Proofs.YtihdglmiecifjaaGreat
namespace Go.Proofs.YtihdglmiecifjaaGreat
open Go.RowKit Go.Maps Pl Il
theorem RgDS.weak {w : World} {v : Rv} {t : Td} {c : Int} {e : Ending} {w' : World} (h : RgDS w v t c e w') : RgD w v t c e w' := by
  obtain ⟨M, he, hr, h1⟩ := h
  exact ⟨M, he, hr.own, h1⟩
open Go.RowKit Go.Maps Pl Il
theorem specReceive_any : RecDone 38 := fun M v id w a b c d e f => (specReceive_anyS M v id w a b c d e f).mono fun _ _ h => RgDS.weak h
end Go.Proofs.YtihdglmiecifjaaGreat
namespace Go.Proofs.YtihdglmiecifjaaGreat
open Go.RowKit Go.Maps Pl Il Dr
def RidP (w : World) (e : Ending) (w' : World) : Prop := ∃ (M : Rm) (v : Rv) (z : Int), e = .returned (.tuple #[.agg #[.int .i64 v.cp, .int .i64 v.se, .slice M.ia M.i M.ic, .int .i64 v.nx, .slice M.sa M.s M.sc, .slice M.la M.l M.lc, .slice M.ga M.g M.gc, .bool v.cl], .int .i64 z]) ∧ RRow w.heap.size w' M v ∧ RLe M 66 ∧ RWf v ∧ (Lit.int .i64 z).wf = true ∧ Below w.heap.size w w'
section
variable {c : Nat} {a : Option Addr} {len cap : Nat} {w : World} {N B : Nat} {M : Rm} {v : Rv} {u u' : World}
end
set_option maxRecDepth 100000 in
set_option maxHeartbeats 8000000 in
theorem drawPeek_any (a : Option Addr) (len cap : Nat) (w : World) (hB : Bytes w.heap.size w a len cap) (hG : GOk w) :
  Calls Tryz.prog 35 #[.slice a len cap] w fun e w' => RidP w e w' := by
 have bA : Below w.heap.size w (w.alloc (.cells #[.int .i64 0, .int .i64 0, .slice none 0 0, .int .i64 0, .slice none 0 0, .slice none 0 0, .slice none 0 0, .bool false] 28)) := bl_alloc (Below.refl _ _) _
 have hgl := hG.lt
 have HBy := hidOf (show len = 0 ∨ ∀ b off, a = some ⟨b, off, none⟩ → b ≠ w.heap.size from by
  obtain ⟨_, _, k | ⟨b, off, e, hb, _⟩⟩ := id hB
  ·exact .inl k
  ·exact .inr fun b' off' e' => by rw [e] at e'; cases e'; omega)
 go_enter Tryz.func35, Tryz.ntmps35
 go_wp2_with fail
 refine (new_any a len cap _ (hB.laterR bA _ (by simp))).mono ?_
 rintro e w1 ⟨rfl, hC, hb1⟩
 have r1 := (BoxL.new w zR 28).keep hb1
 have hb := bl_trans bA hb1
 have G1 := hG.keep hb
 clear hb1 bA hB
 simp only [World.size_alloc] at hC r1
 have hlt1 := hC.lt
 go_wp2_with fail
 refine (l9Some_any a len cap _ _ hC G1 (by omega)).mono ?_
 rintro e w2 ⟨M, v, rfl, hrow, hle, hwf, hd2⟩
 have hs2 := hd2.ex.size
 have r2 := r1.dr hd2 (by omega)
 have hB2 : Below w.heap.size w w2 := hb.trans (hd2.ex.below (by omega) hb.size)
 go_upto_region 3 with fail
 have ba := bl_alloc (Below.refl w2.heap.size w2) (.cells (rC M v).toArray 28)
 generalize hW3 : w2.alloc (.cells #[.int .i64 v.cp, .int .i64 v.se, .slice M.ia M.i M.ic, .int .i64 v.nx, .slice M.sa M.s M.sc, .slice M.la M.l M.lc, .slice M.ga M.g M.gc, .bool v.cl] 28) = W3
 rw [show w2.alloc (.cells (rC M v).toArray 28) = W3 from hW3] at ba
 have hx3 : BoxL w2.heap.size (rC M v) W3 := by rw [← hW3]; exact BoxL.new w2 (rC M v) _
 have hD3 : DrS (w.heap.size + 1) a len cap w w2.heap.size w1.heap.size M v W3 := ⟨hd2.cur.keep ba, bl_trans hB2 ba, hx3, hrow.keep ba⟩
 have r3 := r2.keep ba
 have hB3 := bl_trans hB2 ba
 have HId := hidOf (fun (u : World) (hu : DrS (w.heap.size + 1) a len cap w w2.heap.size w1.heap.size M v u) => l9Id_any a len cap (w.heap.size + 1) w1.heap.size M v u hu.cur hu.row (by omega) hle hwf)
 have HLe := hidOf hle
 have HWf := hidOf hwf
 have HBw := hidOf hb
 clear hW3 hx3 hb r1 r2 hd2 hrow hC G1 hle hwf hB2 ba
 have hS := hD3.drew.s
 have HR3 := hidOf r3
 clear r3
 refine wp_region_noPanic ?_
 refine wp_region_held_drew (S := fun u => DrC (w.heap.size + 1) a len cap w w2.heap.size w1.heap.size M v u) (by kernel_rfl) hS (fun hHeld => ?_)
 refine tK 0 ?_ rfl (by kernel_rfl) (by rfl) ?_ (by assumption) (fun _ _ _ h => h) ?_
 case refine_2 => (intro w hSw; (try dsimp only at hSw); go_simp; try with_reducible rfl)
 simp only [Act.put, List.getElem_toArray, List.getElem_cons_zero, List.setIfInBounds_toArray, List.set_cons_zero, List.set_cons_succ]
 refine tR 1 ?_
 refine tR 2 ?_
 refine tW 3 (fun K hK => ?_)
 go_simp
 refine (HId.out _ hD3.drew).mono ?_
 rintro e w5 ⟨z, rfl, hz, hd5⟩
 go_wp2_with fail
 have hD5 := hD3.drew.draw hd5 (by omega) (by omega) (by omega)
 have r5 := (HR3.out.keep (Below.refl _ _).drew).dr hd5 (by omega)
 have hB5 : Below w.heap.size w w5 := (bl_trans hB3 (Below.refl _ _).drew).trans (hd5.ex.below (by omega) (bl_trans hB3 (Below.refl _ _).drew).size)
 refine hK.out _ _ hD5.s (fun hHeld => ?_)
 clear hK K
 obtain ⟨t0, t1, t2, t3, t4, t5, t6, t7⟩ := box8 r5
 have rf := r5.fr
 have hD9 := hD5.res (by omega) (by omega) (by omega) HBy.out M v
 refine tW 4 (fun K hK => ?_)
 go_simp
 refine hK.out _ _ hD9.s (fun hHeld => ?_)
 clear hK K
 refine tR 5 ?_
 refine wpAnyH_done (by kernel_rfl) ?_ _
 refine NoPanic.normal ?_
 have x9 : BoxL w.heap.size (rC M v) (stR w5 w.heap.size M v) := by rw [stR_eq]; exact r5.setAll (us := rC M v) rfl
 have HF := hidOf (show RRow w.heap.size (stR w5 w.heap.size M v) M v ∧ Below w.heap.size w (stR w5 w.heap.size M v) from ⟨hD9.row.mono (by have := HBw.out.size; omega), by rw [stR_eq]; exact setL_below (Nat.le_refl _) hB5⟩)
 have HZ := hidOf hz
 obtain ⟨y0, y1, y2, y3, y4, y5, y6, y7⟩ := box8 x9
 clear hD9 hD5 hB5 hD3 hS hz hB3
 go_wp2_with fail
 exact bodyPost_ret (v := .tuple #[.agg #[.int .i64 v.cp, .int .i64 v.se, .slice M.ia M.i M.ic, .int .i64 v.nx, .slice M.sa M.s M.sc, .slice M.la M.l M.lc, .slice M.ga M.g M.gc, .bool v.cl], .int .i64 z]) (by simp [results, Tryz.results35, go_sem, t0, t1, t2, t3, t4, t5, t6, t7]) rfl ⟨M, v, z, rfl, HF.out.1, HLe.out, HWf.out, HZ.out, HF.out.2⟩
end Go.Proofs.YtihdglmiecifjaaGreat
namespace Go.Proofs.YtihdglmiecifjaaGreat
open Go.RowKit Go.Maps Pl Il
set_option maxRecDepth 10000 in
theorem neqTdq (kd a b : Int) (s : ByteArray) (ix n : Int) (w : World) : (binOp .neq 53 (.agg #[.int .i64 kd, .int .i64 a, .int .i64 b, .string s, .int .i64 ix, .int .i64 n]) (.agg #[.int .i64 kd, .int .i64 a, .int .i64 b, .string s, .int .i64 ix, .int .i64 n])).run Tryz.prog w = .ok (.bool false) w := by
  have u3 := Tryz.underlying3
  have a3 := Tryz.isAgg3
  have z3 := Tryz.sizeOf3
  have u9 := Tryz.underlying9
  have a9 := Tryz.isAgg9
  have z9 := Tryz.sizeOf9
  have hS : Tryz.prog.underlying 53 = some (.struct (Tryz.prog.fieldsOf 53)) := by kernel_rfl
  have hp : Tryz.prog.stoodInHeld 53 = false := by kernel_rfl
  have hS2 : Tryz.prog.underlying 30 = some (.struct (Tryz.prog.fieldsOf 30)) := by kernel_rfl
  have hp2 : Tryz.prog.stoodInHeld 30 = false := by kernel_rfl
  have aM := Tryz.isAgg30
  have zM := Tryz.sizeOf30
  have e2 : (Op.equalIn 9999 30 (.agg #[.int .i64 a, .int .i64 b, .string s]) (.agg #[.int .i64 a, .int .i64 b, .string s])).run Tryz.prog w = .ok true w := by
    rw [show (9999 : Nat) = 9998 + 1 from rfl, run_equalIn_agg w 9998 30 _ _ hS2 hp2]
    simp only [Program.fieldsOf, Tryz.underlying30]
    go_simp
  have e : (Op.equalIn 10000 53 (.agg #[.int .i64 kd, .int .i64 a, .int .i64 b, .string s, .int .i64 ix, .int .i64 n]) (.agg #[.int .i64 kd, .int .i64 a, .int .i64 b, .string s, .int .i64 ix, .int .i64 n])).run Tryz.prog w = .ok true w := by
    rw [show (10000 : Nat) = 9999 + 1 from rfl, run_equalIn_agg w 9999 53 _ _ hS hp]
    simp only [Program.fieldsOf, Tryz.underlying53]
    have hP : (part 30 #[.int .i64 kd, .int .i64 a, .int .i64 b, .string s, .int .i64 ix, .int .i64 n] 1).run Tryz.prog w = .ok (.agg #[.int .i64 a, .int .i64 b, .string s]) w := by
      unfold part
      simp [Sem.run_bind, aM, zM]
    have n1 : ("Kind" : String) ≠ "_" := by decide
    have n2 : ("Msg" : String) ≠ "_" := by decide
    have n3 : ("Index" : String) ≠ "_" := by decide
    have n4 : ("N" : String) ≠ "_" := by decide
    have hI : ∀ (k : Nat) (x : Int), (#[.int .i64 kd, .int .i64 a, .int .i64 b, .string s, .int .i64 ix, .int .i64 n] : Array Value)[k]? = some (.int .i64 x) → (part 3 #[.int .i64 kd, .int .i64 a, .int .i64 b, .string s, .int .i64 ix, .int .i64 n] k).run Tryz.prog w = .ok (.int .i64 x) w := fun k x hk => by
      unfold part
      simp [Sem.run_bind, a3, z3, hk]
    have h0 := hI 0 kd rfl
    have h4 := hI 4 ix rfl
    have h5 := hI 5 n rfl
    have hE : ∀ x : Int, (Op.equalIn 9999 3 (.int .i64 x) (.int .i64 x)).run Tryz.prog w = .ok true w := fun x => by go_simp
    simp [Op.eqFields, Sem.run_bind, hP, e2, h0, h4, h5, hE]
  rw [run_neq_struct, e]; rfl
end Go.Proofs.YtihdglmiecifjaaGreat
namespace Go.Proofs.YtihdglmiecifjaaGreat
open Go.RowKit Go.Maps Pl Il Dr
theorem trim_lnf (v : Rv) : (trimR v).ln = v.ln := by unfold trimR; split <;> rfl
theorem rec_wait {v : Rv} {id : Int} (h : recC v id = 4) : hasL (recG v id).ln id = true ∧ hasL v.ln id = false := by
  unfold recC at h
  unfold recG
  split at h
  · rename_i h1
    split at h
    · omega
    · rename_i h2
      split at h
      · omega
      · rename_i h3
        rw [if_pos h1, if_neg h2, if_neg h3, trim_lnf]
        unfold waitV
        rw [if_pos h]
        refine ⟨by simp [hasL], ?_⟩
        simp only [Bool.or_eq_true, not_or] at h3
        simpa using h3.1
  · omega
theorem box6t {N : Nat} {a0 a1 a2 a3 a4 a5 : Value} {w : World} (h : BoxL N [a0, a1, a2, a3, a4, a5] w) : w.cell? ⟨N, 0, none⟩ = some a0 ∧ w.cell? ⟨N, 1, none⟩ = some a1 ∧ w.cell? ⟨N, 2, none⟩ = some a2 ∧ w.cell? ⟨N, 3, none⟩ = some a3 ∧ w.cell? ⟨N, 4, none⟩ = some a4 ∧ w.cell? ⟨N, 5, none⟩ = some a5 := box6 h
set_option maxRecDepth 100000 in
set_option maxHeartbeats 16000000 in
theorem fnPeek_of (a : Option Addr) (len cap : Nat) (w : World) (hB : len ≤ 1048576 → Bytes w.heap.size w a len cap) (hG : GOk w) :
  Calls Tryz.prog 5 #[.slice a len cap] w fun e w' => e = .returned (.bool true) ∧ Below w.heap.size w w' := by
 have HBy := hidOf hB
 have HG := hidOf hG
 clear hB hG
 go_enter Tryz.func5, Tryz.ntmps5
 go_wp2_with fail
 refine (big_any a len cap _).mono ?_
 rintro e w0 ⟨rfl, hw0⟩
 obtain rfl : w = w0 := hw0.symm
 by_cases hbig : 1048576 < len
 ·have hb' : decide (1048576 < len) = true := by simp [hbig]
  rw [hb']
  go_wp2
  go_ret
  exact ⟨rfl, Below.refl _ _⟩
 have hb' : decide (1048576 < len) = false := by simp [hbig]
 rw [hb']
 have HBs := hidOf (HBy.out (by omega))
 clear hbig hb' HBy
 go_wp2_with fail
 refine (drawPeek_any a len cap _ HBs.out HG.out).mono ?_
 rintro e w1 ⟨M, v, z, rfl, hrow, hle, hwf, hz, hb1⟩
 have HIn1 := hidOf hrow.own.rin
 have HCap := hidOf hrow.cap
 have HLe := hidOf (hle.mono (k' := 1048576) (by omega))
 have HWf := hidOf hwf
 have HZ := hidOf hz
 have HG1 := hidOf (HG.out.keep hb1)
 have HB1 := hidOf hb1
 clear hrow hle hwf hz hb1 HBs
 go_upto_region 4 with fail
 obtain ⟨W2, hW2⟩ : ∃ W, w1.alloc (.cells #[.int .i64 v.cp, .int .i64 v.se, .slice M.ia M.i M.ic, .int .i64 v.nx, .slice M.sa M.s M.sc, .slice M.la M.l M.lc, .slice M.ga M.g M.gc, .bool v.cl] 28) = W := ⟨_, rfl⟩
 have x2 : BoxL w1.heap.size (rC M v) W2 := by rw [← hW2]; exact BoxL.new w1 (rC M v) _
 have b2 : Below w1.heap.size w1 W2 := by rw [← hW2]; exact bl_alloc (Below.refl _ _) _
 rw [hW2]
 have HIn2 := hidOf (HIn1.out.keep b2)
 have HB2 := hidOf (bl_trans HB1.out b2)
 have HG2 := hidOf (HG1.out.keep b2)
 generalize w1.heap.size = N at x2 ⊢
 have HX2 := hidOf x2
 have HPk := hidOf (fun (u : World) (hI : RIn u M v) (hg : GOk u) => implPeek_any M v z u hI HLe.out HCap.out HWf.out HZ.out hg)
 have HRi := hidOf (fun (u : World) (hI : RIn u M v) (hg : GOk u) => implReceive_any M v z u hI HLe.out HCap.out HWf.out HZ.out hg)
 have HRs := hidOf (fun (u : World) (hI : RIn u M v) (hg : GOk u) => specReceive_any M v z u hI HLe.out HCap.out HWf.out HZ.out hg)
 have HWt := hidOf (rec_wait (v := v) (id := z))
 generalize recG v z = y at HRi HRs HWt
 generalize recT v z = t at HPk HRi HRs
 generalize recC v z = cd at HPk HRi HRs HWt
 obtain ⟨kd, ⟨ma, mb, ms⟩, ix, n⟩ := t
 simp only at HPk HRi HRs
 obtain ⟨p0, p1, p2, p3, p4, p5, p6, p7⟩ := box8 x2
 clear hW2 x2 b2 HIn1 HB1 HG1
 go_wp2_with fail
 refine (HPk.out _ HIn2.out HG2.out).mono ?_
 rintro e w3 ⟨rfl, hb3⟩
 have HX3 := hidOf (HX2.out.keep hb3)
 have HIn3 := hidOf (HIn2.out.keep hb3)
 have HB3 := hidOf (bl_trans HB2.out hb3)
 have HG3 := hidOf (HG2.out.keep hb3)
 clear hb3 p0 p1 p2 p3 p4 p5 p6 p7 HX2 HIn2 HB2 HG2
 go_upto_region 5 with fail
 obtain ⟨W4, hW4⟩ : ∃ W, w3.alloc (.cells #[.int .i64 kd, .int .i64 ma, .int .i64 mb, .string ms, .int .i64 ix, .int .i64 n] 53) = W := ⟨_, rfl⟩
 have x4 : BoxL w3.heap.size [.int .i64 kd, .int .i64 ma, .int .i64 mb, .string ms, .int .i64 ix, .int .i64 n] W4 := by rw [← hW4]; exact BoxL.new w3 [.int .i64 kd, .int .i64 ma, .int .i64 mb, .string ms, .int .i64 ix, .int .i64 n] _
 have b4 : Below w3.heap.size w3 W4 := by rw [← hW4]; exact bl_alloc (Below.refl _ _) _
 rw [hW4]
 have HX4 := hidOf (HX3.out.keep b4)
 have HIn4 := hidOf (HIn3.out.keep b4)
 have HB4 := hidOf (bl_trans HB3.out b4)
 have HG4 := hidOf (HG3.out.keep b4)
 generalize w3.heap.size = P4 at x4 ⊢
 have HT4 := hidOf x4
 obtain ⟨p0, p1, p2, p3, p4, p5, p6, p7⟩ := box8 HX4.out
 clear hW4 x4 b4 HX3 HIn3 HB3 HG3
 go_wp2_with fail
 refine (HRi.out _ HIn4.out HG4.out).mono ?_
 rintro e w5 ⟨M5, rfl, ho5, hl5, hb5⟩
 have HX5 := hidOf (HX4.out.keep hb5)
 have HIn5 := hidOf (HIn4.out.keep hb5)
 have HB5 := hidOf (bl_trans HB4.out hb5)
 have HG5 := hidOf (HG4.out.keep hb5)
 have HT5 := hidOf (HT4.out.keep hb5)
 have HO5 := hidOf ho5.rin
 have HL5 := hidOf hl5
 clear ho5 hl5 hb5 p0 p1 p2 p3 p4 p5 p6 p7 HX4 HIn4 HB4 HG4 HT4
 go_upto_region 6 with fail
 obtain ⟨W6, hW6⟩ : ∃ W, w5.alloc (.cells #[.int .i64 y.cp, .int .i64 y.se, .slice M5.ia M5.i M5.ic, .int .i64 y.nx, .slice M5.sa M5.s M5.sc, .slice M5.la M5.l M5.lc, .slice M5.ga M5.g M5.gc, .bool y.cl] 28) = W := ⟨_, rfl⟩
 have x6 : BoxL w5.heap.size (rC M5 y) W6 := by rw [← hW6]; exact BoxL.new w5 (rC M5 y) _
 have b6 : Below w5.heap.size w5 W6 := by rw [← hW6]; exact bl_alloc (Below.refl _ _) _
 rw [hW6]
 obtain ⟨W7, hW7⟩ : ∃ W, W6.alloc (.cells #[.int .i64 kd, .int .i64 ma, .int .i64 mb, .string ms, .int .i64 ix, .int .i64 n] 53) = W := ⟨_, rfl⟩
 have x7 : BoxL W6.heap.size [.int .i64 kd, .int .i64 ma, .int .i64 mb, .string ms, .int .i64 ix, .int .i64 n] W7 := by rw [← hW7]; exact BoxL.new W6 [.int .i64 kd, .int .i64 ma, .int .i64 mb, .string ms, .int .i64 ix, .int .i64 n] _
 have b7 : Below W6.heap.size W6 W7 := by rw [← hW7]; exact bl_alloc (Below.refl _ _) _
 rw [hW7]
 have b67 := bl_trans b6 b7
 have HX7 := hidOf (HX5.out.keep b67)
 have HIn7 := hidOf (HIn5.out.keep b67)
 have HB7 := hidOf (bl_trans HB5.out b67)
 have HG7 := hidOf (HG5.out.keep b67)
 have HT7 := hidOf (HT5.out.keep b67)
 have HO7 := hidOf (HO5.out.keep b67)
 have x6' := x6.keep b7
 have hz6 : W6.heap.size = w5.heap.size + 1 := by rw [← hW6]; simp
 rw [hz6] at x7
 generalize hP6 : w5.heap.size = P6 at x6' x7 ⊢
 generalize hP7 : P6 + 1 = P7 at x7 ⊢
 have HY7 := hidOf x6'
 have HU7 := hidOf x7
 obtain ⟨p0, p1, p2, p3, p4, p5, p6, p7⟩ := box8 HX7.out
 clear hW6 hW7 x6 x6' x7 b6 b7 b67 hz6 hP6 hP7 HX5 HIn5 HB5 HG5 HT5 HO5
 go_wp2_with fail
 refine (HRs.out _ HIn7.out HG7.out).mono ?_
 rintro e w8 ⟨M8, rfl, ho8, hl8, hb8⟩
 have HX8 := hidOf (HX7.out.keep hb8)
 have HIn8 := hidOf (HIn7.out.keep hb8)
 have HB8 := hidOf (bl_trans HB7.out hb8)
 have HT8 := hidOf (HT7.out.keep hb8)
 have HY8 := hidOf (HY7.out.keep hb8)
 have HU8 := hidOf (HU7.out.keep hb8)
 have HO8 := hidOf (HO7.out.keep hb8)
 have HQ8 := hidOf ho8.rin
 have HL8 := hidOf hl8
 clear ho8 hl8 hb8 p0 p1 p2 p3 p4 p5 p6 p7 HX7 HIn7 HB7 HG7 HT7 HY7 HU7 HO7
 go_upto_region 7 with fail
 obtain ⟨W9, hW9⟩ : ∃ W, w8.alloc (.cells #[.int .i64 y.cp, .int .i64 y.se, .slice M8.ia M8.i M8.ic, .int .i64 y.nx, .slice M8.sa M8.s M8.sc, .slice M8.la M8.l M8.lc, .slice M8.ga M8.g M8.gc, .bool y.cl] 28) = W := ⟨_, rfl⟩
 have x9 : BoxL w8.heap.size (rC M8 y) W9 := by rw [← hW9]; exact BoxL.new w8 (rC M8 y) _
 have b9 : Below w8.heap.size w8 W9 := by rw [← hW9]; exact bl_alloc (Below.refl _ _) _
 rw [hW9]
 obtain ⟨W10, hW10⟩ : ∃ W, W9.alloc (.cells #[.int .i64 kd, .int .i64 ma, .int .i64 mb, .string ms, .int .i64 ix, .int .i64 n] 53) = W := ⟨_, rfl⟩
 have x10 : BoxL W9.heap.size [.int .i64 kd, .int .i64 ma, .int .i64 mb, .string ms, .int .i64 ix, .int .i64 n] W10 := by rw [← hW10]; exact BoxL.new W9 [.int .i64 kd, .int .i64 ma, .int .i64 mb, .string ms, .int .i64 ix, .int .i64 n] _
 have b10 : Below W9.heap.size W9 W10 := by rw [← hW10]; exact bl_alloc (Below.refl _ _) _
 rw [hW10]
 have b9t := bl_trans b9 b10
 have HX9 := hidOf (HX8.out.keep b9t)
 have HIn9 := hidOf (HIn8.out.keep b9t)
 have HB9 := hidOf (bl_trans HB8.out b9t)
 have HT9 := HT8.out.keep b9t
 have HY9 := hidOf (HY8.out.keep b9t)
 have HU9 := HU8.out.keep b9t
 have HO9 := hidOf (HO8.out.keep b9t)
 have HQ9 := hidOf (HQ8.out.keep b9t)
 have x9' := x9.keep b10
 have hz9 : W9.heap.size = w8.heap.size + 1 := by rw [← hW9]; simp
 rw [hz9] at x10
 generalize hP9 : w8.heap.size = P9 at x9' x10 ⊢
 generalize hP10 : P9 + 1 = P10 at x10 ⊢
 obtain ⟨t0, t1, t2, t3, t4, t5⟩ := box6t HT9
 obtain ⟨u0, u1, u2, u3, u4, u5⟩ := box6t HU9
 obtain ⟨s0, s1, s2, s3, s4, s5⟩ := box6t x10
 obtain ⟨q0, q1, q2, q3, q4, q5, q6, q7⟩ := box8 HY9.out
 obtain ⟨r0, r1, r2, r3, r4, r5, r6, r7⟩ := box8 x9'
 have hcc : (cd != cd) = false := by simp
 have hne := fun w => neqTdq kd ma mb ms ix n w
 clear hW9 hW10 x9 x9' x10 b9 b10 b9t hz9 hP9 hP10 HX8 HIn8 HB8 HT8 HY8 HU8 HO8 HQ8 HT9 HU9
 go_wp2_with fail
 refine (ringSame_any M5 M8 y _ HO9.out HQ9.out HL5.out HL8.out).mono ?_
 rintro e w11 ⟨rfl, hb11⟩
 have HX11 := hidOf (HX9.out.keep hb11)
 have HY11 := hidOf (HY9.out.keep hb11)
 have HIn11 := hidOf (HIn9.out.keep hb11)
 have HO11 := hidOf (HO9.out.keep hb11)
 have HB11 := hidOf (bl_trans HB9.out hb11)
 clear hb11 HX9 HIn9 HB9 HY9 HO9 HQ9 t0 t1 t2 t3 t4 t5 u0 u1 u2 u3 u4 u5 s0 s1 s2 s3 s4 s5 q0 q1 q2 q3 q4 q5 q6 q7 r0 r1 r2 r3 r4 r5 r6 r7 hne hcc
 have q5 := HY11.out.cs 5 (by simp)
 have p5 := HX11.out.cs 5 (by simp)
 simp only [List.getElem_cons_succ, List.getElem_cons_zero] at p5 q5
 by_cases h4 : cd = 4
 ·obtain ⟨w1', w2'⟩ := HWt.out h4
  subst h4
  have hml := HL5.out.l
  have hmr := HLe.out.l
  have HW1 := hidOf w1'
  have HW2 := hidOf w2'
  clear w1' w2' HWt HPk HRi HRs
  go_wp2_with fail
  refine (within_any M5.la M5.l M5.lc y.ln z _ HO11.out.ln (by omega)).mono ?_
  rintro e w12 ⟨rfl, hw12⟩
  obtain rfl : w11 = w12 := hw12.symm
  rw [HW1.out]
  go_wp2_with fail
  refine (within_any M.la M.l M.lc v.ln z _ HIn11.out.ln (by omega)).mono ?_
  rintro e w13 ⟨rfl, hw13⟩
  obtain rfl : w11 = w13 := hw13.symm
  rw [HW2.out]
  go_wp2
  go_ret
  exact ⟨rfl, HB11.out⟩
 ·have h4' : (cd != 4) = true := by simp [h4]
  clear HWt HPk HRi HRs h4
  go_wp2
  go_ret
  exact ⟨rfl, HB11.out⟩
end Go.Proofs.YtihdglmiecifjaaGreat
