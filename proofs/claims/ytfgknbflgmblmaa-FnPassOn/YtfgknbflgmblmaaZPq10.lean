/-
  Walks of the specification's draws: a new cursor; two messages
  Walks of the laws' own helpers on lists of numbers: too long, the same
  Walks of the specification's draws: a line
  Walks of the specification's draws: any line, who joins it
-/
import Derived.Test.YtfgknbflgmblmaaZPq1
import Derived.ChangeOld
import Derived.Lib.SmallJoins
import Derived.OpenShut
import Derived.ProofKit
namespace Go.Proofs.Ytfgknbflgmblmaa
open Go.RowKit Pl Dr
theorem Cur.new (w : World) (a : Option Addr) (len cap : Nat) (h : Int) (t : TypeId) (hB : Bytes w.heap.size w a len cap) :
    Cur w.heap.size a len cap (w.alloc (.cells #[.slice a len cap, .int .i64 0, .int .i64 h] t)) :=
  ⟨by simp, hB.keep (Ex.of (bl_alloc (Below.refl _ _) _)), by simp, ⟨0, Nat.zero_le _, by simp⟩, ⟨h, by simp⟩, by simp [go_sem], by simp [go_sem]⟩
theorem new_nil (a : Option Addr) (cap : Nat) (w : World) (hB : Bytes w.heap.size w a 0 cap) :
    Calls Try.prog 58 #[.slice a 0 cap] w fun e w' => e = .returned (.pointer (some ⟨w.heap.size, 0, none⟩)) ∧ Cur w.heap.size a 0 cap w' ∧ Below w.heap.size w w' := by
  go_enter Try.func58, Try.ntmps58
  go_wp2
  go_loop [3, 4] (fun h i => i = .int .i64 0 ∧ ∃ n : Int, h = .int .i64 n) (fun _ _ => 0)
  case atStart => exact ⟨rfl, _, rfl⟩
  case round =>
    obtain ⟨rfl, n, rfl⟩ := hrel
    go_wp2
    go_ret
    exact ⟨rfl, Cur.new w a 0 cap n _ hB, bl_alloc (Below.refl _ _) _⟩
theorem new_row (b off len cap : Nat) (w : World) (hB : Bytes w.heap.size w (some ⟨b, off, none⟩) len cap) (hl : len ≤ 1048577)
    (hc : ∀ i, i < len → ∃ n : Int, w.cell? ⟨b, off + i, none⟩ = some (.int .u8 n) ∧ 0 ≤ n ∧ n ≤ 255) :
    Calls Try.prog 58 #[.slice (some ⟨b, off, none⟩) len cap] w fun e w' => e = .returned (.pointer (some ⟨w.heap.size, 0, none⟩)) ∧ Cur w.heap.size (some ⟨b, off, none⟩) len cap w' ∧ Below w.heap.size w w' := by
  go_enter Try.func58, Try.ntmps58
  go_wp2
  go_loop [3, 4] (fun h i => (∃ k : Nat, k ≤ len ∧ i = .int .i64 k) ∧ ∃ n : Int, h = .int .i64 n) (fun _ i => len - (intOf i).toNat)
  case atStart => exact ⟨⟨0, Nat.zero_le _, rfl⟩, _, rfl⟩
  case round =>
    obtain ⟨⟨k, hk, rfl⟩, n, rfl⟩ := hrel
    by_cases hlt : k < len
    · obtain ⟨x, hx, x0, x1⟩ := hc k hlt
      by_cases h4 : (k : Int) < 4000
      · go_wp2
        go_round
        case rel => exact ⟨⟨k + 1, by omega, by go_num⟩, _, rfl⟩
        case measure => simp [intOf]; omega
      · go_wp2
        go_ret
        exact ⟨rfl, Cur.new w _ len cap n _ hB, bl_alloc (Below.refl _ _) _⟩
    · go_wp2
      go_ret
      exact ⟨rfl, Cur.new w _ len cap n _ hB, bl_alloc (Below.refl _ _) _⟩
theorem new_any (a : Option Addr) (len cap : Nat) (w : World) (hB : Bytes w.heap.size w a len cap) :
    Calls Try.prog 58 #[.slice a len cap] w fun e w' => e = .returned (.pointer (some ⟨w.heap.size, 0, none⟩)) ∧ Cur w.heap.size a len cap w' ∧ Below w.heap.size w w' := by
  obtain ⟨hl, _, rfl | ⟨b, off, rfl, hb, hn, hc⟩⟩ := id hB
  · exact new_nil a cap w hB
  · exact new_row b off len cap w hB hl hc
end Go.Proofs.Ytfgknbflgmblmaa
namespace Go.Proofs.Ytfgknbflgmblmaa
open Go.RowKit Pl Il
theorem big_any (a : Option Addr) (n cap : Nat) (w : World) :
    Calls Try.prog 12 #[.slice a n cap] w fun e w' => e = .returned (.bool (decide (1048576 < n))) ∧ w' = w := by
  go_enter Try.func12, Try.ntmps12
  go_wp2
  go_ret
  refine ⟨rbool ?_, rfl⟩
  rw [Bool.eq_iff_iff]; simp; try omega
theorem sameInts_any (a a' : Option Addr) (n n' cap cap' : Nat) (xs ys : List Int) (w : World) (hI : IntsAt w a n xs) (hJ : IntsAt w a' n' ys) (hn : n ≤ 2097152) (hn' : n' ≤ 2097152) :
    Calls Try.prog 16 #[.slice a n cap, .slice a' n' cap'] w fun e w' => e = .returned (.bool (eqL xs ys)) ∧ Below w.heap.size w w' := by
  by_cases hl : n = n'
  · subst hl
    obtain ⟨hlen, rfl | ⟨b, off, rfl, hb, hcell⟩⟩ := hI
    · have : xs = [] := List.length_eq_zero_iff.1 hlen
      have e2 : ys = [] := List.length_eq_zero_iff.1 hJ.len
      subst this e2
      go_enter Try.func16, Try.ntmps16
      go_wp2
      go_loop [5] (fun i => i = .int .i64 0) (fun _ => 0)
      case atStart => rfl
      case round =>
        subst hrel
        go_wp2
        go_ret
        exact ⟨rfl, Below.refl _ _⟩
    · obtain ⟨hlen', rfl | ⟨b', off', rfl, hb', hcell'⟩⟩ := hJ
      · have : xs = [] := List.length_eq_zero_iff.1 hlen
        have e2 : ys = [] := List.length_eq_zero_iff.1 hlen'
        subst this e2
        go_enter Try.func16, Try.ntmps16
        go_wp2
        go_loop [5] (fun i => i = .int .i64 0) (fun _ => 0)
        case atStart => rfl
        case round =>
          subst hrel
          go_wp2
          go_ret
          exact ⟨rfl, Below.refl _ _⟩
      · go_enter Try.func16, Try.ntmps16
        go_wp2
        go_loopw [5] (fun i wr => ∃ k : Nat, k ≤ n ∧ i = .int .i64 k ∧ xs.take k = ys.take k ∧ ∃ q, wr = w.drewN q) (fun i _ => n - (intOf i).toNat)
        case atStart => exact ⟨0, Nat.zero_le _, rfl, rfl, 0, rfl⟩
        case round =>
          obtain ⟨k, hk, rfl, hno, q, rfl⟩ := hrel
          have Hno : Hid _ := hno
          clear hno
          by_cases hlt : k < n
          · have hc := hcell k hlt
            have hc' := hcell' k hlt
            generalize hy : xs.getD k 0 = y at hc
            generalize hz : ys.getD k 0 = z at hc'
            have HY : Hid _ := hy
            have HZ : Hid _ := hz
            clear hy hz hcell hcell'
            have hki : (k : Int) < (n : Int) := by omega
            cases hyz : (y != z)
            · go_wp2
              go_quiet (fail)
              go_wp2
              go_roundw
              case rel => exact ⟨k + 1, by omega, by go_num, eq_step (by omega) (by omega) Hno.out (by rw [HY.out, HZ.out]; exact hyz), _, rfl⟩
              case measure => simp [intOf]; omega
            · go_wp2
              go_quiet (fail)
              go_wp2
              go_ret
              exact ⟨rbool (eq_no (k := k) (by rw [HY.out, HZ.out]; exact hyz)).symm, bl_drewN (bl_drewN (Below.refl _ _) _) _⟩
          · clear hcell hcell'
            go_wp2
            go_ret
            exact ⟨rbool (eq_end (by omega) (by omega) Hno.out).symm, bl_drewN (Below.refl _ _) _⟩
  · have hne : ((n : Int) != (n' : Int)) = true := by simp; omega
    have hq := eq_len (xs := xs) (ys := ys) (by rw [hI.len, hJ.len]; exact hl)
    clear hI hJ
    go_enter Try.func16, Try.ntmps16
    go_wp2
    go_ret
    exact ⟨rbool hq.symm, Below.refl _ _⟩
theorem l15Ints_any (a a' : Option Addr) (n n' cap cap' : Nat) (xs ys : List Int) (w : World) (hI : IntsAt w a n xs) (hJ : IntsAt w a' n' ys) (hn : n ≤ 2097152) (hn' : n' ≤ 2097152) :
    Calls Try.prog 87 #[.slice a n cap, .slice a' n' cap'] w fun e w' => e = .returned (.bool (eqL xs ys)) ∧ Below w.heap.size w w' := by
  by_cases hl : n = n'
  · subst hl
    obtain ⟨hlen, rfl | ⟨b, off, rfl, hb, hcell⟩⟩ := hI
    · have : xs = [] := List.length_eq_zero_iff.1 hlen
      have e2 : ys = [] := List.length_eq_zero_iff.1 hJ.len
      subst this e2
      go_enter Try.func87, Try.ntmps87
      go_wp2
      go_loop [5] (fun i => i = .int .i64 0) (fun _ => 0)
      case atStart => rfl
      case round =>
        subst hrel
        go_wp2
        go_ret
        exact ⟨rfl, Below.refl _ _⟩
    · obtain ⟨hlen', rfl | ⟨b', off', rfl, hb', hcell'⟩⟩ := hJ
      · have : xs = [] := List.length_eq_zero_iff.1 hlen
        have e2 : ys = [] := List.length_eq_zero_iff.1 hlen'
        subst this e2
        go_enter Try.func87, Try.ntmps87
        go_wp2
        go_loop [5] (fun i => i = .int .i64 0) (fun _ => 0)
        case atStart => rfl
        case round =>
          subst hrel
          go_wp2
          go_ret
          exact ⟨rfl, Below.refl _ _⟩
      · go_enter Try.func87, Try.ntmps87
        go_wp2
        go_loopw [5] (fun i wr => ∃ k : Nat, k ≤ n ∧ i = .int .i64 k ∧ xs.take k = ys.take k ∧ ∃ q, wr = w.drewN q) (fun i _ => n - (intOf i).toNat)
        case atStart => exact ⟨0, Nat.zero_le _, rfl, rfl, 0, rfl⟩
        case round =>
          obtain ⟨k, hk, rfl, hno, q, rfl⟩ := hrel
          have Hno : Hid _ := hno
          clear hno
          by_cases hlt : k < n
          · have hc := hcell k hlt
            have hc' := hcell' k hlt
            generalize hy : xs.getD k 0 = y at hc
            generalize hz : ys.getD k 0 = z at hc'
            have HY : Hid _ := hy
            have HZ : Hid _ := hz
            clear hy hz hcell hcell'
            have hki : (k : Int) < (n : Int) := by omega
            cases hyz : (y != z)
            · go_wp2
              go_quiet (fail)
              go_wp2
              go_roundw
              case rel => exact ⟨k + 1, by omega, by go_num, eq_step (by omega) (by omega) Hno.out (by rw [HY.out, HZ.out]; exact hyz), _, rfl⟩
              case measure => simp [intOf]; omega
            · go_wp2
              go_quiet (fail)
              go_wp2
              go_ret
              exact ⟨rbool (eq_no (k := k) (by rw [HY.out, HZ.out]; exact hyz)).symm, bl_drewN (bl_drewN (Below.refl _ _) _) _⟩
          · clear hcell hcell'
            go_wp2
            go_ret
            exact ⟨rbool (eq_end (by omega) (by omega) Hno.out).symm, bl_drewN (Below.refl _ _) _⟩
  · have hne : ((n : Int) != (n' : Int)) = true := by simp; omega
    have hq := eq_len (xs := xs) (ys := ys) (by rw [hI.len, hJ.len]; exact hl)
    clear hI hJ
    go_enter Try.func87, Try.ntmps87
    go_wp2
    go_ret
    exact ⟨rbool hq.symm, Below.refl _ _⟩
end Go.Proofs.Ytfgknbflgmblmaa
namespace Go.Proofs.Ytfgknbflgmblmaa
open Go.RowKit Pl Dr Il
theorem Drawn.grown {c : Nat} {a : Option Addr} {len cap : Nat} {w u u' : World} {g : Nat} (h : Drawn c a len cap w u) (hC : Cur c a len cap w) (hg : u.grownBy u' (some g)) (hge : w.heap.size ≤ g) : Drawn c a len cap w u' := by
  have hlt := hC.lt
  have key : ∀ b, b < u.heap.size → b ≠ g → u'.heap[b]? = u.heap[b]? := fun b hb hn => hg.block b hb (by simpa using hn)
  have hcell : ∀ o, u'.cell? ⟨c, o, none⟩ = u.cell? ⟨c, o, none⟩ := fun o => World.cell?_of_block (key c h.cur.lt (by omega))
  have hfr : ∀ o, u'.frozen? ⟨c, o, none⟩ = u.frozen? ⟨c, o, none⟩ := fun o => World.frozen?_of_block (key c h.cur.lt (by omega))
  refine ⟨⟨Nat.lt_of_lt_of_le h.cur.lt hg.size, ?_, by rw [hcell]; exact h.cur.at0, by rw [hcell]; exact h.cur.at1, by rw [hcell]; exact h.cur.at2, by rw [hfr]; exact h.cur.fr1, by rw [hfr]; exact h.cur.fr2⟩, ?_⟩
  · obtain ⟨hl, hm, k | ⟨b, off, rfl, hb, hn, hc⟩⟩ := h.cur.bytes
    · exact ⟨hl, hm, .inl k⟩
    · obtain ⟨_, _, k | ⟨b', off', e, hb', _⟩⟩ := hC.bytes
      · exact ⟨hl, hm, .inl k⟩
      · cases e
        refine ⟨hl, hm, .inr ⟨b, off, rfl, Nat.lt_of_lt_of_le hb hg.size, hn, fun i hi => ?_⟩⟩
        have : u'.cell? ⟨b, off + i, none⟩ = u.cell? ⟨b, off + i, none⟩ := World.cell?_of_block (key b hb (by omega))
        rw [this]; exact hc i hi
  · refine ⟨hg.os.trans h.ex.os, hg.tape.trans h.ex.tape, hg.output.trans h.ex.output, Nat.le_trans h.ex.size hg.size, fun i hi hn => ?_⟩
    rw [key i (Nat.lt_of_lt_of_le hi h.ex.size) (by omega)]
    exact h.ex.block i hi hn
/-- One that has P is picked out of a row of such. -/
theorem pickP_any (P : Int → Prop) (a : Option Addr) (len cap : Nat) (c B n : Nat) (w : World) (hC : Cur c a len cap w) (hB : B < w.heap.size) (hBc : B ≠ c) (h0 : 0 < n) (h1 : n ≤ 256)
    (hcell : ∀ i, i < n → ∃ v : Int, w.cell? ⟨B, i, none⟩ = some (.int .i64 v) ∧ P v) :
    Calls Try.prog 94 #[.pointer (some ⟨c, 0, none⟩), .slice (some ⟨B, 0, none⟩) n n] w fun e w' => ∃ x : Int, e = .returned (.int .i64 x) ∧ P x ∧ Drawn c a len cap w w' := by
  go_enter Try.func94, Try.ntmps94
  go_wp2_with fail
  refine (below_any a len cap c n _ hC (by omega) (by omega)).mono ?_
  rintro e w1 ⟨x, rfl, x0, x1, hd⟩
  obtain ⟨k, rfl⟩ := Int.eq_ofNat_of_zero_le x0
  obtain ⟨v, hv, hp⟩ := hcell k (by omega)
  have hv1 : w1.cell? ⟨B, k, none⟩ = some (.int .i64 v) := by rw [hd.ex.cell hB hBc]; exact hv
  clear hcell
  go_wp2
  go_ret
  exact ⟨_, rfl, hp, hd⟩
open Go.RowKit Pl Dr Il
theorem wfs : (Lit.int .i64 (-1)).wf = true ∧ (Lit.int .i64 64).wf = true ∧ (Lit.int .i64 3).wf = true := by decide
theorem who_row (w : World) : ∀ i, i < 2 → ∃ v : Int, (w.alloc (.cells #[.int .i64 (-1), .int .i64 64] 3)).cell? ⟨w.heap.size, i, none⟩ = some (.int .i64 v) ∧ (Lit.int .i64 v).wf = true := by
  intro i hi
  rw [World.cell?_alloc_new]
  match i, hi with
  | 0, _ => exact ⟨_, rfl, wfs.1⟩
  | 1, _ => exact ⟨_, rfl, wfs.2.1⟩
end Go.Proofs.Ytfgknbflgmblmaa
namespace Go.Proofs.Ytfgknbflgmblmaa
open Go.ChangeShapes Go.WideShapes Go.ChangeAt Go.RowKit Go.Joins
theorem js1 : (laidOutB Try.prog) = true := by kernel_rfl
theorem js2 : (mapsRowed Try.prog) = true := by kernel_rfl
theorem js6 : ((Try.prog.stops == [])) = true := by kernel_rfl
theorem js8 : ((Try.prog.stopKnobs == [])) = true := by kernel_rfl
theorem js22 : ((true == Try.prog.plainKeys)) = true := by kernel_rfl
theorem js24 : (Try.prog.stopsHeard) = true := by kernel_rfl
theorem js25 : (Try.prog.mayEnter) = true := by kernel_rfl
theorem js26 : ((false == Try.prog.liftsFinal)) = true := by kernel_rfl
theorem js27 : ((Try.prog.make == some Make.cut)) = true := by kernel_rfl
theorem and_all {b0 b1 b2 b3 b4 b5 b6 b7 b8 b9 b10 b11 b12 b13 b14 b15 b16 b17 b18 b19 b20 b21 b22 b23 b24 b25 b26 b27 b28 b29 b30 b31 : Bool} (h0 : b0 = true) (h1 : b1 = true) (h2 : b2 = true) (h3 : b3 = true) (h4 : b4 = true) (h5 : b5 = true) (h6 : b6 = true) (h7 : b7 = true) (h8 : b8 = true) (h9 : b9 = true) (h10 : b10 = true) (h11 : b11 = true) (h12 : b12 = true) (h13 : b13 = true) (h14 : b14 = true) (h15 : b15 = true) (h16 : b16 = true) (h17 : b17 = true) (h18 : b18 = true) (h19 : b19 = true) (h20 : b20 = true) (h21 : b21 = true) (h22 : b22 = true) (h23 : b23 = true) (h24 : b24 = true) (h25 : b25 = true) (h26 : b26 = true) (h27 : b27 = true) (h28 : b28 = true) (h29 : b29 = true) (h30 : b30 = true) (h31 : b31 = true) : (b0 && b1 && b2 && b3 && b4 && b5 && b6 && b7 && b8 && b9 && b10 && b11 && b12 && b13 && b14 && b15 && b16 && b17 && b18 && b19 && b20 && b21 && b22 && b23 && b24 && b25 && b26 && b27 && b28 && b29 && b30 && b31) = true := by
  subst h0 h1 h2 h3 h4 h5 h6 h7 h8 h9 h10 h11 h12 h13 h14 h15 h16 h17 h18 h19 h20 h21 h22 h23 h24 h25 h26 h27 h28 h29 h30 h31
  rfl
end Go.Proofs.Ytfgknbflgmblmaa
namespace Go.Proofs.Ytfgknbflgmblmaa
theorem tK {P : Program} {ops : Array Oper} {Q : Exit → Act → World → Prop} {md : Region.Mode} {S : World → Prop} (i : Nat) {oi : Oper} (v : Value) {fuel : Nat} {listed : Array Bool} {a : Act} {w : World} (hi : ops[i]? = some oi)
    (hb : (Region.noSelect ops && (Region.free md ops listed i && (Region.ready md ops listed).contains i)) = true) (hw : Region.wanted oi (yielded ops a.tmps) = true) (hv : ∀ w, S w → (execOp a.eval oi).run P w = .ok (.value v) w) (hS : S w)
    (hQ : ∀ c a w, Q (.panic c) (a.put oi.dst v) w → Q (.panic c) a w) (h : wpAnyH P md ops Q S fuel (listed.setIfInBounds i true) (a.put oi.dst v) w) : wpAnyH P md ops Q S (fuel + 1) listed a w := by
  simp only [Bool.and_eq_true] at hb
  exact wpAnyH_take (i := i) (v := v) hi hb.1 hb.2.1 hb.2.2 hQ (Or.inl ⟨hw, hv⟩) hS h
theorem tR {P : Program} {ops : Array Oper} {Q : Exit → Act → World → Prop} {md : Region.Mode} {S : World → Prop} (i : Nat) {oi : Oper} {v : Value} {fuel : Nat} {listed L : Array Bool} {a b : Act} {w : World} (h : wpAnyH P md ops Q S fuel L b w) (hi : ops[i]? = some oi := by rfl)
    (hb : (Region.noSelect ops && (Region.free md ops listed i && (Region.ready md ops listed).contains i)) = true := by kernel_rfl) (hw : Region.wanted oi (yielded ops a.tmps) = true := by rfl)
    (hv : ∀ w, S w → (execOp a.eval oi).run P w = .ok (.value v) w := by (intro w hSw; (try dsimp only at hSw); go_simp; try with_reducible rfl)) (hS : S w := by assumption)
    (ha : a.put oi.dst v = b := by ((try simp only [Act.put, zGA, zG0, zGC, zSA, zS0, zSC]); try rfl))
    (hL : listed.setIfInBounds i true = L := by ((try simp only [Act.put, zGA, zG0, zGC, zSA, zS0, zSC]); try rfl))
    (hQ : ∀ c a w, Q (.panic c) (a.put oi.dst v) w → Q (.panic c) a w := by exact fun _ _ _ h => h) : wpAnyH P md ops Q S (fuel + 1) listed a w := by
  simp only [Bool.and_eq_true] at hb
  subst ha; subst hL
  exact wpAnyH_take (i := i) (v := v) hi hb.1 hb.2.1 hb.2.2 hQ (Or.inl ⟨hw, hv⟩) hS h
theorem tW {P : Program} {ops : Array Oper} {Q : Exit → Act → World → Prop} {md : Region.Mode} {S : World → Prop} (i : Nat) {o : Oper} {fuel : Nat} {listed : Array Bool} {a : Act} {w : World}
    (h : ∀ K' : Act → World → Prop, Shut (∀ a w, S w → (S w → wpAnyH P md ops Q S fuel (listed.setIfInBounds i true) a w) → K' a w) → if Region.wanted o (yielded ops a.tmps) = true then Oper.wp P o a w K' Q else K' (a.put o.dst undef) w)
    (hr : Region.ready md ops listed = [i] := by kernel_rfl) (ho : ops[i]? = some o := by rfl) : wpAnyH P md ops Q S (fuel + 1) listed a w :=
  wpAnyH_ready hr (by simp) (AllReadyH.cons ho h AllReadyH.nil)
end Go.Proofs.Ytfgknbflgmblmaa
