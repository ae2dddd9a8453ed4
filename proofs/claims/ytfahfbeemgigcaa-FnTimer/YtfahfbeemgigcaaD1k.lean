/-
  The specification's draws: a clock with some timers.
-/
import Derived.Test.YtfahfbeemgigcaaDK
import Derived.Test.YtfahfbeemgigcaaW2
namespace Go.Proofs.Ytfahfbeemgigcaa
open Go.RowKit Pl Il Th Dr

/-- A clock was drawn. -/
def ClkOut (c : Nat) (a : Option Addr) (len cap : Nat) (w : World) (e : Ending) (w' : World) : Prop := ∃ now ra n rc ts, e = .returned (.agg #[.int .i64 now, .slice ra n rc]) ∧ OwnT w.heap.size w' ra n ts ∧ n ≤ 40 ∧ Drawn c a len cap w w'
theorem info_box (w : World) : Box2 w.heap.size (.int .i64 0) (.slice none 0 0) (w.alloc (.cells #[.int .i64 0, .slice none 0 0] 26)) := Box2.new w _ _ _
set_option maxRecDepth 100000 in
set_option maxHeartbeats 4000000 in
theorem l4Clock_any (a : Option Addr) (len cap : Nat) (c : Nat) (most : Int) (w : World) (hC : Cur c a len cap w) (h0 : 0 ≤ most) (h1 : most ≤ 30) :
    Calls Try.prog 51 #[.pointer (some ⟨c, 0, none⟩), .int .i64 most] w fun e w' => ClkOut c a len cap w e w' := by
  generalize hW0 : w.alloc (.cells #[.int .i64 0, .slice none 0 0] 26) = W0
  generalize hW1 : W0.alloc (.cells #[.int .i64 0, .int .i64 5, .int .i64 100, .int .i64 999999980] 3) = W1
  have s0 : W0.heap.size = w.heap.size + 1 := by subst hW0; simp
  have s1 : W1.heap.size = w.heap.size + 2 := by subst hW1; simp [s0]
  have r0 : Box2 w.heap.size (.int .i64 0) (.slice none 0 0) W0 := by subst hW0; exact Box2.new w _ _ _
  have b0 : Below w.heap.size w W0 := by subst hW0; exact bl_alloc (Below.refl _ _) _
  have b1 : Below W0.heap.size W0 W1 := by subst hW1; exact bl_alloc (Below.refl _ _) _
  have hC1 : Cur c a len cap W1 := (hC.keep b0).keep b1
  have hcl := hC.lt
  have hcells : ∀ i, i < 4 → ∃ v : Int, W1.cell? ⟨W0.heap.size, i, none⟩ = some (.int .i64 v) := by subst hW1; exact row_ints W0 _ 3 4 (by rfl)
  have hpk := pickInt_any a len cap c W0.heap.size 4 W1 hC1 (by omega) (by omega) (by omega) (by omega) hcells
  have HPk := hidOf hpk
  have HR0 := hidOf (r0.keep b1)
  have HD1 := hidOf (drawn_keep (drawn_keep (Drawn.start hC) b0) b1)
  have HCw := hidOf hC
  have S1 := hidOf s1
  have S0 := hidOf s0
  clear hpk hcells r0 b0 b1 hC1 s1 hC s0
  go_enter Try.func51, Try.ntmps51
  go_wp2_with fail
  refine (HPk.out).mono ?_
  rintro e w2 ⟨now, rfl, hd2⟩
  have r2 := HR0.out.dr hd2 (by omega)
  have D2 := HD1.out.trans hd2
  have hs2 := hd2.ex.size
  rw [S1.out] at hs2
  generalize hW3 : w2.alloc (.cells #[.int .i64 now, .slice none 0 0] 26) = W3
  have b3 : Below w2.heap.size w2 W3 := by subst hW3; exact bl_alloc (Below.refl _ _) _
  have s3 : W3.heap.size = w2.heap.size + 1 := by subst hW3; simp
  have xo : Box2 w2.heap.size (.int .i64 now) (.slice none 0 0) W3 := by subst hW3; exact Box2.new w2 _ _ _
  have hK3 : KV c a len cap w w2.heap.size (w2.heap.size + 1) now none 0 0 [] W3 := ⟨drawn_keep D2 b3, xo, ⟨⟨rfl, .inl rfl⟩, .inl rfl⟩, .inl rfl, .inl rfl, by omega, HCw.out, by omega, by omega, r2.keep b3⟩
  have HK3 := hidOf hK3
  have hbl := below_any a len cap c (most + 1) W3 hK3.dr.cur (by omega) (by omega)
  have HBl := hidOf hbl
  clear HPk HR0 HD1 hd2 r2 D2 b3 s3 xo hK3 hbl
  subst hW3
  go_wp2_with fail
  refine (HBl.out).mono ?_
  rintro e w4 ⟨m, rfl, m0, m1, hd4⟩
  have HK4 := hidOf (HK3.out.draw hd4)
  obtain ⟨mm, rfl⟩ := Int.eq_ofNat_of_zero_le m0
  clear HBl HK3 hd4 hW0 hW1 S1 S0
  go_wp2_with fail
  go_loopw [7] (fun i wr => ∃ (k R : Nat) (now : Int) (ra : Option Addr) (n rc : Nat) (ts : List (Int × Int)), k ≤ mm ∧ i = .int .i64 k ∧ n ≤ k ∧ KV c a len cap w w2.heap.size R now ra n rc ts wr) (fun i _ => mm - (intOf i).toNat)
  case atStart => exact ⟨0, _, _, _, _, _, _, Nat.zero_le _, rfl, Nat.le_refl _, HK4.out⟩
  case round =>
    rename_i wr
    obtain ⟨k, R, nw, ra, n, rc, ts, hk, rfl, hnk, hK⟩ := hrel
    clear HK4
    by_cases hlt : k < mm
    · have hki : (k : Int) < (mm : Int) := by omega
      have hle := hK.le
      have hKw : KV c a len cap w w2.heap.size wr.heap.size nw ra n rc ts wr := ⟨hK.dr, hK.box, hK.own, hK.apn, hK.own.tim.lt, hK.hN, hK.cur, Nat.le_refl _, by have := hK.lt; omega, hK.res⟩
      have hlenT := hK.own.tim.len
      have HLenT := hidOf hlenT
      clear hlenT
      have hSr := hKw.s
      have hNc : w2.heap.size ≠ c := by omega
      have hWc : wr.heap.size ≠ c := by have := hKw.dr.cur.lt; omega
      have hRc : w.heap.size ≠ c := by omega
      have HB := hidOf (fun (z : Int) (u : World) (z0 : 0 < z) (z1 : z ≤ 256) (hu : Cur c a len cap u) => below_any a len cap c z u hu z0 z1)
      have hcr : c < wr.heap.size := hKw.dr.cur.lt
      have HST := hidOf (fun (x y : Int) (u : World) (hu : TimAt u ra n ts) => specSet_any nw (1 + x) y ra n rc ts u hu (by omega))
      have hb1 := hidOf (info_box wr)
      clear hK hKw
      go_upto_region 6 with fail
      go_cut [8, 9] from 18 to 33 (fun s8 _ wx => ∃ (M : Nat) (a4 : Option Addr) (n4 c4 : Nat) (ts4 : List (Int × Int)), s8 = .pointer (some ⟨M, 0, none⟩) ∧ n4 ≤ n + 1 ∧ Nxt c a len cap w w2.heap.size M nw (.slice ra n rc) nw a4 n4 c4 ts4 wx)
      case first =>
        go_region_held3 (fun w' => KVS c a len cap w w2.heap.size wr.heap.size nw ra n rc ts w') (first | (with_reducible exact hSr.drew) | (with_reducible exact (hSr.alloc _).drew) | (with_reducible exact KVS.draw (by assumption) hd5) | (with_reducible exact KVS.keep (by assumption) hb7) | (with_reducible exact KVS.alloc (by assumption) _) | (with_reducible exact hS7.alloc _) | (with_reducible exact KVS.store2 (by assumption) (by omega) _ _))
          (first
            | (go_at_call 53; refine (HB.out _ _ ?z0 ?z1 ?cur).mono ?_; (case z0 => omega); (case z1 => omega); (case cur => with_reducible exact KVS.curs (by assumption)); (first | (have hbx := info_box w5) | (have hbx := hb1.out.keep (Below.refl _ _).drew)); rintro e w5 ⟨x, rfl, x0, x1, hd5⟩; have hwx : IntKind.i64.wrap (1 + x) = 1 + x := wrap_small (by omega) (by omega); have hz5 : wr.heap.size ≤ w5.heap.size := (by have := hd5.ex.size; (try simp at this); omega); first | (with_reducible have hM := hM.dr hd5 (by omega)) | (with_reducible have hM := hbx.dr hd5 (by omega)) | skip)
            | (go_at_call 18; refine (HST.out _ _ _ ?tm).mono ?_; (case tm => with_reducible exact KVS.tim (by assumption)); have hbx := info_box w5; intro e w7 hout; obtain ⟨a7, n7, c7, rfl, ho7, hb7⟩ := hout.open; have hS7 : KVS c a len cap w w2.heap.size wr.heap.size nw ra n rc ts w7 := (by with_reducible exact KVS.keep (by assumption) hb7); have hz7 : wr.heap.size ≤ w7.heap.size := (by have := hb7.size; (try simp at this); omega); first | (with_reducible have hM7 := hM.keep hb7; have hMl := hM.lt; obtain ⟨_, q0, q1, qf⟩ := id hM7) | (with_reducible have hM7 := hbx.keep hb7; have hMl := hbx.lt; obtain ⟨_, q0, q1, qf⟩ := id hM7) | skip))
        all_goals
          have hn7 : n7 ≤ n + 1 := (by rw [← ho7.tim.len, ← HLenT.out]; exact setT_len _ _ _ _)
          go_wp2_with fail
          go_meet
          first
            | exact ⟨_, _, _, _, _, rfl, hn7, Nxt.ofAlloc hS7 ho7 (by omega)⟩
            | exact ⟨_, _, _, _, _, rfl, hn7, Nxt.ofStore hS7 hM7 (by omega) ho7 (by simp at hMl ⊢; omega)⟩
            | exact ⟨_, _, _, _, _, rfl, hn7, Nxt.ofStore hS7 hM7 (by omega) ho7 (by omega)⟩
      case rest =>
        obtain ⟨M, a4, n4, c4, ts4, rfl, hn4, hX⟩ := hcut
        obtain ⟨_, m0', m1', mf⟩ := id hX.nxt
        obtain ⟨_, o0, o1, of⟩ := id hX.box
        have HP := hidOf hX.put
        have hne := hX.ne
        clear hX HB HST hSr hb1
        go_wp2
        go_roundw
        case rel => exact ⟨k + 1, _, _, _, _, _, _, by omega, by go_num, by omega, HP.out⟩
        case measure => simp [intOf]; omega
    · have hki : ¬ (k : Int) < (mm : Int) := by omega
      obtain ⟨_, o0, o1, of⟩ := id hK.box
      obtain ⟨_, r0, r1, rf⟩ := id hK.res
      have hN := hK.hN
      have hO := (hK.own.far w.heap.size 0 (by omega) (.int .i64 nw)).far w.heap.size 1 (by omega) (.slice ra n rc)
      have HO := hidOf (hO.mono (B' := w.heap.size) (by omega))
      have HD := hidOf ((hK.dr.store hK.cur ⟨w.heap.size, 0, none⟩ (Nat.le_refl _) (.int .i64 nw)).store hK.cur ⟨w.heap.size, 1, none⟩ (Nat.le_refl _) (.slice ra n rc))
      clear hK hO
      go_wp2
      exact bodyPost_ret (v := .agg #[.int .i64 nw, .slice ra n rc]) (by simp [results, Try.results51, go_sem, r0, r1]) rfl ⟨_, _, _, _, _, rfl, HO.out, by omega, HD.out⟩
end Go.Proofs.Ytfahfbeemgigcaa
