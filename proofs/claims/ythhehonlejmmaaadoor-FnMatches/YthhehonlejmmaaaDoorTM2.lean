/-
  What matches: the program's matching.
-/
import Derived.Test.YthhehonlejmmaaaDoorTN8
namespace Go.Proofs.YthhehonlejmmaaaDoor
open Go.RowKit Pl Il Tn Go.Shelf

theorem splitC_any (s : ByteArray) (w : World) (hs : s.size ≤ 24) (hg : GOkT w) : Calls Tryd.prog 25 #[.string s] w fun e w' => ∃ b, e = .returned (.slice (some ⟨b, 0, none⟩) (partsB s).length (partsB s).length) ∧ StrsAt w' (some ⟨b, 0, none⟩) (partsB s).length (partsB s) ∧ Below w.heap.size w w' := by
  obtain ⟨m, hm⟩ := hg
  have HS := hidT (Any.strings_Split (P := Tryd.prog) (ρ := Tryd.lays146_ren) Tryd.lays146 infoStr s ⟨#[46]⟩ m w (by omega) hm (by decide))
  go_enter Tryd.func25, Tryd.ntmps25
  go_wp2_with fail
  refine HS.out.mono ?_
  rintro e w' ⟨rfl, rfl⟩
  go_wp2
  go_ret
  refine ⟨w.heap.size, ?_, strs_new w (partsB s), bl_alloc (Below.refl _ _) _⟩
  rw [parts_len]; rfl
theorem infoI3 : (Tryd.prog.info? 3).map (fun i => (i.zero, i.size, i.bytes)) = some (some (.int .i64 0), 1, 8) := by kernel_rfl
/-- One number is appended to a row that is owned, or nil. -/
theorem append_int1 (B m : Nat) (v : Value) (ys : List Int) (x : Int) (w : World) (ho : w.ownsRow B 3 1 v m (ys.map (Value.int .i64))) (hB : B ≤ w.heap.size) (hs : m + 1 ≤ 4194304) :
    ∃ (g' c' : Nat) (w' : World), (Builtin.append_ #[35, 35] 35 #[v, .slice (some ⟨w.heap.size, 0, none⟩) 1 1]).run Tryd.prog (w.alloc (.cells #[.int .i64 x] 3)) = .ok (.slice (some ⟨g', 0, none⟩) (m + 1) c') w' ∧
      w'.ownsRow B 3 1 (.slice (some ⟨g', 0, none⟩) (m + 1) c') (m + 1) ((ys ++ [x]).map (Value.int .i64)) ∧ w.grownBy w' v.ownBlock := by
  obtain ⟨i, hi, hz0, hz1, hz2⟩ := info_parts infoI3
  obtain ⟨g', c', w', hr, hown, hgrow, hl, _⟩ := run_append_lies (P := Tryd.prog) (w.alloc (.cells #[.int .i64 x] 3)) 35 35 B 3 i (.int .i64 0) 1 8 Tryd.underlying35 hi hz0 hz1 hz2 rfl (by omega) v m _ (ho.alloc _) ⟨w.heap.size, 0, none⟩ 1 1 [.int .i64 x] rfl
    (cell_one_new _ _ _) (fun u hu => by rw [List.mem_singleton] at hu; subst hu; rfl) (by omega) (by unfold maxLen; omega) (by omega) (by simp; omega) _ rfl
  exact ⟨g', c', w', hr, by rw [List.map_append]; exact hown, (World.grownBy_alloc w _ _).trans hgrow⟩
theorem StrsAt.some {w : World} {a : Option Addr} {n : Nat} {x : ByteArray} {xs : List ByteArray} (h : StrsAt w a n (x :: xs)) : ∃ b off m, a = some ⟨b, off, none⟩ ∧ n = m + 1 ∧ xs.length = m ∧ w.cell? ⟨b, off, none⟩ = some (.string x) ∧ StrsAt w (some ⟨b, off + 1, none⟩) m xs := by
  have hl := h.len
  rcases h.row with h0 | ⟨b, off, rfl, hb, hc⟩
  · rw [h0] at hl; simp at hl
  · obtain ⟨m, rfl⟩ : ∃ m, n = m + 1 := ⟨xs.length, by simpa using hl.symm⟩
    exact ⟨b, off, m, rfl, rfl, by simpa using hl, by have := hc 0 (by omega); simpa using this, h.drop1⟩
theorem rowT_keep {B E sz : Nat} {w w' : World} {v : Value} {n : Nat} {ys : List Value} (h : w.ownsRow B E sz v n ys) (hb : Below w.heap.size w w') : w'.ownsRow B E sz v n ys := by
  obtain ⟨hl, ⟨rfl, rfl⟩ | ⟨g, cap, cur, rfl, hB, hg, hr⟩⟩ := h
  · exact ⟨hl, .inl ⟨rfl, rfl⟩⟩
  · have hlt : g < w.heap.size := by
      rcases Nat.lt_or_ge g w.heap.size with k | k
      · exact k
      · rw [Array.getElem?_eq_none k] at hg; cases hg
    exact ⟨hl, .inr ⟨g, cap, cur, rfl, hB, by rw [hb.block g hlt]; exact hg, hr⟩⟩
theorem rowT_mono {B B' E sz : Nat} {w : World} {v : Value} {n : Nat} {ys : List Value} (h : w.ownsRow B E sz v n ys) (hB : B' ≤ B) : w.ownsRow B' E sz v n ys := by
  obtain ⟨hl, ⟨e, k⟩ | ⟨g', c', cur, e, hB0, hr⟩⟩ := h
  · exact ⟨hl, .inl ⟨e, k⟩⟩
  · exact ⟨hl, .inr ⟨g', c', cur, e, Nat.le_trans hB hB0, hr⟩⟩
/-- What is told: the numbers of the names that match. -/
def IxP (w : World) (xs : List Int) (e : Ending) (w' : World) : Prop := ∃ (a : Option Addr) (c : Nat), e = .returned (.slice a xs.length c) ∧ w'.ownsRow w.heap.size 3 1 (.slice a xs.length c) xs.length (xs.map (Value.int .i64)) ∧ Below w.heap.size w w'
set_option maxHeartbeats 16000000 in
theorem matching_any (pat : ByteArray) (a : Option Addr) (n c : Nat) (ns : List ByteArray) (w : World) (hp : rightN true pat = true) (hS : StrsAt w a n ns) (hn : n ≤ 4096) (hns : ∀ x ∈ ns, x.size ≤ 24) (hg : GOkT w) :
    Calls Tryd.prog 20 #[.string pat, .slice a n c] w (IxP w (matchIx (partsB pat) 0 ns)) := by
  have HC := hidT (splitC_any pat w (right_size hp) hg)
  have HRL := hidT (fun q (hq : q < (partsB pat).length) => rest_last hp hq)
  have hpp := parts_le pat
  have hpz := right_size hp
  have HNS := hidT hns
  clear hp hns
  go_enter Tryd.func20, Tryd.ntmps20
  go_wp2_with fail
  go_step3
  go_wp2_with fail
  refine HC.out.mono ?_
  rintro e w1 ⟨bp, rfl, hP, hB⟩
  have HS1 := hidT (hS.keep hB)
  have HG1 := hidT (hg.keep hB)
  have HB1 := hidT hB
  have hsz1 := hB.size
  clear hS HC hg hB
  generalize partsB pat = xs at *
  obtain ⟨nx, hnx⟩ : ∃ n, n = xs.length := ⟨_, rfl⟩
  rw [← hnx] at hP hpp HRL ⊢
  have HNX := hidT hnx
  have HP := hidT hP
  clear hnx hP
  go_wp2_with fail
  go_step3
  go_wp2_with fail
  go_loopg [6, 16] n (fun g v i wr => ∃ (k m cp : Nat) (a6 : Option Addr) (done : List Int), k + g = n ∧ i = .int .i64 (k : Int) ∧ v = .slice a6 m cp ∧ Hid (done ++ matchIx xs k (ns.drop k) = matchIx xs 0 ns) ∧ done.length = m ∧ m ≤ k ∧ wr.ownsRow w1.heap.size 3 1 (.slice a6 m cp) m (done.map (Value.int .i64)) ∧ Below w1.heap.size w1 wr)
  case atStart => exact ⟨0, 0, 0, none, [], by omega, rfl, rfl, rfl, rfl, by omega, ⟨rfl, .inl ⟨rfl, rfl⟩⟩, Below.refl _ _⟩
  case round =>
    obtain ⟨k, m, cp, a6, done, hkg, rfl, rfl, HI, hdl, hmk, hrow, hbr⟩ := hrel
    have HKG := hidT hkg
    have HDL := hidT hdl
    have HROW := hidT hrow
    have HBR := hidT hbr
    have hszr := hbr.size
    cases gk with
    | zero =>
      have hkz : ¬ ((k : Int) < (n : Int)) := by omega
      have HE := hidT (show done = matchIx xs 0 ns by rw [← HI.out, show k = ns.length by have := HS1.out.len; omega, ix_end, List.append_nil])
      clear hkg hdl hrow hbr
      go_wp2_with fail
      go_ret
      refine ⟨a6, cp, ?_, ?_, bl_trans HB1.out HBR.out⟩
      · rw [← HE.out, HDL.out]; rfl
      · rw [← HE.out, HDL.out]; exact rowT_mono HROW.out hsz1
    | succ g0 =>
      have hkn : ((k : Int) < (n : Int)) := by omega
      have hkl : k < ns.length := by have := HS1.out.len; omega
      have HX := hidT (ix_step (xs := xs) hkl)
      have hnk := HNS.out _ (getD_mem hkl)
      rcases HS1.out.row with h0 | ⟨b, off, rfl, hb, hcell⟩
      · omega
      have hc : wr.cell? ⟨b, off + k, none⟩ = some (.string (ns.getD k ⟨#[]⟩)) := by rw [hbr.cell (p := ⟨b, off + k, none⟩) hb]; exact hcell k (by omega)
      generalize ns.getD k ⟨#[]⟩ = y at hc HX hnk
      have HC := hidT (splitC_any y wr hnk (HG1.out.keep hbr))
      have hpy := parts_le y
      clear hcell hkl hkg hdl hrow hbr hb
      go_wp2_with fail
      refine HC.out.mono ?_
      rintro e w2 ⟨by', rfl, hY, hB2⟩
      have HY := hidT hY
      have HBR2 := hidT (bl_trans HBR.out hB2)
      have HROW2 := hidT (rowT_keep HROW.out hB2)
      have hsz2 := hB2.size
      clear hY hB2 HC HROW HBR
      generalize partsB y = ys at *
      obtain ⟨ny, hny⟩ : ∃ n, n = ys.length := ⟨_, rfl⟩
      rw [← hny] at HY hpy ⊢
      have HNY := hidT hny
      clear hny
      go_wp2_with fail
      go_loopg [9, 25] nx (fun g v j wx => ∃ (q m9 c9 : Nat) (a9 : Option Addr) (zs : List ByteArray), q + g = nx ∧ j = .int .i64 (q : Int) ∧ v = .slice a9 m9 c9 ∧ Hid (StrsAt w2 a9 m9 zs) ∧ m9 ≤ c9 ∧ m9 ≤ 1000 ∧ c9 ≤ 1000 ∧ Hid (matchL (xs.drop q) zs = matchL xs ys) ∧ w2 = wx)
      case atStart => exact ⟨0, ny, ny, _, ys, by omega, rfl, rfl, HY.out, Nat.le_refl _, by omega, by omega, rfl, rfl⟩
      case round =>
        obtain ⟨q, m9, c9, a9, zs, hqg, rfl, rfl, HZ, hmc, hm9, hc9, HM, rfl⟩ := hrel
        have HQG := hidT hqg
        cases gk with
        | zero =>
          have hqz : ¬ ((q : Int) < (nx : Int)) := by omega
          have HE := hidT (show zs.isEmpty = matchL xs ys by rw [← HM.out, show q = xs.length by have := HNX.out; omega, List.drop_length, match_end])
          have hzl := HZ.out.len
          cases zs with
          | nil =>
            obtain rfl : m9 = 0 := by simpa using hzl.symm
            have HT := hidT (show matchL xs ys = true by rw [← HE.out]; rfl)
            obtain ⟨g', c', w', hr, ho', hgr⟩ := append_int1 w1.heap.size m _ done (k : Int) w2 HROW2.out (by omega) (by omega)
            have HB3 := hidT (HBR2.out.grown hgr (by omega) (fun j hj => by have := (World.ownsRow.lt HROW2.out j hj).1; exact this))
            have Hr := hidT hr
            have Ho' := hidT ho'
            clear hr ho' hgr hqg hzl
            go_wp2_with (first | (at_builtin; refine wpList_append_runT rfl _ _ 35 rfl _ _ _ rfl rfl Hr.out ?_) | fail)
            go_roundg g0
            case rel => exact ⟨k + 1, m + 1, c', _, done ++ [(k : Int)], by have := HKG.out; omega, by go_num, rfl, (by rw [← HI.out, HX.out, if_pos HT.out, List.append_assoc] : _ = _), by rw [List.length_append, HDL.out]; rfl, by omega, Ho'.out, HB3.out⟩
            case measure => omega
          | cons z zs =>
            have HT := hidT (show ¬ matchL xs ys = true by rw [← HE.out]; simp)
            obtain ⟨b9, o9, m', rfl, rfl, hz', hcz, hZ'⟩ := HZ.out.some
            have hne : ((m' : Int) + 1 == 0) = false := by simp; omega
            clear hqg hzl hZ' hcz hz'
            go_wp2_with fail
            go_roundg g0
            case rel => exact ⟨k + 1, m, cp, a6, done, by have := HKG.out; omega, by go_num, rfl, (by rw [← HI.out, HX.out, if_neg HT.out, List.nil_append] : _ = _), HDL.out, by omega, HROW2.out, HBR2.out⟩
            case measure => omega
        | succ gj =>
          have hqn : ((q : Int) < (nx : Int)) := by omega
          have hqx : q < xs.length := by have := HNX.out; omega
          have HXQ := hidT (drop_cons hqx)
          have HL := hidT (HRL.out q (by omega))
          rcases HP.out.row with h0 | ⟨bq, oq, eq, hbq, hcell⟩
          · omega
          cases eq
          have hcx : w2.cell? ⟨bp, 0 + q, none⟩ = some (.string (xs.getD q ⟨#[]⟩)) := by rw [HBR2.out.cell (p := ⟨bp, 0 + q, none⟩) hbq]; exact hcell q (by omega)
          rw [Nat.zero_add] at hcx
          generalize xs.getD q ⟨#[]⟩ = x at hcx HXQ HL
          have hzl := HZ.out.len
          clear hcell hbq hqx hqg
          cases zs with
          | nil =>
            obtain rfl : m9 = 0 := by simpa using hzl.symm
            have HT := hidT (show ¬ matchL xs ys = true by rw [← HM.out, HXQ.out]; simp [match_none])
            clear hzl
            go_wp2_with fail
            go_roundg g0
            case rel => exact ⟨k + 1, m, cp, a6, done, by have := HKG.out; omega, by go_num, rfl, (by rw [← HI.out, HX.out, if_neg HT.out, List.nil_append] : _ = _), HDL.out, by omega, HROW2.out, HBR2.out⟩
            case measure => omega
          | cons z zs =>
            obtain ⟨b9, o9, m', rfl, rfl, hz', hcz, hZ'⟩ := HZ.out.some
            have HZ' := hidT hZ'
            have HZL := hidT hz'
            have hne : ((m' : Int) + 1 == 0) = false := by simp; omega
            clear hzl hZ' hz'
            by_cases e1 : x = rest
            · have f1 : (x.toList == [62]) = true := by rw [← rest_tl]; exact beq_str e1
              have HQ := hidT (HL.out e1)
              have HT := hidT (show matchL xs ys = true by rw [← HM.out, HXQ.out]; exact match_rest e1)
              clear e1
              go_wp2_with fail
              go_roundg gj
              case rel => exact ⟨q + 1, 0, 0, none, [], by have := HQG.out; omega, by go_num, rfl, StrsAt.nil _ _, by omega, by omega, by omega, (by rw [HT.out, show q + 1 = xs.length by have := HQ.out; have := HNX.out; omega, List.drop_length]; rfl : _ = _), rfl⟩
              case measure => omega
            · have f1 : (x.toList == [62]) = false := by rw [← rest_tl]; exact bne_str e1
              by_cases e2 : x = star
              · have f2 : (x.toList == [42]) = true := by rw [← star_tl]; exact beq_str e2
                have HT := hidT (show matchL (xs.drop (q + 1)) zs = matchL xs ys by rw [← HM.out, HXQ.out, match_step e1 (.inl e2)])
                clear e1 e2
                by_cases hc1 : c9 = 1
                · obtain rfl : m' = 0 := by omega
                  obtain rfl : zs = [] := List.length_eq_zero_iff.1 HZL.out
                  have HC1 := hidT hc1
                  go_wp2_with fail
                  go_roundg gj
                  case rel => exact ⟨q + 1, 0, c9 - 1, _, [], by have := HQG.out; omega, by go_num, by go_num, ⟨rfl, .inl rfl⟩, by omega, by omega, by omega, HT.out, rfl⟩
                  case measure => omega
                · have HC1 := hidT hc1
                  go_wp2_with fail
                  go_roundg gj
                  case rel => exact ⟨q + 1, m', c9 - 1, _, zs, by have := HQG.out; omega, by go_num, by go_num, HZ'.out, by omega, by omega, by omega, HT.out, rfl⟩
                  case measure => omega
              · have f2 : (x.toList == [42]) = false := by rw [← star_tl]; exact bne_str e2
                by_cases e3 : x = z
                · have f3 := beq_str e3
                  have HT := hidT (show matchL (xs.drop (q + 1)) zs = matchL xs ys by rw [← HM.out, HXQ.out, match_step e1 (.inr e3)])
                  clear e1 e2 e3
                  by_cases hc1 : c9 = 1
                  · obtain rfl : m' = 0 := by omega
                    obtain rfl : zs = [] := List.length_eq_zero_iff.1 HZL.out
                    have HC1 := hidT hc1
                    go_wp2_with fail
                    go_roundg gj
                    case rel => exact ⟨q + 1, 0, c9 - 1, _, [], by have := HQG.out; omega, by go_num, by go_num, ⟨rfl, .inl rfl⟩, by omega, by omega, by omega, HT.out, rfl⟩
                    case measure => omega
                  · have HC1 := hidT hc1
                    go_wp2_with fail
                    go_roundg gj
                    case rel => exact ⟨q + 1, m', c9 - 1, _, zs, by have := HQG.out; omega, by go_num, by go_num, HZ'.out, by omega, by omega, by omega, HT.out, rfl⟩
                    case measure => omega
                · have f3 := bne_str e3
                  have HT := hidT (show ¬ matchL xs ys = true by rw [← HM.out, HXQ.out, match_not e1 e2 e3]; simp)
                  clear e1 e2 e3
                  go_wp2_with fail
                  go_roundg g0
                  case rel => exact ⟨k + 1, m, cp, a6, done, by have := HKG.out; omega, by go_num, rfl, (by rw [← HI.out, HX.out, if_neg HT.out, List.nil_append] : _ = _), HDL.out, by omega, HROW2.out, HBR2.out⟩
                  case measure => omega
end Go.Proofs.YthhehonlejmmaaaDoor
