/-
  The program's notifications: who was told, who waits, what is held.
-/
import Derived.Test.YtfgknbflgmblmaaNX
import Derived.Test.YtfgknbflgmblmaaGC
import Derived.Test.YtfgknbflgmblmaaVW
namespace Go.Proofs.Ytfgknbflgmblmaa
open Go.RowKit Go.Maps Pl Il

set_option maxHeartbeats 1000000 in
theorem whosOf_any (a : Option Addr) (n cap : Nat) (gs : List (Int × Bool)) (w : World) (hI : GrAt w a n gs) (hn : n ≤ 2097152) :
    Calls Try.prog 67 #[.slice a n cap] w fun e w' => ∃ a' c', e = .returned (.slice a' n c') ∧ Il.OwnAt w.heap.size w' a' n (whosL gs) ∧ Below w.heap.size w w' := by
  obtain ⟨hlen, h0 | ⟨b, off, rfl, hb, hcell⟩⟩ := hI
  · subst h0
    have : gs = [] := List.length_eq_zero_iff.1 hlen
    subst this
    go_enter Try.func67, Try.ntmps67
    go_wp2
    go_loop [3, 8] (fun v i => v = .slice none 0 0 ∧ i = .int .i64 0) (fun _ _ => 0)
    case atStart => exact ⟨rfl, rfl⟩
    case round =>
      obtain ⟨rfl, rfl⟩ := hrel
      go_wp2
      go_ret
      exact ⟨none, ⟨0, rfl⟩, ⟨⟨rfl, .inl rfl⟩, .inl rfl⟩, Below.refl _ _⟩
  · have HL := hidOf hlen
    clear hlen
    go_enter Try.func67, Try.ntmps67
    go_wp2_with fail
    go_loopw [3, 8] (fun v i wr => ∃ k : Nat, k ≤ n ∧ i = .int .i64 k ∧ wr.ownsRow w.heap.size 3 1 v k ((whosL (gs.take k)).map (Value.int .i64)) ∧ Below w.heap.size w wr) (fun _ i _ => n - (intOf i).toNat)
    case atStart => exact ⟨0, Nat.zero_le _, rfl, ⟨rfl, .inl ⟨rfl, rfl⟩⟩, Below.refl _ _⟩
    case round =>
      rename_i wr
      obtain ⟨k, hk, rfl, ho, hbr⟩ := hrel
      by_cases hlt : k < n
      · have hc : wr.cell? ⟨b, off + k * 2, none⟩ = some (.int .i64 (gg gs k).1) := by rw [hbr.cell (p := ⟨b, off + k * 2, none⟩) hb]; exact (hcell k hlt).1
        have hc2 : wr.cell? ⟨b, off + k * 2 + 1, none⟩ = some (.bool (gg gs k).2) := by rw [hbr.cell (p := ⟨b, off + k * 2 + 1, none⟩) hb]; exact (hcell k hlt).2
        have hsn : whosL (gs.take (k + 1)) = whosL (gs.take k) ++ [(gg gs k).1] := by rw [take_gg (by have := HL.out; omega), whos_snoc]
        obtain ⟨⟨y1, yb⟩, hy⟩ : ∃ y, gg gs k = y := ⟨_, rfl⟩
        rw [hy] at hc hc2 hsn
        simp only at hc hc2 hsn
        have hbA : Below w.heap.size w (wr.alloc (.cells #[.int .i64 y1, .bool yb] 44)) := bl_alloc hbr _
        have hoA : (wr.alloc (.cells #[.int .i64 y1, .bool yb] 44)).ownsRow w.heap.size 3 1 u3 k ((whosL (gs.take k)).map (Value.int .i64)) := ownsRow_keep ho (bl_alloc (Below.refl _ _) _)
        obtain ⟨g', c', w', hr, ho', hb'⟩ := append_more w.heap.size _ u3 _ y1 _ w rfl hoA hbA (by omega)
        rw [show (wr.alloc (.cells #[.int .i64 y1, .bool yb] 44)).heap.size = wr.heap.size + 1 by simp] at hr
        have Hr := hidOf hr
        have HSn := hidOf hsn
        have Ho' := hidOf ho'
        have Hb' := hidOf hb'
        have hki : (0 : Int) ≤ (k : Int) ∧ (k : Int) < (n : Int) := by omega
        clear hy hcell hr ho ho' hb' hsn hoA hbA
        go_wp2_with (at_builtin; refine wpList_append_run rfl _ _ 24 rfl _ _ _ rfl rfl Hr.out ?_)
        go_roundw
        case rel => exact ⟨k + 1, by omega, by go_num, by rw [HSn.out]; exact Ho'.out, Hb'.out⟩
        case measure => simp [intOf]; omega
      · obtain rfl : k = n := by omega
        clear hcell
        have hke : gs.take k = gs := List.take_of_length_le (by rw [HL.out]; exact Nat.le_refl _)
        rw [hke] at ho
        obtain ⟨a', c', rfl, hO⟩ := own_of ho (whosL gs) rfl
        go_wp2
        go_ret
        exact ⟨_, _, rfl, hO, hbr⟩

set_option maxHeartbeats 1000000 in
theorem tellingsHeld_any (A : Na) (x : Nt) (w : World) (hI : NIn w A x) (hn' : A.n' ≤ 32) (c1 : cnt x.sp = true) (c2 : cnt x.tk = true) :
    Calls Try.prog 69 #[.agg #[.bool x.pm, .slice A.a A.n A.c, .slice A.a' A.n' A.c', .int .i64 x.on, .int .i64 x.sp, .int .i64 x.tk]] w fun e w' => e = .returned (.int .i64 (heldN x)) ∧ Below w.heap.size w w' := by
  generalize hW : w.alloc (.cells #[.bool x.pm, .slice A.a A.n A.c, .slice A.a' A.n' A.c', .int .i64 x.on, .int .i64 x.sp, .int .i64 x.tk] 27) = W
  have b0 : Below w.heap.size w W := by subst hW; exact bl_alloc (Below.refl _ _) _
  have x0 : NBox w.heap.size A x W := by subst hW; exact NBox.new w A x _
  obtain ⟨_, p0, p1, p2, p3, p4, p5, _⟩ := id x0
  have X0 := hidOf x0
  have B0 := hidOf b0
  have hI0 := hI.grs.keep b0
  have hd1 : 0 ≤ x.sp ∧ x.sp ≤ 1000000000 := by simpa [cnt] using c1
  have hd2 : 0 ≤ x.tk ∧ x.tk ≤ 1000000000 := by simpa [cnt] using c2
  have hhd : heldN x = x.tk + x.sp + onesL x.gs + permI x.pm := rfl
  have HHd := hidOf hhd
  clear c1 c2 x0 b0 hI hhd
  have hlen := hI0.len
  have hr : A.n' = 0 ∨ 0 < A.n' ∧ ∃ b off, A.a' = some ⟨b, off, none⟩ ∧ b < W.heap.size ∧ ∀ i, i < A.n' → W.cell? ⟨b, off + i * 2, none⟩ = some (.int .i64 (gg x.gs i).1) ∧ W.cell? ⟨b, off + i * 2 + 1, none⟩ = some (.bool (gg x.gs i).2) := by
    rcases Nat.eq_zero_or_pos A.n' with h | h
    · exact .inl h
    · rcases hI0.row with h' | h'
      · exact .inl h'
      · exact .inr ⟨h, h'⟩
  have HL := hidOf hlen
  clear hlen hI0
  obtain ⟨a, n, c, a', n', c'⟩ := A
  simp only at *
  go_enter Try.func69, Try.ntmps69
  go_wp2_with fail
  go_loopw [3, 14] (fun v i wr => ∃ k : Nat, k ≤ n' ∧ i = .int .i64 k ∧ v = .int .i64 (x.tk + x.sp + onesL (x.gs.take k)) ∧ Below W.heap.size W wr) (fun _ i _ => n' - (intOf i).toNat)
  case atStart => exact ⟨0, Nat.zero_le _, rfl, by rw [show onesL (x.gs.take 0) = 0 from rfl]; first | go_num | simp, Below.refl _ _⟩
  case round =>
    rename_i wr
    obtain ⟨k, hk, rfl, rfl, hbr⟩ := hrel
    have hkk : onesL (x.gs.take k) ≤ 32 ∧ 0 ≤ onesL (x.gs.take k) := by
      have := ones_bd (x.gs.take k)
      have h9 : (x.gs.take k).length ≤ k := by simp; omega
      omega
    by_cases hlt : k < n'
    · rcases hr with h' | ⟨_, b, off, rfl, hb, hcell⟩
      · omega
      have hkl : k < x.gs.length := by rw [HL.out]; exact hlt
      have hc : wr.cell? ⟨b, off + k * 2, none⟩ = some (.int .i64 (gg x.gs k).1) := by rw [hbr.cell (p := ⟨b, off + k * 2, none⟩) hb]; exact (hcell k hlt).1
      have hc2 : wr.cell? ⟨b, off + k * 2 + 1, none⟩ = some (.bool (gg x.gs k).2) := by rw [hbr.cell (p := ⟨b, off + k * 2 + 1, none⟩) hb]; exact (hcell k hlt).2
      have hsn := ones_snoc (x.gs.take k) (gg x.gs k)
      rw [← take_gg hkl] at hsn
      obtain ⟨⟨y1, yb⟩, hy⟩ : ∃ y, gg x.gs k = y := ⟨_, rfl⟩
      rw [hy] at hc hc2 hsn
      simp only at hc hc2 hsn
      generalize hos : onesL (x.gs.take k) = os at hsn hkk ⊢
      have HSn := hidOf hsn
      have HB := hidOf (bl_trans hbr (bl_alloc (Below.refl wr.heap.size wr) (.cells #[.int .i64 y1, .bool yb] 44)))
      have hki : (0 : Int) ≤ (k : Int) ∧ (k : Int) < (n' : Int) := by omega
      clear hy hcell hsn hkl p0 p1 p2 p3 p4 p5 hos
      cases yb
      · go_wp2
        go_roundw
        case rel => exact ⟨k + 1, by omega, by go_num, by rw [HSn.out]; first | go_num | simp, HB.out⟩
        case measure => simp [intOf]; omega
      · go_wp2
        go_roundw
        case rel => exact ⟨k + 1, by omega, by go_num, by rw [HSn.out]; first | go_num | simp, HB.out⟩
        case measure => simp [intOf]; omega
    · obtain rfl : k = n' := by omega
      have hke : x.gs.take k = x.gs := List.take_of_length_le (by rw [HL.out]; exact Nat.le_refl _)
      rw [hke] at hkk ⊢
      obtain ⟨_, q0, q1, q2, q3, q4, q5, _⟩ := X0.out.keep hbr
      have HB := hidOf (bl_trans B0.out hbr)
      clear hr p0 p1 p2 p3 p4 p5 hke hbr
      generalize onesL x.gs = os at *
      cases hpm : x.pm
      · rw [hpm] at q0
        go_wp2
        go_ret
        exact ⟨by rw [HHd.out, hpm]; simp [permI], HB.out⟩
      · rw [hpm] at q0
        go_wp2
        go_ret
        exact ⟨by rw [HHd.out, hpm]; simp [permI], HB.out⟩
end Go.Proofs.Ytfgknbflgmblmaa
