/-
  What the laws on notifications ask besides: who was told; a notificati
-/
import Derived.Test.YtfgknbflgmblmaaZPq13
namespace Go.Proofs.Ytfgknbflgmblmaa
open Go.RowKit Pl Il Dr
set_option maxHeartbeats 2000000 in
theorem grantsOf_any (A : Na) (x : Nt) (w : World) (hI : NIn w A x) (hn' : A.n' ≤ 2097152) :
    Calls Try.prog 26 #[.agg #[.bool x.pm, .slice A.a A.n A.c, .slice A.a' A.n' A.c', .int .i64 x.on, .int .i64 x.sp, .int .i64 x.tk]] w fun e w' => ∃ (a' : Option Addr) (c' : Nat), e = .returned (.slice a' A.n' c') ∧ IntsAt w' a' A.n' (whosL x.gs) ∧ Below w.heap.size w w' := by
  generalize hW0 : w.alloc (.cells #[.bool x.pm, .slice A.a A.n A.c, .slice A.a' A.n' A.c', .int .i64 x.on, .int .i64 x.sp, .int .i64 x.tk] 27) = W0
  have b0 : Below w.heap.size w W0 := by subst hW0; exact bl_alloc (Below.refl _ _) _
  have x0 : NBox w.heap.size A x W0 := by subst hW0; exact NBox.new w A x _
  have HX := hidOf x0
  have HG := hidOf (hI.grs.keep b0)
  have HL := hidOf hI.grs.len
  have HB := hidOf b0
  clear hI b0 x0
  go_enter Try.func26, Try.ntmps26
  go_wp2_with fail
  clear hW0
  go_loopw [3, 4] (fun v i wr => ∃ k : Nat, k ≤ A.n' ∧ i = .int .i64 (k : Int) ∧ wr.ownsRow W0.heap.size 3 1 v k ((whosL (x.gs.take k)).map (Value.int .i64)) ∧ Below W0.heap.size W0 wr) (fun _ i _ => A.n' - (intOf i).toNat)
  case atStart => exact ⟨0, Nat.zero_le _, rfl, owns_empty W0, bl_alloc (Below.refl _ _) _⟩
  case round =>
    rename World => wr
    obtain ⟨k, hk, rfl, ho, hbr⟩ := hrel
    obtain ⟨_, p0, p1, p2, p3, p4, p5, pf⟩ := id (HX.out.keep hbr)
    by_cases hlt : k < A.n'
    · obtain ⟨hlen, h0 | ⟨b, off, e1, hb, hcell⟩⟩ := HG.out
      · omega
      have hc : wr.cell? ⟨b, off + k * 2, none⟩ = some (.int .i64 (gg x.gs k).1) := by rw [hbr.cell (p := ⟨b, off + k * 2, none⟩) hb]; exact (hcell k hlt).1
      have hsn : whosL (x.gs.take (k + 1)) = whosL (x.gs.take k) ++ [(gg x.gs k).1] := by rw [take_gg (by have := HL.out; omega), whos_snoc]
      obtain ⟨y1, hy⟩ : ∃ y, (gg x.gs k).1 = y := ⟨_, rfl⟩
      rw [hy] at hc hsn
      rw [e1] at p2
      obtain ⟨g', c', w', hr, ho', hb'⟩ := append_more W0.heap.size _ u3 _ y1 _ W0 rfl ho hbr (by omega)
      have Hr := hidOf hr
      have HSn := hidOf hsn
      have Ho' := hidOf ho'
      have Hb' := hidOf hb'
      have hki : (0 : Int) ≤ (k : Int) ∧ (k : Int) < (A.n' : Int) := by omega
      clear hy hcell hr ho ho' hb' hsn hlen hb e1
      go_wp2_with (at_builtin; refine wpList_append_run rfl _ _ 24 rfl _ _ _ rfl rfl Hr.out ?_)
      go_roundw
      case rel => exact ⟨k + 1, by omega, by go_num, by rw [HSn.out]; exact Ho'.out, Hb'.out⟩
      case measure => simp [intOf]; omega
    · obtain rfl : k = A.n' := by omega
      have hke : x.gs.take A.n' = x.gs := List.take_of_length_le (by rw [HL.out]; exact Nat.le_refl _)
      rw [hke] at ho
      obtain ⟨a', c', rfl, hO⟩ := own_of ho (whosL x.gs) rfl
      have HF := hidOf (And.intro hO.ints (bl_trans HB.out hbr))
      clear ho hO hbr hke
      go_wp2
      go_ret
      exact ⟨_, _, rfl, HF.out.1, HF.out.2⟩
theorem Dr.Bytes.laterN {w w' : World} {a : Option Addr} {len cap : Nat} (h : Bytes w.heap.size w a len cap) (hb : Below w.heap.size w w') (c : Nat) (hc : w.heap.size ≤ c) : Bytes c w' a len cap := by
  obtain ⟨hl, hm, h | ⟨b, off, rfl, hb', hn, hcell⟩⟩ := h
  · exact ⟨hl, hm, .inl h⟩
  · refine ⟨hl, hm, .inr ⟨b, off, rfl, Nat.lt_of_lt_of_le hb' hb.size, by omega, fun i hi => ?_⟩⟩
    rw [hb.cell (p := ⟨b, off + i, none⟩) hb']; exact hcell i hi
end Go.Proofs.Ytfgknbflgmblmaa
