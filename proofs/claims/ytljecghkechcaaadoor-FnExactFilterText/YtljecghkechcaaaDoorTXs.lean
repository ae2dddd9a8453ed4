/-
  Walks: a filter's text, as the specification writes it.
-/
import Derived.Test.YtljecghkechcaaaDoorTXd
import Derived.Test.YtljecghkechcaaaDoorSpF1
import Derived.Deep.QuietTactic
import Derived.BigQuiet
namespace Go.Proofs.YtljecghkechcaaaDoor
open Go.RowKit Pl Il

theorem word_is {op : Int} (h0 : 1 ≤ op) (h1 : op ≤ 10) : op = 1 ∨ op = 2 ∨ op = 3 ∨ op = 4 ∨ op = 5 ∨ op = 6 ∨ op = 7 ∨ op = 8 ∨ op = 9 ∨ op = 10 := by omega
set_option maxHeartbeats 4000000 in
theorem l8Word_any (op : Int) (w : World) (h0 : 1 ≤ op) (h1 : op ≤ 10) :
    Calls Tryd.prog 16 #[.int .i64 op] w fun e w' => e = .returned (.string (wordT op)) ∧ Below w.heap.size w w' := by
  rcases word_is h0 h1 with rfl | rfl | rfl | rfl | rfl | rfl | rfl | rfl | rfl | rfl <;>
  · clear h0 h1
    go_enter Tryd.func16, Tryd.ntmps16
    go_wp2
    go_ret
    exact ⟨rfl, bl_alloc (Below.refl _ _) _⟩

def strV (b : Bool) (s : ByteArray) : Value := .tuple #[.string s, .bool b]
def ftV (ts : List Tm) : Value := if okF ts = true then .tuple #[.string (joinT ts), .bool true] else .tuple #[.string ⟨#[]⟩, .bool false]
theorem ft_no {ts : List Tm} (h : okF ts = false) : Ending.returned (.tuple #[.string ⟨#[]⟩, .bool false]) = .returned (ftV ts) := by unfold ftV; rw [h]; rfl
theorem ft_yes {ts : List Tm} {o : ByteArray} (h : okF ts = true) (ho : o = joinT ts) : Ending.returned (.tuple #[.string o, .bool true]) = .returned (ftV ts) := by unfold ftV; rw [h, ho]; rfl

abbrev RdT (b o : Nat) (z : Tm) (w0 w : World) : Prop :=
  w.cell? ⟨b, o, none⟩ = some (.int .i64 z.1) ∧ w.cell? ⟨b, o + 1, none⟩ = some (.int .i64 z.2.1) ∧ w.cell? ⟨b, o + 2, none⟩ = some (.string z.2.2) ∧ Below w0.heap.size w0 w
theorem RdT.keep {b o : Nat} {z : Tm} {w0 w w' : World} (h : RdT b o z w0 w) (q : Below w.heap.size w w') : RdT b o z w0 w' :=
  ⟨cellF h.1 q, cellF h.2.1 q, cellF h.2.2.1 q, bl_trans h.2.2.2 q⟩
theorem RdT.drew {b o : Nat} {z : Tm} {w0 w : World} (h : RdT b o z w0 w) : RdT b o z w0 w.drew := h.keep (Below.refl _ _).drew

set_option maxHeartbeats 2000000 in
theorem specFilterText_any (a : Option Addr) (n cap : Nat) (ts : List Tm) (w : World) (hI : TmAt w a n ts) (hn : n ≤ 1048576) :
    Calls Tryd.prog 6 #[.slice a n cap] w fun e w' => e = .returned (ftV ts) ∧ Below w.heap.size w w' := by
  have HF := hidOf (specFilterOk_any a n cap ts w hI (by omega))
  have HI := hidOf hI
  clear hI
  go_enter Tryd.func6, Tryd.ntmps6
  go_wp2_with fail
  refine (HF.out).mono ?_
  rintro e w1 ⟨rfl, hb1⟩
  clear HF
  cases hok : okF ts
  · have HO := hidOf hok
    clear hok
    go_wp2
    go_ret2
    exact ⟨ft_no HO.out, hb1⟩
  · have HO := hidOf hok
    clear hok
    have HL := hidOf HI.out.len
    have h12 : n ≤ 12 := by have := okF_few HO.out; rw [HL.out] at this; exact this
    go_wp2
    go_loopw [4, 5] (fun o i wr => ∃ k : Nat, k ≤ n ∧ i = .int .i64 (k : Int) ∧ o = .string (joinT (ts.take k)) ∧ Below w.heap.size w wr) (fun _ i _ => n - (intOf i).toNat)
    case atStart => exact ⟨0, Nat.zero_le _, rfl, rfl, hb1⟩
    case round =>
      rename_i wr
      obtain ⟨k, hk, rfl, rfl, hB⟩ := hrel
      have hz0 := joinT_size (ts := ts) (okF_all HO.out) k (by rw [HL.out]; exact hk)
      by_cases hlt : k < n
      · have hkl : k < ts.length := by rw [HL.out]; exact hlt
        obtain hr | ⟨b, off, rfl, hb, hcell⟩ := HI.out.row
        · omega
        obtain ⟨q0, q1, q2⟩ := hcell k hlt
        have hT := tm_ok (okF_all HO.out _ (qg_mem hkl))
        have hJ0 := hidOf (joinT_first hkl)
        have hJ1 := hidOf (joinT_next hkl)
        obtain ⟨z, hz⟩ : ∃ z, qg ts k = z := ⟨_, rfl⟩
        rw [hz] at q0 q1 q2 hT hJ0 hJ1
        have HT := hidOf hT
        obtain ⟨o, ho⟩ : ∃ o, joinT (ts.take k) = o := ⟨_, rfl⟩
        rw [ho] at hz0 hJ1 ⊢
        have HZ := hidOf ho
        have hs0 := word_size z.1
        have hs1 := hT.txt
        have hc0 := cellF q0 hB
        have hc1 := cellF q1 hB
        have hc2 := cellF q2 hB
        have HW := hidOf (fun u => l8Word_any z.1 u hT.lo hT.hi)
        have HR := hidOf (show RdT b (off + k * 3) z w wr from ⟨hc0, hc1, hc2, hB⟩)
        by_cases h0 : k = 0
        · have hk0 : ¬ (0 : Int) < (k : Int) := by omega
          have hps : o.size ≤ 301 := by omega
          have H0 := hidOf h0
          clear h0 ho hz hcell q0 q1 q2 hc0 hc1 hc2 hB hT
          go_wp2_with fail
          have hA1 : ¬ (o.size + (wordT z.1).size > 9223372036854775807) := by omega
          have hA2 : ¬ (o.size + (wordT z.1).size + z.2.2.size > 9223372036854775807) := by omega
          go_region_held3 (fun w' => RdT b (off + k * 3) z w w') (first | (exact HR.out.drew) | (exact RdT.keep (by assumption) (by assumption))) (first | (go_at_call 16; refine (HW.out _).mono ?_; rintro e w1 ⟨rfl, hb1⟩))
          rename_i hT
          obtain ⟨d0, d1, d2, hB2⟩ := hT
          clear HW HR
          have hq : ((o ++ wordT z.1) ++ z.2.2).size ≤ 330 := by simp only [ByteArray.size_append]; omega
          obtain ⟨y, hy⟩ : ∃ y, (o ++ wordT z.1) ++ z.2.2 = y := ⟨_, rfl⟩
          rw [hy] at hq ⊢
          have HY := hidOf hy
          clear hy
          by_cases h4 : z.1 = 4
          · have H4 : (z.1 == 4) = true := by simp [h4]
            have hN : hasN z.1 = true := by simp [hasN, h4]
            have HNN := hidOf (HT.out.num hN)
            have HN := hidOf hN
            clear hN h4
            go_wp2_with fail
            refine (digits_any z.2.1 _ HNN.out.2.1 HNN.out.2.2).mono ?_
            rintro e w2 ⟨rfl, hb2⟩
            have hB3 := bl_trans hB2 hb2
            have hd := itoaF_size HNN.out.2.1 HNN.out.2.2
            clear hb2 d0 d1 d2 hB2
            go_wp2
            go_roundw
            case rel => exact ⟨k + 1, hlt, by go_num, congrArg Value.string (by rw [hJ0.out H0.out, ← HY.out, term_spec HT.out _ HN.out, (show o = ⟨#[]⟩ from (by have z0 := HZ.out; rw [H0.out] at z0; rw [← z0]; rfl)), nil_app]), hB3⟩
            case measure => simp [intOf]; omega
          by_cases h5 : z.1 = 5
          · have H4 : (z.1 == 4) = false := by simp [h4]
            have H5 : (z.1 == 5) = true := by simp [h5]
            have hN : hasN z.1 = true := by simp [hasN, h5]
            have HNN := hidOf (HT.out.num hN)
            have HN := hidOf hN
            clear hN h4 h5
            go_wp2_with fail
            refine (digits_any z.2.1 _ HNN.out.2.1 HNN.out.2.2).mono ?_
            rintro e w2 ⟨rfl, hb2⟩
            have hB3 := bl_trans hB2 hb2
            have hd := itoaF_size HNN.out.2.1 HNN.out.2.2
            clear hb2 d0 d1 d2 hB2
            go_wp2
            go_roundw
            case rel => exact ⟨k + 1, hlt, by go_num, congrArg Value.string (by rw [hJ0.out H0.out, ← HY.out, term_spec HT.out _ HN.out, (show o = ⟨#[]⟩ from (by have z0 := HZ.out; rw [H0.out] at z0; rw [← z0]; rfl)), nil_app]), hB3⟩
            case measure => simp [intOf]; omega
          have H4 : (z.1 == 4) = false := by simp [h4]
          have H5 : (z.1 == 5) = false := by simp [h5]
          have HN := hidOf (show hasN z.1 = false by simp [hasN, h4, h5])
          clear h4 h5
          go_wp2
          go_roundw
          case rel => exact ⟨k + 1, hlt, by go_num, congrArg Value.string (by rw [hJ0.out H0.out, ← HY.out, term_spec0 _ HN.out, (show o = ⟨#[]⟩ from (by have z0 := HZ.out; rw [H0.out] at z0; rw [← z0]; rfl)), nil_app]), hB2⟩
          case measure => simp [intOf]; omega
        · have hk0 : (0 : Int) < (k : Int) := by omega
          obtain ⟨p, hp⟩ : ∃ p, o ++ ⟨#[32]⟩ = p := ⟨_, rfl⟩
          have HP := hidOf hp
          have hps : p.size ≤ 301 := by rw [← hp, ByteArray.size_append]; have : (ByteArray.mk #[32]).size = 1 := rfl; omega
          have h32 : (ByteArray.mk #[32]).size = 1 := rfl
          have H0 := hidOf h0
          clear h0 ho hz hcell q0 q1 q2 hc0 hc1 hc2 hB hT
          go_wp2_with fail
          first | rw [hp] | skip
          clear hp
          have hA1 : ¬ (p.size + (wordT z.1).size > 9223372036854775807) := by omega
          have hA2 : ¬ (p.size + (wordT z.1).size + z.2.2.size > 9223372036854775807) := by omega
          go_region_held3 (fun w' => RdT b (off + k * 3) z w w') (first | (exact HR.out.drew) | (exact RdT.keep (by assumption) (by assumption))) (first | (go_at_call 16; refine (HW.out _).mono ?_; rintro e w1 ⟨rfl, hb1⟩))
          rename_i hT
          obtain ⟨d0, d1, d2, hB2⟩ := hT
          clear HW HR
          have hq : ((p ++ wordT z.1) ++ z.2.2).size ≤ 330 := by simp only [ByteArray.size_append]; omega
          obtain ⟨y, hy⟩ : ∃ y, (p ++ wordT z.1) ++ z.2.2 = y := ⟨_, rfl⟩
          rw [hy] at hq ⊢
          have HY := hidOf hy
          clear hy
          by_cases h4 : z.1 = 4
          · have H4 : (z.1 == 4) = true := by simp [h4]
            have hN : hasN z.1 = true := by simp [hasN, h4]
            have HNN := hidOf (HT.out.num hN)
            have HN := hidOf hN
            clear hN h4
            go_wp2_with fail
            refine (digits_any z.2.1 _ HNN.out.2.1 HNN.out.2.2).mono ?_
            rintro e w2 ⟨rfl, hb2⟩
            have hB3 := bl_trans hB2 hb2
            have hd := itoaF_size HNN.out.2.1 HNN.out.2.2
            clear hb2 d0 d1 d2 hB2
            go_wp2
            go_roundw
            case rel => exact ⟨k + 1, hlt, by go_num, congrArg Value.string (by rw [hJ1.out H0.out, ← HY.out, HP.out, term_spec HT.out _ HN.out]), hB3⟩
            case measure => simp [intOf]; omega
          by_cases h5 : z.1 = 5
          · have H4 : (z.1 == 4) = false := by simp [h4]
            have H5 : (z.1 == 5) = true := by simp [h5]
            have hN : hasN z.1 = true := by simp [hasN, h5]
            have HNN := hidOf (HT.out.num hN)
            have HN := hidOf hN
            clear hN h4 h5
            go_wp2_with fail
            refine (digits_any z.2.1 _ HNN.out.2.1 HNN.out.2.2).mono ?_
            rintro e w2 ⟨rfl, hb2⟩
            have hB3 := bl_trans hB2 hb2
            have hd := itoaF_size HNN.out.2.1 HNN.out.2.2
            clear hb2 d0 d1 d2 hB2
            go_wp2
            go_roundw
            case rel => exact ⟨k + 1, hlt, by go_num, congrArg Value.string (by rw [hJ1.out H0.out, ← HY.out, HP.out, term_spec HT.out _ HN.out]), hB3⟩
            case measure => simp [intOf]; omega
          have H4 : (z.1 == 4) = false := by simp [h4]
          have H5 : (z.1 == 5) = false := by simp [h5]
          have HN := hidOf (show hasN z.1 = false by simp [hasN, h4, h5])
          clear h4 h5
          go_wp2
          go_roundw
          case rel => exact ⟨k + 1, hlt, by go_num, congrArg Value.string (by rw [hJ1.out H0.out, ← HY.out, HP.out, term_spec0 _ HN.out]), hB2⟩
          case measure => simp [intOf]; omega
      · obtain rfl : k = n := by omega
        have HJ := hidOf (joinT_all (ts := ts) (k := k) (by rw [HL.out]; exact Nat.le_refl _))
        obtain ⟨o, ho⟩ : ∃ o, joinT (ts.take k) = o := ⟨_, rfl⟩
        rw [ho] at HJ hz0 ⊢
        clear ho
        go_wp2
        go_ret2
        exact ⟨ft_yes HO.out HJ.out, hB⟩
end Go.Proofs.YtljecghkechcaaaDoor
