/-
  Walks of the specification's draws: a filter and a message; two filters.
-/
import Derived.Test.YtedaleonmcllkaaDF2
namespace Go.Proofs.Ytedaleonmcllkaa
open Go.RowKit Pl Il Dr

theorem Dr.Bytes.laterF {w w' : World} {a : Option Addr} {len cap : Nat} (h : Bytes w.heap.size w a len cap) (hb : Below w.heap.size w w') (c : Nat) (hc : w.heap.size ≤ c) : Bytes c w' a len cap := by
  obtain ⟨hl, hm, h | ⟨b, off, rfl, hb', hn, hcell⟩⟩ := h
  · exact ⟨hl, hm, .inl h⟩
  · refine ⟨hl, hm, .inr ⟨b, off, rfl, Nat.lt_of_lt_of_le hb' hb.size, by omega, fun i hi => ?_⟩⟩
    rw [hb.cell (p := ⟨b, off + i, none⟩) hb']; exact hcell i hi
/-- A filter and a message are drawn. -/
def DpP (w : World) (e : Ending) (w' : World) : Prop := ∃ (a' : Option Addr) (m c' : Nat) (l : List Tm) (k n : Int) (s : ByteArray), e = .returned (.tuple #[.slice a' m c', .agg #[.int .i64 k, .int .i64 n, .string s]]) ∧ m ≤ 13 ∧ TmAt w' a' m l ∧ s.size ≤ 41 ∧ Below w.heap.size w w'
theorem tm_of_row {B : Nat} {w : World} {t : TypeId} {a' : Option Addr} {m c' : Nat} {l : List Tm} (h : w.ownsRow B t 3 (.slice a' m c') m (qflat l)) (hs : ∀ p, p ∈ l → p.2.2.size ≤ maxLen) : TmAt w a' m l := by
  obtain ⟨a2, c2, e, _, ho⟩ := ownF_of h l rfl hs
  cases e
  exact ho.tm
set_option maxHeartbeats 4000000 in
theorem drawPasses_any (a : Option Addr) (len cap : Nat) (w : World) (hB : Bytes w.heap.size w a len cap) :
    Calls Try.prog 10 #[.slice a len cap] w fun e w' => DpP w e w' := by
  have bA : Below w.heap.size w (w.alloc (.cells #[.int .i64 0, .int .i64 0, .string ⟨#[]⟩] 26)) := bl_alloc (Below.refl _ _) _
  go_enter Try.func10, Try.ntmps10
  go_wp2_with fail
  refine (new_any a len cap _ (hB.laterF bA _ (by simp))).mono ?_
  rintro e w1 ⟨rfl, hC, hb1⟩
  have r1 := (Box3.new w (.int .i64 0) (.int .i64 0) (.string ⟨#[]⟩) 26).keep hb1
  have hb := bl_trans bA hb1
  clear hb1 bA hB
  simp only [World.size_alloc] at hC r1
  have hlt1 := hC.lt
  have HC := hidOf hC
  go_wp2_with fail
  refine (l8Some_any a len cap _ _ hC).mono ?_
  rintro e w2 ⟨a2, m, c2, l, rfl, hm, hV⟩
  have r2 := r1.drawn hV.D (by omega)
  have hB2 : Below w.heap.size w w2 := hb.trans (hV.D.ex.below (by omega) hb.size)
  have HV := hidOf hV
  clear hV r1 hb hC
  go_wp2_with fail
  refine (anyMsg_any a len cap _ _ HV.out.D.cur).mono ?_
  rintro e w3 ⟨k, n, s, rfl, hs, hd3⟩
  have r3 := r2.drawn hd3 (by omega)
  have hB3 : Below w.heap.size w w3 := hB2.trans (hd3.ex.below (by omega) hB2.size)
  have row3 := rowF_ex HV.out.row hd3.ex hlt1
  have hT := tm_of_row row3 HV.out.short
  have hT2 : TmAt (((w3.setCell ⟨w.heap.size, 0, none⟩ (.int .i64 k)).setCell ⟨w.heap.size, 1, none⟩ (.int .i64 n)).setCell ⟨w.heap.size, 2, none⟩ (.string s)) a2 m l :=
    tm_of_row (own_farF (own_farF (own_farF row3 w.heap.size 0 (by omega) (.int .i64 k)) w.heap.size 1 (by omega) (.int .i64 n)) w.heap.size 2 (by omega) (.string s)) HV.out.short
  have HF := hidOf (And.intro hT2 (bl_set3 hB3 w.heap.size (Nat.le_refl _) (.int .i64 k) (.int .i64 n) (.string s)))
  obtain ⟨_, p0, p1, p2, pf⟩ := id r3
  clear hd3 r2 r3 hB2 hB3 row3 hT hT2 HV HC
  go_wp2
  exact bodyPost_ret (v := .tuple #[.slice a2 m c2, .agg #[.int .i64 k, .int .i64 n, .string s]]) (by simp [results, Try.results10, go_sem, p0, p1, p2]) rfl ⟨a2, m, c2, l, k, n, s, rfl, hm, HF.out.1, hs, HF.out.2⟩
/-- Two filters are drawn. -/
def DbP (w : World) (e : Ending) (w' : World) : Prop := ∃ (a' : Option Addr) (m c' : Nat) (l : List Tm) (a2 : Option Addr) (m2 c2 : Nat) (l2 : List Tm), e = .returned (.tuple #[.slice a' m c', .slice a2 m2 c2]) ∧ m ≤ 13 ∧ m2 ≤ 13 ∧ TmAt w' a' m l ∧ TmAt w' a2 m2 l2 ∧ Below w.heap.size w w'
set_option maxHeartbeats 4000000 in
theorem drawBoth_any (a : Option Addr) (len cap : Nat) (w : World) (hB : Bytes w.heap.size w a len cap) :
    Calls Try.prog 17 #[.slice a len cap] w fun e w' => DbP w e w' := by
  go_enter Try.func17, Try.ntmps17
  go_wp2_with fail
  refine (new_any a len cap _ hB).mono ?_
  rintro e w1 ⟨rfl, hC, hb⟩
  have hlt1 := hC.lt
  go_wp2_with fail
  refine (l8Some_any a len cap _ _ hC).mono ?_
  rintro e w2 ⟨a2, m, c2, l, rfl, hm, hV⟩
  have hB2 : Below w.heap.size w w2 := hb.trans (hV.D.ex.below (by omega) hb.size)
  have HV := hidOf hV
  clear hV hb hC hB
  go_wp2_with fail
  refine (l8Some_any a len cap _ _ HV.out.D.cur).mono ?_
  rintro e w3 ⟨a3, m3, c3, l3, rfl, hm3, hV3⟩
  have hB3 : Below w.heap.size w w3 := hB2.trans (hV3.D.ex.below (by omega) hB2.size)
  have HF := hidOf (And.intro (tm_of_row (rowF_ex HV.out.row hV3.D.ex hlt1) HV.out.short) (And.intro (tm_of_row hV3.row hV3.short) hB3))
  clear hB2 hB3 hV3 HV
  go_wp2
  first | go_ret | go_ret2
  exact ⟨a2, m, c2, l, a3, m3, c3, l3, rfl, hm, hm3, HF.out.1, HF.out.2.1, HF.out.2.2⟩
end Go.Proofs.Ytedaleonmcllkaa
