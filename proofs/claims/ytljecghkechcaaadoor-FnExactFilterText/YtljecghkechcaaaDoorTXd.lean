/-
  Walks: a number's digits, as the specification writes them.
-/
import Derived.Test.YtljecghkechcaaaDoorTXm
import Derived.Test.YtljecghkechcaaaDoorPlain
import Derived.Test.YtljecghkechcaaaDoorProg
import Derived.Laws.BytesArg
namespace Go.Proofs.YtljecghkechcaaaDoor
open Go.RowKit Pl Il

theorem conv1X (w : World) (x : Int) : (convert 49 9 (.slice (some ⟨w.heap.size, 0, none⟩) 1 1)).run Tryd.prog (w.alloc (.cells #[.int .u8 x] 5)) = .ok (.string (strOfNums [x])) (w.alloc (.cells #[.int .u8 x] 5)) :=
  run_convert_bytes_arg _ 49 5 Tryd.underlying49 Tryd.underlying5 w.heap.size 0 1 1 [x] rfl (fun i hi => by
    obtain rfl : i = 0 := by omega
    simp) 9 Tryd.underlying9
theorem small_oneX (x : Int) : (strOfNums [x]).size = 1 := rfl

theorem rstr {a b : ByteArray} (h : a = b) : Ending.returned (.string a) = .returned (.string b) := by rw [h]
theorem itoaF_zero : (⟨#[48]⟩ : ByteArray) = itoaF 0 := baE (by
  have e : Lib.itoa 0 = Lib.decDigits 0 := by simp [Lib.itoa]
  simp only [itoaF, e, Nu.dd_small (show 0 < 10 by decide)]
  rfl)
def leftD (u : Nat) : List UInt8 := if u = 0 then [] else Lib.decDigits u
/-- What is written so far, behind what is left. -/
structure DigX (n m : Int) (t : ByteArray) : Prop where
  eq : leftD m.natAbs ++ t.data.toList = Lib.decDigits n.natAbs
  lo : -999999999 ≤ m
  hi : m ≤ 999999999
  sz : t.size ≤ 9
theorem tdiv_ltX (m : Int) (h : ¬ m = 0) : (m.tdiv 10).natAbs < m.natAbs := by
  rw [Int.natAbs_tdiv]
  show m.natAbs / 10 < m.natAbs
  omega
theorem tmodX (m : Int) : (m.tmod 10).natAbs = m.natAbs % 10 := by rw [Int.natAbs_tmod]; rfl
theorem w64X (n : Int) (h : -9223372036854775808 ≤ n ∧ n ≤ 9223372036854775807) : wrap64 n = n := by unfold wrap64; omega
theorem dig_neg {m : Int} (h : m.tmod 10 < 0) : wrap64 (48 + wrap64 (-m.tmod 10)) % 256 = ((48 + m.natAbs % 10 : Nat) : Int) := by
  have e := tmodX m
  rw [w64X (-m.tmod 10) ⟨by omega, by omega⟩, w64X _ ⟨by omega, by omega⟩]
  omega
theorem dig_pos {m : Int} (h : 0 ≤ m.tmod 10) : wrap64 (48 + m.tmod 10) % 256 = ((48 + m.natAbs % 10 : Nat) : Int) := by
  have e := tmodX m
  rw [w64X _ ⟨by omega, by omega⟩]
  omega
theorem left_step {u : Nat} (h : u ≠ 0) : leftD u = leftD (u / 10) ++ [UInt8.ofNat (48 + u % 10)] := by
  unfold leftD
  rw [if_neg h]
  by_cases h9 : u < 10
  · rw [Nu.dd_small h9, if_pos (by omega), Nat.mod_eq_of_lt h9]; rfl
  · rw [Nu.dd_big h9, if_neg (by omega)]
theorem nums_one (x : Nat) : (strOfNums [(x : Int)]).data.toList = [UInt8.ofNat x] := by
  simp [strOfNums]
theorem DigX.len {n m : Int} {t : ByteArray} (h : DigX n m t) (h0 : -999999999 ≤ n) (h1 : n ≤ 999999999) (hm : ¬ m = 0) : t.size ≤ 8 := by
  have e := congrArg List.length h.eq
  rw [List.length_append] at e
  have k := Nu.dd_len 8 n.natAbs (by omega)
  have p : 1 ≤ (leftD m.natAbs).length := by
    unfold leftD
    rw [if_neg (by omega)]
    exact Nu.dd_len1 _
  have := size_list t
  omega
theorem DigX.next {n m : Int} {t : ByteArray} (h : DigX n m t) (h0 : -999999999 ≤ n) (h1 : n ≤ 999999999) (hm : ¬ m = 0) (x : Int) (hx : x = ((48 + m.natAbs % 10 : Nat) : Int)) : DigX n (m.tdiv 10) (strOfNums [x] ++ t) := by
  have hl := h.len h0 h1 hm
  have hq : (m.tdiv 10).natAbs = m.natAbs / 10 := by rw [Int.natAbs_tdiv]; rfl
  have b0 := h.lo
  have b1 := h.hi
  subst hx
  refine ⟨?_, by omega, by omega, by rw [ByteArray.size_append, small_oneX]; omega⟩
  rw [hq, app_list, nums_one _, ← h.eq, left_step (u := m.natAbs) (by omega)]
  simp
theorem DigX.done {n : Int} {t : ByteArray} (h : DigX n 0 t) : t.data.toList = Lib.decDigits n.natAbs := by
  have := h.eq
  simpa [leftD] using this

set_option maxRecDepth 20000 in
set_option maxHeartbeats 1000000 in
theorem digits_any (n : Int) (w : World) (h0 : -999999999 ≤ n) (h1 : n ≤ 999999999) :
    Calls Tryd.prog 17 #[.int .i64 n] w fun e w' => e = .returned (.string (itoaF n)) ∧ Below w.heap.size w w' := by
  by_cases hz : n = 0
  · subst hz
    go_enter Tryd.func17, Tryd.ntmps17
    go_wp2
    go_ret
    exact ⟨rstr itoaF_zero, Below.refl _ _⟩
  · have hz' : (n == 0) = false := by simp [hz]
    have HZ := hidOf hz
    have H0 := hidOf h0
    have H1 := hidOf h1
    clear hz h0 h1
    by_cases hneg : n < 0
    · have HN := hidOf hneg
      go_enter Tryd.func17, Tryd.ntmps17
      go_wp2
      go_loopw [0, 3] (fun x o wr => ∃ (m : Int) (t : ByteArray), x = .int .i64 m ∧ o = .string t ∧ DigX n m t ∧ Below w.heap.size w wr) (fun x _ _ => (intOf x).natAbs)
      case atStart => exact ⟨n, ⟨#[]⟩, rfl, rfl, ⟨by unfold leftD; rw [if_neg (by have := HZ.out; omega)]; simp, H0.out, H1.out, by decide⟩, Below.refl _ _⟩
      case round =>
        rename_i wr
        obtain ⟨m, t, rfl, rfl, hD, hb⟩ := hrel
        have HD := hidOf hD
        have hz9 : t.size ≤ 9 := hD.sz
        by_cases hm : m = 0
        · subst hm
          clear hD
          go_wp2
          go_ret
          exact ⟨rstr (baE (by rw [app_list, HD.out.done]; simp [itoaF, Lib.itoa, HN.out])), hb⟩
        · have hm' : (m != 0) = true := by simp [hm]
          have b0 := hD.lo
          have b1 := hD.hi
          have Hm := hidOf hm
          clear hm hD
          have cv := conv1X
          have s1 := small_oneX
          go_wp2
          all_goals exact ⟨⟨_, _, rfl, rfl, HD.out.next H0.out H1.out Hm.out _ (by first | (exact dig_neg (by omega)) | (exact dig_pos (by omega))), bl_alloc hb _⟩, by simp only [intOf]; exact tdiv_ltX m Hm.out⟩
    · have HN := hidOf hneg
      go_enter Tryd.func17, Tryd.ntmps17
      go_wp2
      go_loopw [0, 3] (fun x o wr => ∃ (m : Int) (t : ByteArray), x = .int .i64 m ∧ o = .string t ∧ DigX n m t ∧ Below w.heap.size w wr) (fun x _ _ => (intOf x).natAbs)
      case atStart => exact ⟨n, ⟨#[]⟩, rfl, rfl, ⟨by unfold leftD; rw [if_neg (by have := HZ.out; omega)]; simp, H0.out, H1.out, by decide⟩, Below.refl _ _⟩
      case round =>
        rename_i wr
        obtain ⟨m, t, rfl, rfl, hD, hb⟩ := hrel
        have HD := hidOf hD
        have hz9 : t.size ≤ 9 := hD.sz
        by_cases hm : m = 0
        · subst hm
          clear hD
          go_wp2
          go_ret
          exact ⟨rstr (baE (by
            rw [HD.out.done]
            have h9 : ¬ n < 0 := by have := HN.out; omega
            simp only [itoaF, Lib.itoa, if_neg h9]
            rw [show n.natAbs = n.toNat by omega])), hb⟩
        · have hm' : (m != 0) = true := by simp [hm]
          have b0 := hD.lo
          have b1 := hD.hi
          have Hm := hidOf hm
          clear hm hD
          have cv := conv1X
          have s1 := small_oneX
          go_wp2
          all_goals exact ⟨⟨_, _, rfl, rfl, HD.out.next H0.out H1.out Hm.out _ (by first | (exact dig_neg (by omega)) | (exact dig_pos (by omega))), bl_alloc hb _⟩, by simp only [intOf]; exact tdiv_ltX m Hm.out⟩
end Go.Proofs.YtljecghkechcaaaDoor
