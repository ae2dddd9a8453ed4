/-
  A number's text as the walks meet it: byte by byte.
-/
import Derived.Test.YtljecghkechcaaaGreatDoorNum
import Derived.Test.YtljecghkechcaaaGreatDoorZFnFilterBack3
import Derived.Lib.Strings
namespace Go.Proofs.YtljecghkechcaaaGreatDoor.Nu
open Go.Lib Pl

def numV : Option Int → Value
  | some n => .tuple #[.int .i64 n, .bool true]
  | none => .tuple #[.int .i64 0, .bool false]

theorem len_eq (t : ByteArray) : t.data.toList.length = t.size := by simp
theorem head_eq (t : ByteArray) (h : 0 < t.size) : t.data.toList.head? = some t[0] := by
  rw [List.head?_eq_getElem?, List.getElem?_eq_getElem (by rw [len_eq]; exact h)]; rfl
theorem mag_len {b : Bool} {t : ByteArray} (h : ¬ (1 ≤ (t.size : Int) ∧ (t.size : Int) ≤ 9)) : magL b t.data.toList = none := by
  unfold magL
  rw [if_neg]
  rw [len_eq]
  omega
theorem mag_nought {b : Bool} {t : ByteArray} (h0 : 0 < t.size) (h : (t[0].toNat : Int) = 48) (hb : b = true ∨ 1 < (t.size : Int)) : magL b t.data.toList = none := by
  unfold magL
  rw [if_neg]
  rintro ⟨_, _, hn⟩
  refine hn ⟨?_, ?_⟩
  · rw [head_eq t h0]
    have : t[0] = 48 := UInt8.toNat_inj.1 (by have e : (48 : UInt8).toNat = 48 := rfl; omega)
    rw [this]
  · rw [len_eq]
    rcases hb with hb | hb
    · exact .inr hb
    · exact .inl (by omega)
theorem mag_val {b : Bool} {t : ByteArray} (h0 : 0 < t.size) (h : 1 ≤ (t.size : Int) ∧ (t.size : Int) ≤ 9) (hh : ¬ (t[0].toNat : Int) = 48 ∨ (b = false ∧ (t.size : Int) ≤ 1)) : magL b t.data.toList = valL 0 t.data.toList := by
  unfold magL
  rw [if_pos]
  rw [len_eq]
  refine ⟨by omega, by omega, ?_⟩
  rintro ⟨e, k⟩
  rw [head_eq t h0] at e
  have e' : t[0] = 48 := Option.some.inj e
  rcases hh with hh | ⟨hb, hh⟩
  · rw [e'] at hh; exact hh rfl
  · rcases k with k | k
    · omega
    · rw [hb] at k; cases k
theorem val_bad : ∀ (l : List UInt8) (k acc : Nat) (h : k < l.length), ¬ (48 ≤ l[k].toNat ∧ l[k].toNat ≤ 57) → valL acc l = none
  | [], k, acc, h, _ => by simp at h
  | c :: r, 0, acc, h, hb => by simp only [valL]; rw [if_neg (by simpa using hb)]
  | c :: r, k + 1, acc, h, hb => by
    simp only [valL]
    split
    · exact val_bad r k _ (by simpa using h) (by simpa using hb)
    · rfl
theorem val_none {t : ByteArray} {k : Nat} (hk : k < t.size) (h : (t[k].toNat : Int) < 48 ∨ 57 < (t[k].toNat : Int)) : valL 0 t.data.toList = none :=
  val_bad _ k 0 (by rw [len_eq]; exact hk) (by show ¬ (48 ≤ t[k].toNat ∧ t[k].toNat ≤ 57); omega)
theorem val_next {t : ByteArray} {k u : Nat} (hk : k < t.size) (hv : valL 0 (t.data.toList.take k) = some u) (h1 : ¬ (t[k].toNat : Int) < 48) (h2 : ¬ 57 < (t[k].toNat : Int)) : valL 0 (t.data.toList.take (k + 1)) = some (u * 10 + (t[k].toNat - 48)) := by
  rw [take_snoc t k hk, valL_snoc, hv]
  simp only [Option.bind_some]
  rw [if_pos (by omega)]
theorem val_small {t : ByteArray} {k u : Nat} (hk : k ≤ 9) (hv : valL 0 (t.data.toList.take k) = some u) : u ≤ 999999999 := by
  have := valL_lt _ 0 u hv
  have hl : (t.data.toList.take k).length ≤ 9 := Nat.le_trans (List.length_take_le _ _) hk
  have := Nat.pow_le_pow_right (show 0 < 10 by decide) hl
  omega
theorem val_end {t : ByteArray} {k u : Nat} (hk : ¬ k < t.size) (hv : valL 0 (t.data.toList.take k) = some u) : valL 0 t.data.toList = some u := by
  rwa [List.take_of_length_le (by rw [len_eq]; omega)] at hv

theorem num_nil {s : ByteArray} (h : ¬ 0 < s.size) : numL s.data.toList = none := by
  have : s.data.toList = [] := List.length_eq_zero_iff.1 (by rw [len_eq]; omega)
  rw [this]; rfl
theorem num_pos {s : ByteArray} (h : 0 < s.size) (h45 : ((s[0].toNat : Int) == 45) = false) : numL s.data.toList = (magL false s.data.toList).map fun (u : Nat) => (u : Int) := by
  unfold numL
  rw [if_neg]
  rw [head_eq s h]
  intro e
  have e' : s[0] = 45 := Option.some.inj e
  rw [e'] at h45; simp at h45
theorem ext_tail (s : ByteArray) : (s.extract 1 s.size).data.toList = s.data.toList.tail := by
  rw [Lib.extract_data]
  simp only [List.drop_one]
  exact List.take_of_length_le (by rw [List.length_tail, len_eq]; exact Nat.le_refl _)
theorem num_neg {s : ByteArray} (h : 0 < s.size) (h45 : ((s[0].toNat : Int) == 45) = true) : numL s.data.toList = (magL true (s.extract 1 s.size).data.toList).map fun (u : Nat) => -(u : Int) := by
  unfold numL
  rw [if_pos, ext_tail]
  rw [head_eq s h]
  have h45' : (s[0].toNat : Int) = 45 := by simpa using h45
  have : s[0] = 45 := UInt8.toNat_inj.1 (by have e : (45 : UInt8).toNat = 45 := rfl; omega)
  rw [this]
theorem ret_none {o : Option Int} (h : o = none) : Ending.returned (.tuple #[.int .i64 0, .bool false]) = .returned (numV o) := by rw [h]; rfl
theorem ret_some {o : Option Int} {n : Int} (h : o = some n) : Ending.returned (.tuple #[.int .i64 n, .bool true]) = .returned (numV o) := by rw [h]; rfl
theorem ext_size (s : ByteArray) : (s.extract 1 s.size).size = s.size - 1 := by rw [ByteArray.size_extract]; omega
theorem neg_nought {s : ByteArray} (h : 0 < s.size) (h45 : ((s[0].toNat : Int) == 45) = true) (h0 : 0 < (s.extract 1 s.size).size) (h48 : ((s.extract 1 s.size)[0].toNat : Int) = 48) : numL s.data.toList = none := by
  rw [num_neg h h45, mag_nought h0 h48 (.inl rfl)]; rfl
theorem neg_len {s : ByteArray} (h : 0 < s.size) (h45 : ((s[0].toNat : Int) == 45) = true) (hl : ¬ (1 ≤ ((s.size - 1 : Nat) : Int) ∧ ((s.size - 1 : Nat) : Int) ≤ 9)) : numL s.data.toList = none := by
  rw [num_neg h h45, mag_len (by rw [ext_size]; exact hl)]; rfl
theorem pos_nought {s : ByteArray} (h : 0 < s.size) (h45 : ((s[0].toNat : Int) == 45) = false) (h48 : (s[0].toNat : Int) = 48) (h1 : 1 < (s.size : Int)) : numL s.data.toList = none := by
  rw [num_pos h h45, mag_nought h h48 (.inr h1)]; rfl
theorem pos_len {s : ByteArray} (h : 0 < s.size) (h45 : ((s[0].toNat : Int) == 45) = false) (hl : ¬ (1 ≤ (s.size : Int) ∧ (s.size : Int) ≤ 9)) : numL s.data.toList = none := by
  rw [num_pos h h45, mag_len hl]; rfl
/-- What is left of the text, and how its value becomes the number. -/
structure Rest (s t : ByteArray) (f : Nat → Int) : Prop where
  num : numL s.data.toList = (valL 0 t.data.toList).map f
  len : t.size ≤ 9
theorem neg_rest {s : ByteArray} (h : 0 < s.size) (h45 : ((s[0].toNat : Int) == 45) = true) (hl : 1 ≤ ((s.size - 1 : Nat) : Int) ∧ ((s.size - 1 : Nat) : Int) ≤ 9) (h0 : 0 < (s.extract 1 s.size).size) (h48 : ¬ ((s.extract 1 s.size)[0].toNat : Int) = 48) :
    Rest s (s.extract 1 s.size) fun (u : Nat) => -(u : Int) :=
  ⟨by rw [num_neg h h45, mag_val h0 (by rw [ext_size]; exact hl) (.inl h48)], by rw [ext_size]; omega⟩
theorem pos_rest {s : ByteArray} (h : 0 < s.size) (h45 : ((s[0].toNat : Int) == 45) = false) (hl : 1 ≤ (s.size : Int) ∧ (s.size : Int) ≤ 9) (h48 : ¬ (s[0].toNat : Int) = 48 ∨ (s.size : Int) ≤ 1) :
    Rest s s fun (u : Nat) => (u : Int) :=
  ⟨by rw [num_pos h h45, mag_val h hl (h48.imp_right fun h => ⟨rfl, h⟩)], by omega⟩
theorem Rest.none {s t : ByteArray} {f : Nat → Int} (h : Rest s t f) {k : Nat} (hk : k < t.size) (hb : (t[k].toNat : Int) < 48 ∨ 57 < (t[k].toNat : Int)) : numL s.data.toList = none := by
  rw [h.num, val_none hk hb]; rfl
theorem Rest.some {s t : ByteArray} {f : Nat → Int} (h : Rest s t f) {k u : Nat} (hk : ¬ k < t.size) (hv : valL 0 (t.data.toList.take k) = some u) : numL s.data.toList = some (f u) := by
  rw [h.num, val_end hk hv]; rfl
end Go.Proofs.YtljecghkechcaaaGreatDoor.Nu
