/-
  The plain mathematics of the law on what matches: a name matches itself, what stands for all, and as many stars as it has parts.
-/
import Derived.Test.YthhehonlejmmaaaDoorTM1
namespace Go.Proofs.YthhehonlejmmaaaDoor.Tn
open Go.RowKit Go.Lib

theorem match_no {name pat : ByteArray} (h : rightN false name = false) : matchN name pat = false := by simp [matchN, h]
theorem parts_mono {f g : Bool → ByteArray → Bool} (h : ∀ l p, f l p = true → g l p = true) (n : Nat) : ∀ (xs : List ByteArray) (i : Nat), partsF f n i xs = true → partsF g n i xs = true := by
  intro xs
  induction xs with
  | nil => intro i _; rfl
  | cons x xs ih =>
    intro i hp
    simp only [partsF, Bool.and_eq_true] at hp ⊢
    exact ⟨h _ _ hp.1, ih _ hp.2⟩
theorem right_true {s : ByteArray} (h : rightN false s = true) : rightN true s = true := by
  unfold rightN rightF at h ⊢
  rw [Bool.and_eq_true] at h ⊢
  refine ⟨h.1, parts_mono (fun l p hp => ?_) _ _ _ h.2⟩
  simp only [okPart, Bool.false_and, Bool.false_or] at hp
  simp [okPart, hp]
theorem match_self : ∀ xs : List ByteArray, matchL xs xs = true
  | [] => rfl
  | x :: xs => by simp [matchL, match_self xs]
theorem matchN_self {s : ByteArray} (h : rightN false s = true) : matchN s s = true := by simp [matchN, h, right_true h, match_self]
theorem parts_one {s : ByteArray} (h : ∀ c ∈ dat s, c ≠ 46) : partsB s = [s] := map_inj (by rw [parts_dat, cutL_no _ h]; rfl)
theorem rest_parts : partsB rest = [rest] := parts_one (by decide)
theorem rest_right : rightN true rest = true := by
  unfold rightN rightF
  rw [rest_parts]
  decide
theorem matchN_rest {s : ByteArray} (h : rightN false s = true) : matchN s rest = true := by
  unfold matchN
  rw [h, rest_right, rest_parts]
  have := parts_pos s
  cases hp : partsB s with
  | nil => rw [hp] at this; simp at this
  | cons y ys => simp [matchL]
/-- So many stars, each with a point behind it. -/
def starsL : Nat → List UInt8
  | 0 => []
  | d + 1 => 42 :: 46 :: starsL d
theorem stars_snoc : ∀ d, starsL d ++ [42, 46] = starsL (d + 1)
  | 0 => rfl
  | d + 1 => by
    show 42 :: 46 :: (starsL d ++ [42, 46]) = _
    rw [stars_snoc d]; rfl
theorem stars_len : ∀ d, (starsL d).length = 2 * d
  | 0 => rfl
  | d + 1 => by simp only [starsL, List.length_cons, stars_len d]; omega
theorem stars_cut : ∀ d, cutL (starsL d ++ [42]) = List.replicate (d + 1) [42]
  | 0 => by decide
  | d + 1 => by
    show cutL (42 :: 46 :: (starsL d ++ [42])) = _
    have := cutL_at [42] (starsL d ++ [42]) (by decide)
    rw [show (42 : UInt8) :: 46 :: (starsL d ++ [42]) = [42] ++ 46 :: (starsL d ++ [42]) from rfl, this, stars_cut d]
    rfl
theorem stars_parts {s : ByteArray} {d : Nat} (h : dat s = starsL d ++ [42]) : partsB s = List.replicate (d + 1) star :=
  map_inj (by rw [parts_dat, h, stars_cut, List.map_replicate]; rfl)
theorem ok_star (l : Bool) : okPart true l star = true := by simp [okPart]
theorem stars_ok (n : Nat) : ∀ (m i : Nat), partsF (okPart true) n i (List.replicate m star) = true
  | 0, _ => rfl
  | m + 1, i => by rw [List.replicate_succ]; simp only [partsF, ok_star, Bool.true_and]; exact stars_ok n m (i + 1)
theorem match_stars : ∀ (n : Nat) (ys : List ByteArray), matchL (List.replicate n star) ys = decide (ys.length = n)
  | 0, ys => by cases ys <;> simp [matchL]
  | n + 1, [] => by simp [List.replicate_succ, matchL]
  | n + 1, y :: ys => by
    rw [List.replicate_succ, match_step star_rest (.inl rfl), match_stars n ys]
    simp
theorem cut_sum : ∀ l : List UInt8, l.length + 1 = ((cutL l).map (fun p => p.length + 1)).sum
  | [] => rfl
  | c :: l => by
    have ih := cut_sum l
    have hne := cutL_ne l
    rw [show cutL (c :: l) = if c = 46 then [] :: cutL l else (c :: (cutL l).headD []) :: (cutL l).tail from rfl]
    split
    · simp [← ih]; omega
    · cases hc : cutL l with
      | nil => exact absurd hc hne
      | cons p ps =>
        rw [hc] at ih
        simp only [List.map_cons, List.sum_cons, List.length_cons, List.headD_cons, List.tail_cons] at ih ⊢
        omega
theorem sum_ge : ∀ (ls : List (List UInt8)), (∀ p ∈ ls, p ≠ []) → 2 * ls.length ≤ (ls.map (fun p => p.length + 1)).sum
  | [], _ => by simp
  | p :: ps, h => by
    have ih := sum_ge ps (fun q hq => h q (by simp [hq]))
    have h0 : 0 < p.length := List.length_pos_iff.2 (h p (by simp))
    simp only [List.map_cons, List.sum_cons, List.length_cons]
    omega
theorem plain_ne {p : ByteArray} (h : plainP p = true) : dat p ≠ [] := fun e => by
  unfold plainP at h
  rw [e] at h
  simp at h
theorem right_long2 {s : ByteArray} (h : rightN false s = true) : 2 * (dat s).count 46 + 1 ≤ s.size ∧ s.size ≤ 24 ∧ (partsB s).length = (dat s).count 46 + 1 := by
  have hz := right_size h
  have hl : (partsB s).length = (dat s).count 46 + 1 := by rw [← cutL_len, ← parts_dat, List.length_map]
  refine ⟨?_, hz, hl⟩
  unfold rightN rightF at h
  rw [Bool.and_eq_true] at h
  have hall := parts_at h.2
  have hne : ∀ p ∈ cutL (dat s), p ≠ [] := by
    intro p hp
    rw [← parts_dat, List.mem_map] at hp
    obtain ⟨q, hq, rfl⟩ := hp
    obtain ⟨i, hi, e⟩ := List.getElem_of_mem hq
    have := hall i hi
    have e' : (partsB s).getD i ⟨#[]⟩ = q := by rw [List.getD, List.getElem?_eq_getElem hi, Option.getD_some, e]
    rw [e'] at this
    exact plain_ne (by simpa [okPart] using this)
  have h1 := sum_ge _ hne
  rw [← cut_sum, cutL_len, dat_len] at h1
  omega
theorem matchN_stars {s p : ByteArray} (h : rightN false s = true) (hp : dat p = starsL ((dat s).count 46) ++ [42]) : matchN s p = true := by
  obtain ⟨h1, h2, h3⟩ := right_long2 h
  have hq := stars_parts hp
  have hz : p.size ≤ 24 := by rw [← dat_len, hp, List.length_append, stars_len]; simp; omega
  have hr : rightN true p = true := by
    unfold rightN
    rw [right_parts hz, hq]
    exact stars_ok _ _ _
  unfold matchN
  rw [h, hr, hq, match_stars, h3]
  simp
theorem matchN_more {s p : ByteArray} (h : rightN false s = true) (hp : dat p = starsL ((dat s).count 46) ++ [42, 46, 42]) : matchN s p = false := by
  obtain ⟨h1, h2, h3⟩ := right_long2 h
  have hq := stars_parts (s := p) (d := (dat s).count 46 + 1) (by
    rw [hp, ← stars_snoc, List.append_assoc]; rfl)
  unfold matchN
  rw [hq, match_stars, h3]
  simp
theorem dat_app (a b : ByteArray) : dat (a ++ b) = dat a ++ dat b := by
  show (a ++ b).data.toList = _
  rw [ByteArray.data_append, Array.toList_append]
  rfl
theorem count_snoc {s : ByteArray} {k : Nat} (hk : k < s.size) : ((dat s).take (k + 1)).count 46 = ((dat s).take k).count 46 + if s[k] = 46 then 1 else 0 := by
  rw [List.take_succ_eq_append_getElem (by rw [dat_len]; exact hk), List.count_append]
  show _ + List.count 46 [s[k]] = _
  by_cases h : s[k] = 46
  · rw [if_pos h, h]; rfl
  · rw [if_neg h, List.count_cons_of_ne (by simpa using fun e => h e)]; rfl
end Go.Proofs.YthhehonlejmmaaaDoor.Tn
