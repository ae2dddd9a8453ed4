/-
  The plain mathematics of a filter's text that is read: the specification's way and the program's are the same.
-/
import Derived.Test.YtljecghkechcaaaGreatDoorTYm
namespace Go.Proofs.YtljecghkechcaaaGreatDoor
open Go.RowKit Pl Il

theorem step_skip {c : UInt8} {t : ByteArray} {op : Int} {l : List UInt8} {d : UInt8} (hw : (wordT op).data.toList = d :: l) (hc : ¬ c = d) : stepS (put1 c t) op = none := by
  have ne : ¬ put1 c t = wordT op := by
    intro e
    have := congrArg (fun x : ByteArray => x.data.toList) e
    simp only [put1_list, hw, List.cons.injEq] at this
    exact hc this.1
  unfold stepS
  rw [if_neg ne, if_pos]
  refine .inr ?_
  intro e
  have := congrArg (fun x : ByteArray => x.data.toList) e
  simp only [ext_data, put1_list, hw, List.drop_zero, Nat.sub_zero] at this
  rw [size_list, hw] at this
  simp only [List.length_cons, List.take_succ_cons, List.cons.injEq] at this
  exact hc this.1
theorem step_own {c : UInt8} {t : ByteArray} {op : Int} (hw : wordT op = ⟨#[c]⟩) (ht : 0 < t.size) :
    stepS (put1 c t) op = if hasN op = true then some ((op, numT t, noB), numOk t) else if op = 6 ∨ op = 7 then some ((op, 0, t), true) else none := by
  have h1 : (ByteArray.mk #[c]).size = 1 := rfl
  have ne : ¬ put1 c t = ⟨#[c]⟩ := by
    intro e
    have := congrArg ByteArray.size e
    rw [put1_size, h1] at this
    omega
  unfold stepS
  rw [hw, if_neg ne, if_neg, h1, put1_tail]
  rw [h1, put1_head, put1_size]
  rintro (k | k)
  · omega
  · exact k rfl
theorem w1 : (wordT 1).data.toList = 97 :: [108, 108] := by decide
theorem w2 : (wordT 2).data.toList = 110 :: [117, 109] := by decide
theorem w3 : (wordT 3).data.toList = 116 :: [101, 120, 116] := by decide
theorem w4 : (wordT 4).data.toList = 60 :: [] := by decide
theorem w5 : (wordT 5).data.toList = 37 :: [] := by decide
theorem w6 : (wordT 6).data.toList = 94 :: [] := by decide
theorem itoaF_pos (n : Int) : 0 < (itoaF n).size := by
  have e : (itoaF n).size = (Lib.itoa n).length := by simp [itoaF, ByteArray.size]
  rw [e, Lib.itoa]
  split
  · simp
  · exact Nu.dd_len1 _
theorem part_pos {s : ByteArray} (h : partB s = true) : 0 < s.size ∧ s.size ≤ 10 := by
  simp only [partB, Bool.and_eq_true, decide_eq_true_eq] at h
  omega
theorem rdS_back {t : Tm} (h : okTm t = true) : rdS (termB t) = (t, true) := by
  rcases tm_cases h with ⟨op, ho, rfl⟩ | ⟨n, h0, h1, rfl | rfl⟩ | ⟨s, hs, rfl | rfl⟩
  · rcases ho with rfl | rfl | rfl | rfl | rfl | rfl <;> decide +kernel
  · rw [term4]
    refine rdS_hit (k := 3) (by decide) (fun j hj => ?_) ?_
    · match j, hj with
      | 0, _ => exact step_skip w1 (by decide)
      | 1, _ => exact step_skip w2 (by decide)
      | 2, _ => exact step_skip w3 (by decide)
    · rw [show (((3 : Nat) : Int) + 1) = 4 by decide, step_own (c := 60) (by decide) (itoaF_pos n), if_pos (by decide), (num_back h0 h1).1, (num_back h0 h1).2]
  · rw [term5]
    refine rdS_hit (k := 4) (by decide) (fun j hj => ?_) ?_
    · match j, hj with
      | 0, _ => exact step_skip w1 (by decide)
      | 1, _ => exact step_skip w2 (by decide)
      | 2, _ => exact step_skip w3 (by decide)
      | 3, _ => exact step_skip w4 (by decide)
    · rw [show (((4 : Nat) : Int) + 1) = 5 by decide, step_own (c := 37) (by decide) (itoaF_pos n), if_pos (by decide), (num_back h0 h1).1, (num_back h0 h1).2]
  · rw [term6]
    refine rdS_hit (k := 5) (by decide) (fun j hj => ?_) ?_
    · match j, hj with
      | 0, _ => exact step_skip w1 (by decide)
      | 1, _ => exact step_skip w2 (by decide)
      | 2, _ => exact step_skip w3 (by decide)
      | 3, _ => exact step_skip w4 (by decide)
      | 4, _ => exact step_skip w5 (by decide)
    · rw [show (((5 : Nat) : Int) + 1) = 6 by decide, step_own (c := 94) (by decide) (part_pos hs).1, if_neg (by decide), if_pos (by decide)]
  · rw [term7]
    refine rdS_hit (k := 6) (by decide) (fun j hj => ?_) ?_
    · match j, hj with
      | 0, _ => exact step_skip w1 (by decide)
      | 1, _ => exact step_skip w2 (by decide)
      | 2, _ => exact step_skip w3 (by decide)
      | 3, _ => exact step_skip w4 (by decide)
      | 4, _ => exact step_skip w5 (by decide)
      | 5, _ => exact step_skip w6 (by decide)
    · rw [show (((6 : Nat) : Int) + 1) = 7 by decide, step_own (c := 126) (by decide) (part_pos hs).1, if_neg (by decide), if_pos (by decide)]

theorem dd_dig (u : Nat) : ∀ c ∈ Lib.decDigits u, 48 ≤ c.toNat := by
  induction u using Nat.strongRecOn with
  | ind u ih =>
    intro c hc
    by_cases h : u < 10
    · rw [Nu.dd_small h] at hc
      simp only [List.mem_singleton] at hc
      rw [hc, Nu.dig_toNat u h]
      omega
    · rw [Nu.dd_big h] at hc
      simp only [List.mem_append, List.mem_singleton] at hc
      rcases hc with hc | hc
      · exact ih (u / 10) (by omega) c hc
      · rw [hc, Nu.dig_toNat (u % 10) (by omega)]
        omega
theorem ge_no {c : UInt8} (h : 45 ≤ c.toNat) : c ≠ 32 := by
  rintro rfl
  revert h
  decide
theorem itoa_no (n : Int) : ∀ c ∈ (itoaF n).data.toList, c ≠ 32 := by
  intro c hc
  have hc : c ∈ Lib.itoa n := by simpa [itoaF] using hc
  unfold Lib.itoa at hc
  split at hc
  · simp only [List.mem_cons] at hc
    rcases hc with rfl | hc
    · decide
    · exact ge_no (by have := dd_dig _ c hc; omega)
  · exact ge_no (by have := dd_dig _ c hc; omega)
theorem part_no {s : ByteArray} (h : partB s = true) : ∀ c ∈ s.data.toList, c ≠ 32 := by
  intro c hc
  simp only [partB, letL, Bool.and_eq_true, List.all_eq_true] at h
  have := h.2 c hc
  simp only [isLet, Bool.and_eq_true, decide_eq_true_eq] at this
  exact ge_no (by omega)
theorem put1_no {c : UInt8} {t : ByteArray} (h : c ≠ 32) (ht : ∀ d ∈ t.data.toList, d ≠ 32) : ∀ d ∈ (put1 c t).data.toList, d ≠ 32 := by
  intro d hd
  rw [put1_list] at hd
  rcases List.mem_cons.1 hd with rfl | k
  · exact h
  · exact ht d k
theorem term_no {t : Tm} (h : okTm t = true) : ∀ c ∈ termL t, c ≠ 32 := by
  unfold termL
  rcases tm_cases h with ⟨op, ho, rfl⟩ | ⟨n, h0, h1, rfl | rfl⟩ | ⟨s, hs, rfl | rfl⟩
  · rcases ho with rfl | rfl | rfl | rfl | rfl | rfl <;> decide +kernel
  · rw [term4]; exact put1_no (by decide) (itoa_no n)
  · rw [term5]; exact put1_no (by decide) (itoa_no n)
  · rw [term6]; exact put1_no (by decide) (part_no hs)
  · rw [term7]; exact put1_no (by decide) (part_no hs)
theorem term_11 {t : Tm} (h : okTm t = true) : (termB t).size ≤ 11 := by
  rcases tm_cases h with ⟨op, ho, rfl⟩ | ⟨n, h0, h1, rfl | rfl⟩ | ⟨s, hs, rfl | rfl⟩
  · rcases ho with rfl | rfl | rfl | rfl | rfl | rfl <;> decide +kernel
  · rw [term4, put1_size]; have := itoaF_size h0 h1; omega
  · rw [term5, put1_size]; have := itoaF_size h0 h1; omega
  · rw [term6, put1_size]; have := part_pos hs; omega
  · rw [term7, put1_size]; have := part_pos hs; omega
theorem joinT_12 {ts : List Tm} (hok : ∀ t, t ∈ ts → okTm t = true) : ∀ k, k ≤ ts.length → (joinT (ts.take k)).size ≤ 12 * k
  | 0, _ => by simp [joinT, Lib.join_nil, ByteArray.size]
  | k + 1, hk => by
    have ih := joinT_12 hok k (by omega)
    have ht := term_11 (hok _ (qg_mem (show k < ts.length by omega)))
    by_cases h0 : k = 0
    · rw [joinT_first (by omega) h0]; omega
    · rw [joinT_next (by omega) h0, ByteArray.size_append, ByteArray.size_append]
      have : (ByteArray.mk #[32]).size = 1 := rfl
      omega

def wordsS (s : ByteArray) : List ByteArray := Tb.partsB s
def implF (s : ByteArray) : Option (List Tm) :=
  if s = noB then some [] else if (wordsS s).all (fun w => (rdT w).2) = true then (if okF ((wordsS s).map fun w => (rdT w).1) = true then some ((wordsS s).map fun w => (rdT w).1) else none) else none
def specF (s : ByteArray) : Option (List Tm) :=
  if 144 < s.size then none else if s = noB then some [] else if (wordsS s).all (fun w => (rdS w).2) = true then
    (if okF ((wordsS s).map fun w => (rdS w).1) = true ∧ joinT ((wordsS s).map fun w => (rdS w).1) = s then some ((wordsS s).map fun w => (rdS w).1) else none) else none
theorem words_cut (s : ByteArray) : (wordsS s).map (·.data.toList) = Tb.cutL s.data.toList := Tb.parts_dat s
theorem pair_eq {p : Tm × Bool} (h : p.2 = true) : p = (p.1, true) := by cases p; simp at h; simp [h]
theorem impl_to_spec {s : ByteArray} {f : List Tm} (h : implF s = some f) : specF s = some f := by
  unfold implF at h
  split at h
  · rename_i h0
    subst h0
    unfold specF
    rw [if_neg (by decide), if_pos rfl]; exact h
  · rename_i h0
    split at h
    · rename_i hall
      split at h
      · rename_i hok
        obtain rfl := Option.some.inj h
        have hw : ∀ w ∈ wordsS s, w = termB (rdT w).1 ∧ rdS w = rdT w := by
          intro w hw
          have hp := pair_eq (List.all_eq_true.1 hall w hw)
          have ht := okF_all hok (rdT w).1 (List.mem_map_of_mem (f := fun w => (rdT w).1) hw)
          have he := rdT_only hp ht
          exact ⟨he, by rw [hp]; conv => lhs; rw [he]
                        exact rdS_back ht⟩
        have hm : (wordsS s).map (fun w => (rdS w).1) = (wordsS s).map (fun w => (rdT w).1) := List.map_congr_left fun w h => by rw [(hw w h).2]
        have ha : (wordsS s).all (fun w => (rdS w).2) = true := by
          rw [List.all_eq_true]
          intro w h
          rw [(hw w h).2]
          exact List.all_eq_true.1 hall w h
        have hj : joinT ((wordsS s).map fun w => (rdT w).1) = s := by
          refine baE ?_
          have e : ((wordsS s).map fun w => (rdT w).1).map termL = (wordsS s).map (·.data.toList) := by
            rw [List.map_map]
            exact List.map_congr_left fun w h => by simp only [Function.comp, termL]; rw [← (hw w h).1]
          simp only [joinT, e, words_cut, Tb.join_cut]
        have hz := joinT_12 (okF_all hok) _ (Nat.le_refl _)
        rw [joinT_all (Nat.le_refl _), hj] at hz
        have hl := okF_few hok
        unfold specF
        rw [if_neg (by omega), if_neg h0, if_pos ha, hm, if_pos ⟨hok, hj⟩]
      · cases h
    · cases h
theorem spec_to_impl {s : ByteArray} {f : List Tm} (h : specF s = some f) : implF s = some f := by
  unfold specF at h
  split at h
  · cases h
  · split at h
    · rename_i h0
      unfold implF
      rw [if_pos h0]; exact h
    · rename_i h0
      split at h
      · split at h
        · rename_i hok
          obtain ⟨hok, hj⟩ := hok
          obtain hf := Option.some.inj h
          rw [hf] at hok hj
          have hne : f ≠ [] := by
            rintro rfl
            have := congrArg List.length hf
            simp only [List.length_map, List.length_nil] at this
            have p := Tb.parts_pos s
            unfold wordsS at this
            omega
          have hc : (wordsS s).map (·.data.toList) = f.map termL := by
            rw [words_cut, ← hj]
            cases f with
            | nil => exact absurd rfl hne
            | cons t ts =>
              simp only [joinT, List.map_cons]
              exact Tb.cut_join _ _ (by
                intro q hq
                rw [← List.map_cons (f := termL), List.mem_map] at hq
                obtain ⟨x, hx, rfl⟩ := hq
                exact term_no (okF_all hok x hx))
          have hws : wordsS s = f.map termB := by
            apply Tb.map_inj
            rw [List.map_map]
            exact hc
          have hm : (wordsS s).map (fun w => (rdT w).1) = f := by
            rw [hws, List.map_map]
            conv => rhs; rw [← List.map_id f]
            exact List.map_congr_left fun t ht => by simp only [Function.comp, id, rdT_back (okF_all hok t ht)]
          have ha : (wordsS s).all (fun w => (rdT w).2) = true := by
            rw [hws, List.all_eq_true]
            intro w hw
            obtain ⟨t, ht, rfl⟩ := List.mem_map.1 hw
            rw [rdT_back (okF_all hok t ht)]
          unfold implF
          rw [if_neg h0, if_pos ha, hm, if_pos hok]
        · cases h
      · cases h
theorem spec_impl (s : ByteArray) : specF s = implF s := by
  cases hi : implF s with
  | some f => exact impl_to_spec hi
  | none =>
    cases hs : specF s with
    | none => rfl
    | some f => rw [spec_to_impl hs] at hi; cases hi
end Go.Proofs.YtljecghkechcaaaGreatDoor
