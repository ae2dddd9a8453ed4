/-
  Walks of the specification's lines: who joins, who leaves, who is woken.
-/
import Derived.Test.YtlodnmbkicmjfaaH6
import Derived.Deep.RegionHeld3
namespace Go.Proofs.Ytlodnmbkicmjfaa
open Go.RowKit Pl Il

/-- What Join answers: the line, and the code. -/
def joinL (xs : List Int) (x : Int) : List Int × Int :=
  if !lineL xs || !clientL x then (xs, 1) else if hasL xs x then (xs, 5) else if 32 ≤ xs.length then (xs, 2) else (xs ++ [x], 0)
/-- What Leave answers: the line, and the code. -/
def leaveL (xs : List Int) (x : Int) : List Int × Int :=
  if !lineL xs then (xs, 1) else if !hasL xs x then (xs, 3) else (lessL xs x, 0)
theorem join_bad {xs : List Int} {x : Int} (h : lineL xs = false ∨ clientL x = false) : joinL xs x = (xs, 1) := by rcases h with h | h <;> simp [joinL, h]
theorem join_there {xs : List Int} {x : Int} (h1 : lineL xs = true) (h2 : clientL x = true) (h3 : hasL xs x = true) : joinL xs x = (xs, 5) := by simp [joinL, h1, h2, h3]
theorem join_full {xs : List Int} {x : Int} (h1 : lineL xs = true) (h2 : clientL x = true) (h3 : hasL xs x = false) (h4 : 32 ≤ xs.length) : joinL xs x = (xs, 2) := by simp [joinL, h1, h2, h3, h4]
theorem join_done {xs : List Int} {x : Int} (h1 : lineL xs = true) (h2 : clientL x = true) (h3 : hasL xs x = false) (h4 : ¬ 32 ≤ xs.length) : joinL xs x = (xs ++ [x], 0) := by simp only [joinL, h1, h2, h3, h4, Bool.not_true, Bool.or_self, if_false, Bool.false_eq_true]
theorem leave_bad {xs : List Int} {x : Int} (h : lineL xs = false) : leaveL xs x = (xs, 1) := by simp [leaveL, h]
theorem leave_none {xs : List Int} {x : Int} (h : lineL xs = true) (h2 : hasL xs x = false) : leaveL xs x = (xs, 3) := by simp [leaveL, h, h2]
theorem leave_done {xs : List Int} {x : Int} (h : lineL xs = true) (h2 : hasL xs x = true) : leaveL xs x = (lessL xs x, 0) := by simp [leaveL, h, h2]

theorem specJoin_any (a : Option Addr) (n cap : Nat) (xs : List Int) (x : Int) (w : World) (hI : IntsAt w a n xs) (hn : n ≤ 2097152) (hcap : n ≤ cap) :
    Calls Try.prog 12 #[.slice a n cap, .int .i64 x] w fun e w' => ∃ g m c, e = .returned (.tuple #[.slice (some ⟨g, 0, none⟩) m c, .int .i64 (joinL xs x).2]) ∧ Owns w.heap.size w' g m c (joinL xs x).1 ∧ Below w.heap.size w w' := by
  go_enter Try.func12, Try.ntmps12
  go_wp2_with fail
  refine (l2Copy_any a n cap xs _ hI hn).mono ?_
  rintro e w1 ⟨g, c, rfl, ho1, hb1⟩
  go_wp2_with fail
  refine (specLineOk_any a n cap xs _ (hI.keep hb1) hn hcap).mono ?_
  rintro e w2 ⟨rfl, hb2⟩
  have ho2 := owns_keep ho1 hb2
  have hb := bl_trans hb1 hb2
  have hI2 := hI.keep hb
  have hlen := hI.len
  clear ho1 hb1 hb2 hI
  have Ho : Hid _ := ho2
  have Hb : Hid _ := hb
  have HI : Hid _ := hI2
  clear ho2 hb hI2
  cases hl : lineL xs
  · go_wp2
    go_ret2
    rw [join_bad (.inl hl)]
    exact ⟨g, n, c, rfl, Ho.out, Hb.out⟩
  · go_wp2_with fail
    refine (client_any x _).mono ?_
    rintro e w3 ⟨rfl, rfl⟩
    cases hc : clientL x
    · go_wp2
      go_ret2
      rw [join_bad (.inr hc)]
      exact ⟨g, n, c, rfl, Ho.out, Hb.out⟩
    · go_wp2_with fail
      refine (l2Has_any a n cap xs x _ HI.out hn).mono ?_
      rintro e w4 ⟨rfl, rfl⟩
      cases hh : hasL xs x
      · by_cases h32 : 32 ≤ n
        · have h32' : 32 ≤ (n : Int) := by omega
          go_wp2
          go_ret2
          rw [join_full hl hc hh (by omega)]
          exact ⟨g, n, c, rfl, Ho.out, Hb.out⟩
        · have h32' : ¬ 32 ≤ (n : Int) := by omega
          obtain ⟨g', c', w', hr, ho', hb'⟩ := append_one w.heap.size g n c _ x w4 w rfl Ho.out Hb.out (by omega)
          have Hr : Hid _ := hr
          have Ho' : Hid _ := ho'
          have Hb' : Hid _ := hb'
          clear hr ho' hb' Ho Hb
          go_wp2_with (at_builtin; refine wpList_append_run rfl _ _ 24 rfl _ _ _ rfl rfl Hr.out ?_)
          go_ret2
          rw [join_done hl hc hh (by omega)]
          exact ⟨g', n + 1, c', rfl, Ho'.out, Hb'.out⟩
      · go_wp2
        go_ret2
        rw [join_there hl hc hh]
        exact ⟨g, n, c, rfl, Ho.out, Hb.out⟩

theorem specLeave_any (a : Option Addr) (n cap : Nat) (xs : List Int) (x : Int) (w : World) (hI : IntsAt w a n xs) (hn : n ≤ 2097152) (hcap : n ≤ cap) :
    Calls Try.prog 24 #[.slice a n cap, .int .i64 x] w fun e w' => ∃ g m c, e = .returned (.tuple #[.slice (some ⟨g, 0, none⟩) m c, .int .i64 (leaveL xs x).2]) ∧ Owns w.heap.size w' g m c (leaveL xs x).1 ∧ Below w.heap.size w w' := by
  go_enter Try.func24, Try.ntmps24
  go_wp2_with fail
  refine (specLineOk_any a n cap xs _ hI hn hcap).mono ?_
  rintro e w1 ⟨rfl, hb1⟩
  have hI1 := hI.keep hb1
  have hle := hb1.size
  clear hI
  cases hl : lineL xs
  · go_wp2_with fail
    refine (l2Copy_any a n cap xs _ hI1 hn).mono ?_
    rintro e w2 ⟨g, c, rfl, ho2, hb2⟩
    have hb := bl_trans hb1 hb2
    have ho := owns_mono ho2 hle
    clear ho2 hb2 hb1 hI1
    have Ho : Hid _ := ho
    clear ho
    go_wp2
    go_ret2
    rw [leave_bad hl]
    exact ⟨g, n, c, rfl, Ho.out, hb⟩
  · go_wp2_with fail
    refine (l2Has_any a n cap xs x _ hI1 hn).mono ?_
    rintro e w2 ⟨rfl, rfl⟩
    cases hh : hasL xs x
    · go_wp2_with fail
      refine (l2Copy_any a n cap xs _ hI1 hn).mono ?_
      rintro e w3 ⟨g, c, rfl, ho2, hb2⟩
      have hb := bl_trans hb1 hb2
      have ho := owns_mono ho2 hle
      clear ho2 hb2 hb1 hI1
      have Ho : Hid _ := ho
      clear ho
      go_wp2
      go_ret2
      rw [leave_none hl hh]
      exact ⟨g, n, c, rfl, Ho.out, hb⟩
    · go_wp2_with fail
      refine (l2Less_any a n cap xs x _ hI1 hn).mono ?_
      rintro e w3 ⟨g, m, c, rfl, ho2, hb2⟩
      have hb := bl_trans hb1 hb2
      have ho := owns_mono ho2 hle
      clear ho2 hb2 hb1 hI1
      have Ho : Hid _ := ho
      clear ho
      go_wp2
      go_ret2
      rw [leave_done hl hh]
      exact ⟨g, m, c, rfl, Ho.out, hb⟩
end Go.Proofs.Ytlodnmbkicmjfaa
